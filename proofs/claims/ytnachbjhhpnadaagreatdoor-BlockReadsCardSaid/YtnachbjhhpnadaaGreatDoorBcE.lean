import Derived.Test.YtnachbjhhpnadaaGreatDoorBcB
import Derived.Test.YtnachbjhhpnadaaGreatDoorBcD
import Derived.BigRegion
import Derived.BigQuiet
set_option linter.unusedVariables false
set_option linter.unusedSimpArgs false
set_option maxHeartbeats 8000000
set_option maxRecDepth 100000
namespace Go.Proofs.YtnachbjhhpnadaaGreatDoor
section
open Go.RowKit SymM
def RowD (w:World) (g n:Nat) (d:Row):Prop:=RowI w g ((List.range n).map d)
theorem ZpY (d:Row) {n i:Nat} (h:i<n):((List.range n).map d).getD i 0=d i:=by
 rw [List.getD_eq_getElem?_getD,List.getElem?_map,List.getElem?_range h];rfl
theorem RowD.cell {w:World} {g n:Nat} {d:Row} (h:RowD w g n d) {i:Nat} (hi:i<n):w.cell? ⟨g,i,none⟩=some (.int .i64 (d i))/\w.frozen? ⟨g,i,none⟩=false:=by
 obtain⟨h1,h2,_⟩:=RowI.cell h (i:=i) (by simpa using hi);rw [ZpY d hi] at h1;exact⟨h1,h2⟩
theorem RowD.set {w:World} {g n:Nat} {d:Row} (h:RowD w g n d) {i:Nat} (hi:i<n) (x:Int):RowD (w.setCell ⟨g,i,none⟩ (.int .i64 x)) g n (fun k=>if k=i then x else d k):=by
 have h3:=(RowI.cell h (i:=i) (by simpa using hi)).2.2 x;unfold RowD
 have e:((List.range n).map d).set i x=(List.range n).map (fun k=>if k=i then x else d k):=by
  apply List.ext_getElem
  ·simp
  ·intro j h1 h2;rw [List.getElem_set];by_cases e:i=j
   ·subst e;simp
   ·rw [if_neg e];have:¬j=i:=fun h=>e h.symm
    simp [this]
 rw [<-e];exact h3
theorem RowD.swap {w:World} {g n:Nat} {d:Row} (h:RowD w g n d) {i j:Nat} (hi:i<n) (hj:j<n) (x y:Int) (hx:x=d j) (hy:y=d i):RowD ((w.setCell ⟨g,i,none⟩ (.int .i64 x)).setCell ⟨g,j,none⟩ (.int .i64 y)) g n (sw d i j):=by
 subst hx hy;have h2:=(h.set hi (d j)).set hj (d i)
 have e:(fun k=>if k=j then d i else(fun k=>if k=i then d j else d k) k)=sw d i j:=by
  funext k
  simp only [sw]
  repeat' split
  all_goals first
   | rfl
   | (subst_vars;rfl)
 rw [e] at h2;exact h2
theorem RowD.other {w w':World} {g n:Nat} {d:Row} (h:RowD w g n d) {S:Nat->Prop} (ht:Touch S w w') (hS:¬S g):RowD w' g n d:=RowI.other h ht hS
theorem RowD.drewN {w:World} {g n:Nat} {d:Row} (h:RowD w g n d) (k:Nat):RowD (w.drewN k) g n d:=h
theorem ZcQ {g i j:Nat} {w W:World} (h:Touch (·=g) w W) (x y:Value):Touch (·=g) w ((W.setCell ⟨g,i,none⟩ x).setCell ⟨g,j,none⟩ y):=Zaa (Zaa h)
theorem ZbT {S:Nat->Prop} {w W:World} (h:Touch S w W) (k:Nat):Touch S w (W.drewN k):=h.trans (Zad S W k) (fun i hi=>Or.inl hi)
theorem Zjy (g n a b N:Nat) (d:Row) (w:World) (fv:Value) (hR:RowD w g n d) (hab:a+N<=b) (hb:b+N<=n) (hn:n<=1000000) :
  Calls Tryz.prog 322 #[.slice (some ⟨g,0,none⟩) n n,.int .i64 (a:Int),.int .i64 (b:Int),.int .i64 (N:Int),fv] w fun e w'=>
   e=.returned (.tuple #[])/\RowD w' g n (swr d a b N)/\Touch (·=g) w w':=by
 have HR0:=zh hR;clear hR;go_enter Tryz.func322,Tryz.ntmps322;go_wp2_with fail
 go_loopw [10] (fun i wr=>∃k:Nat,k<=N/\i=.int .i64 k/\RowD wr g n (swr d a b k)/\Touch (·=g) w wr) (fun i _=>N-(intOf i).toNat)
 case atStart=>exact⟨0,Nat.zero_le _,rfl,by rw [ZpU];exact HR0.out,Touch.refl _ w⟩
 case round=>
  obtain⟨k,hk,rfl,hR,hT⟩:=hrel;have HR:=zh hR;have HT:=zh hT;clear hR hT;by_cases hlk:k<N
  ·obtain⟨i,hi⟩:∃i,a+k=i:=⟨_,rfl⟩
   obtain⟨j,hj⟩:∃j,b+k=j:=⟨_,rfl⟩
   have hi2:(a:Int)+(k:Int)=(i:Int):=by omega
   have hj2:(b:Int)+(k:Int)=(j:Int):=by omega
   have hki:(k:Int)<(N:Int):=by omega
   have hin:i<n:=by omega
   have hjn:j<n:=by omega
   have hin2:(i:Int)<(n:Int):=by omega
   have hjn2:(j:Int)<(n:Int):=by omega
   obtain⟨c1,f1⟩:=HR.out.cell hin;obtain⟨c2,f2⟩:=HR.out.cell hjn;obtain⟨x,hx⟩:∃x,swr d a b k i=x:=⟨_,rfl⟩
   obtain⟨y,hy⟩:∃y,swr d a b k j=y:=⟨_,rfl⟩
   rw [hx] at c1;rw [hy] at c2;have HX:=zh hx;have HY:=zh hy;have HI:=zh hi;have HJ:=zh hj;clear hx hy hi hj;go_wp2_with fail
   go_region
   go_wp2_with fail;go_roundw
   case rel=>exact⟨k+1,by omega,by go_num,by
    rw [<-ZpV d (by omega),HI.out,HJ.out];exact(HR.out.drewN _).swap hin hjn _ _ HY.out.symm HX.out.symm,ZcQ (ZbT HT.out _) _ _⟩
   case measure=>simp [intOf];omega
  ·have hki:¬(k:Int)<(N:Int):=by omega
   have hd:decide ((k:Int)<(N:Int))=false:=by simp only [decide_eq_false_iff_not];exact hki
   obtain rfl:N=k:=by omega
   go_wp2_with fail;go_end0;exact⟨rfl,HR.out,HT.out⟩
theorem ZcC (g n a m b:Nat) (d:Row) (w:World) (fv:Value) (hR:RowD w g n d) (ham:a<m) (hmb:m<b) (hb:b<=n) (hn:n<=1000000) :
  Calls Tryz.prog 321 #[.slice (some ⟨g,0,none⟩) n n,.int .i64 (a:Int),.int .i64 (m:Int),.int .i64 (b:Int),fv] w fun e w'=>
   e=.returned (.tuple #[])/\RowD w' g n (rot d a m b)/\Touch (·=g) w w':=by
 have HR0:=zh hR;clear hR;obtain⟨I0,hI0⟩:∃I0,m-a=I0:=⟨_,rfl⟩
 obtain⟨J0,hJ0⟩:∃J0,b-m=J0:=⟨_,rfl⟩
 have i1:(m:Int)-(a:Int)=(I0:Int):=by omega
 have i2:(b:Int)-(m:Int)=(J0:Int):=by omega
 have HI0:=zh hI0;have HJ0:=zh hJ0;clear hI0 hJ0;go_enter Tryz.func321,Tryz.ntmps321;go_wp2_with fail
 go_loopw [10,11] (fun i j wr=>∃(I J:Nat) (D:Row),i=.int .i64 I/\j=.int .i64 J/\0<I/\0<J/\I<=m/\m+J<=n/\RowD wr g n D/\rot D (m-I) m (m+J)=rot d a m b/\Touch (·=g) w wr) (fun i j _=>(intOf i).toNat+(intOf j).toNat)
 case atStart=>exact⟨I0,J0,d,rfl,rfl,by omega,by omega,by omega,by omega,HR0.out,by
  have:=HI0.out;have:=HJ0.out;rw [show m-I0=a by omega,show m+J0=b by omega],Touch.refl _ w⟩
 case round=>
  obtain⟨I,J,D,rfl,rfl,hI,hJ,hIm,hJn,hR,hE,hT⟩:=hrel;have HR:=zh hR;have HT:=zh hT;have HE:=zh hE;clear hR hT hE;obtain⟨A,hA⟩:∃A,m-I=A:=⟨_,rfl⟩
  have hA2:(m:Int)-(I:Int)=(A:Int):=by omega
  have HA:=zh hA;have hA3:A+I<=m:=by omega
  have hA4:m<=A+I:=by omega
  clear hA;by_cases hIJ:I=J
  ·subst hIJ;have hne:((I:Int) != (I:Int))=false:=by simp
   go_wp2_with fail;refine(Zjy g n A m I D wr fv HR.out hA3 hJn hn).mono ?_;rintro e w' ⟨rfl,hR1,hT1⟩;have HR1:=zh hR1;have HT1:=zh hT1;clear hR1 hT1;go_wp2_with fail;go_end0;refine⟨rfl,?_,HT.out.trans HT1.out (fun i hi=>Or.inl hi)⟩;rw [<-HE.out,<-ZpX D hIm,HA.out];exact HR1.out
  ·have hne:((I:Int) != (J:Int))=true:=by rw [bne_iff_ne];omega
   by_cases hlt:J<I
   ·have hlt2:(J:Int)<(I:Int):=by omega
    go_wp2_with fail;refine(Zjy g n A m J D wr fv HR.out (by omega) hJn hn).mono ?_;rintro e w' ⟨rfl,hR1,hT1⟩;have HR1:=zh hR1;have HT1:=zh hT1;clear hR1 hT1;go_wp2_with fail;go_roundw
    case rel=>exact⟨I-J,J,_,by go_num,rfl,by omega,hJ,by omega,hJn,HR1.out,by rw [<-HE.out,<-ZpW D hlt hIm,HA.out],HT.out.trans HT1.out (fun i hi=>Or.inl hi)⟩
    case measure=>simp [intOf];omega
   ·have hlt2:¬(J:Int)<(I:Int):=by omega
    have hIltJ:I<J:=by omega
    obtain⟨B,hB⟩:∃B,m+J-I=B:=⟨_,rfl⟩
    have hB2:(m:Int)+(J:Int)-(I:Int)=(B:Int):=by omega
    have HB:=zh hB;have hB3:A+I<=B:=by omega
    have hB4:B+I<=n:=by omega
    clear hB;go_wp2_with fail;refine(Zjy g n A B I D wr fv HR.out hB3 hB4 hn).mono ?_;rintro e w' ⟨rfl,hR1,hT1⟩;have HR1:=zh hR1;have HT1:=zh hT1;clear hR1 hT1;go_wp2_with fail;go_roundw
    case rel=>exact⟨I,J-I,_,rfl,by go_num,hI,by omega,hIm,by omega,HR1.out,by rw [<-HE.out,<-Znz D hIltJ hIm,HA.out,HB.out],HT.out.trans HT1.out (fun i hi=>Or.inl hi)⟩
    case measure=>simp [intOf];omega
def Rng (n:Nat) (d:Row):Prop:=∀k,k<n->0<=d k/\d k<(n:Int)
theorem Rng.pm {n a b:Nat} {d e:Row} (h:Rng n d) (p:Pm d e a b) (hb:b<=n):Rng n e:=fun k hk=>by
 by_cases h1:a<=k/\k<b
 ·obtain⟨k',h2,h3,h4⟩:=p.mem h1.1 h1.2;rw [h4];exact h k' (by omega)
 ·rw [p.out k h1];exact h k hk
def sgn (a b:Int):Int:=if a<b then -1 else if b<a then 1 else 0
structure CmpF (F:FuncId) (caps:Array Value) (g n:Nat) (wt:Int->Int) (I:World->Prop):Prop where
 enter:∀args w,(callFunc F args).run Tryz.prog w=.ok (.enter F args) w
 keep:∀W W',I W->Touch (·=g) W W'->I W'
 cmp:∀W (x y:Int),I W->0<=x->x<n->0<=y->y<n->Calls Tryz.prog F (#[.int .i64 x,.int .i64 y]++caps) W fun e w'=>e=.returned (.int .i64 (sgn (wt x) (wt y)))/\∃q,w'=W.drewN q
section
variable {F : FuncId} {caps : Array Value} {g n : Nat} {wt : Int -> Int} {I : World -> Prop}
theorem CmpF.at (h:CmpF F caps g n wt I) {W:World} (hI:I W) {d:Row} (hr:Rng n d) {i j:Nat} (hi:i<n) (hj:j<n) (x y:Int) (hx:d i=x) (hy:d j=y) :
  ∃z,(z<0↔wt x<wt y)/\-1<=z/\z<=1/\∀q,Calls Tryz.prog F (#[.int .i64 x,.int .i64 y]++caps) (W.drewN q) fun e w'=>e=.returned (.int .i64 z)/\∃q',w'=(W.drewN q).drewN q':=by
 subst hx hy;have h1:=hr i hi;have h2:=hr j hj;refine⟨sgn (wt (d i)) (wt (d j)),?_,?_,?_,fun q=>h.cmp _ _ _ (h.keep _ _ hI (Zad _ W q)) h1.1 h1.2 h2.1 h2.2⟩
 all_goals unfold sgn
 all_goals repeat' split
 all_goals omega
theorem ZnC (hC:CmpF F caps g n wt I) (a b:Nat) (d:Row) (w:World) (hR:RowD w g n d) (hI:I w) (hab:a<=b) (hb:b<=n) (hn:n<=1000000) (hr:Rng n d) (hinc:∀i j,a<=i->i<j->j<b->d i<d j) :
  Calls Tryz.prog 319 #[.slice (some ⟨g,0,none⟩) n n,.int .i64 (a:Int),.int .i64 (b:Int),.func (.func F) #[] caps] w fun e w'=>
   e=.returned (.tuple #[])/\(∃D,RowD w' g n D/\Pm d D a b/\Srt wt D a b)/\Touch (·=g) w w':=by
 have he:=hC.enter;have HR0:=zh hR;have HI0:=zh hI;have HC:=zh hC;have HRN:=zh hr;have HINC:=zh hinc;clear hR hI hC hr hinc;go_enter Tryz.func319,Tryz.ntmps319;go_wp2_with fail
 go_loopw [8] (fun vi wr=>∃(i:Nat) (D:Row),vi=.int .i64 i/\a<i/\i<=b+1/\RowD wr g n D/\Pm d D a (min i b)/\Srt wt D a (min i b)/\Touch (·=g) w wr) (fun vi _=>b+1-(intOf vi).toNat)
 case atStart=>exact⟨a+1,d,by go_num,by omega,by omega,HR0.out,Pm.refl _ _ _,Srt.one _ _ (by omega),Touch.refl _ w⟩
 case round=>
  obtain⟨i,D,rfl,hai,hib,hR,hP,hS,hT⟩:=hrel;have HR:=zh hR;have HP:=zh hP;have HS:=zh hS;have HT:=zh hT;clear hR hP hS hT;by_cases hi:i<b
  ·have hi2:(i:Int)<(b:Int):=by omega
   have hlow:Hid (Low D a i (i+1)):=zh (fun x y hx hxi hy hyi=>by
    have hP:=HP.out;rw [Nat.min_eq_left (by omega)] at hP;obtain rfl:y=i:=by omega
    obtain⟨k',h2,h3,h4⟩:=hP.mem hx (by omega);rw [h4,hP.out y (by omega)];exact HINC.out k' y h2 (by omega) hi)
   have hD:Hid (Rng n D):=zh (HRN.out.pm HP.out (by omega));have hSi:Hid (Srt wt D a i):=zh (by have:=HS.out;rw [Nat.min_eq_left (by omega)] at this;exact this);go_wp2_with fail
   go_loopw [9] (fun vj wr2=>∃(j:Nat),vj=.int .i64 j/\a<=j/\j<=i/\RowD wr2 g n (rot D j i (i+1))/\(j=i\/wt (D i)<wt (D j))/\Touch (·=g) w wr2) (fun vj _=>(intOf vj).toNat)
   case atStart=>exact⟨i,rfl,by omega,Nat.le_refl _,by rw [Zdw];exact HR.out,Or.inl rfl,HT.out⟩
   case round=>
    obtain⟨j,rfl,haj,hji,hR2,hE,hT2⟩:=hrel;have HR2:=zh hR2;have HE:=zh hE;have HT2:=zh hT2;clear hR2 hE hT2
    have hend:(j=a\/¬wt (D i)<wt (D (j-1)))->∀q,∃(i':Nat) (D':Row),Value.int .i64 ((i:Int)+1)=.int .i64 i'/\a<i'/\i'<=b+1/\RowD (wr.drewN q) g n D'/\Pm d D' a (min i' b)/\Srt wt D' a (min i' b)/\Touch (·=g) w (wr.drewN q):=fun h q=>
     ⟨i+1,rot D j i (i+1),by go_num,by omega,by omega,HR2.out.drewN q,by
      rw [Nat.min_eq_left (by omega)];have hP:=HP.out;rw [Nat.min_eq_left (by omega)] at hP;exact(hP.wide (Nat.le_refl _) (by omega) (by omega)).trans ((Zfa D hji (by omega)).wide haj (by omega) (Nat.le_refl _)),by
      rw [Nat.min_eq_left (by omega)];exact Zk9 hSi.out hlow.out haj hji h HE.out,ZbT HT2.out q⟩
    have HEND:=zh hend;clear hend;by_cases hja:a<j
    ·have hja2:(a:Int)<(j:Int):=by omega
     obtain⟨j1,hj1⟩:∃j1,j=j1+1:=⟨j-1,by omega⟩
     have hj2:(j:Int)-1=(j1:Int):=by omega
     have hjn:j<n:=by omega
     have hjn2:(j:Int)<(n:Int):=by omega
     have hj1n:j1<n:=by omega
     have hj1n2:(j1:Int)<(n:Int):=by omega
     obtain⟨c1,f1⟩:=HR2.out.cell hjn;obtain⟨c2,f2⟩:=HR2.out.cell hj1n;have ex:rot D j i (i+1) j=D i:=by rw [Zgr D (Nat.le_refl _) (by omega)];congr 1;omega
     have ey:rot D j i (i+1) j1=D j1:=Zgq D (by omega);obtain⟨x,hx⟩:∃x,rot D j i (i+1) j=x:=⟨_,rfl⟩
     obtain⟨y,hy⟩:∃y,rot D j i (i+1) j1=y:=⟨_,rfl⟩
     have hrr:Rng n (rot D j i (i+1)):=hD.out.pm (Zfa D hji (by omega)) (by omega);obtain⟨z,hz,hz1,hz2,hcall⟩:=HC.out.at (HC.out.keep _ _ HI0.out HT2.out) hrr hjn hj1n x y hx hy;rw [hx] at c1;rw [hy] at c2;have HX:=zh hx;have HY:=zh hy;have HCALL:=zh hcall;have HEX:Hid (x=D i):=zh (by rw [<-hx];exact ex);have HEY:Hid (y=D j1):=zh (by rw [<-hy];exact ey);have HJ1:=zh hj1;clear hx hy ex ey hcall hrr hj1;by_cases hlt:wt x<wt y
     ·have hz0:z<0:=hz.2 hlt;have HLT:=zh hlt;clear hlt hz;go_wp2_with fail
      go_quiet ((exact Calls.quiet_of (HCALL.out _)))
      go_wp2_with fail
      go_region
      go_wp2_with fail;go_roundw
      case rel=>exact⟨j1,by go_num,by have:=HJ1.out;omega,by have:=HJ1.out;omega,by
       have:=HJ1.out;subst this;rw [<-Zk8 D (show j1<i by omega)];exact(HR2.out.drewN _).swap hjn hj1n _ _ HY.out.symm HX.out.symm,Or.inr (by rw [<-HEX.out,<-HEY.out];exact HLT.out),ZcQ (ZbT HT2.out _) _ _⟩
      case measure=>have:=HJ1.out;simp [intOf];omega
     ·have hz0:¬z<0:=fun h=>hlt (hz.1 h)
      have HLT:=zh hlt;clear hlt hz;go_wp2_with fail
      go_quiet ((exact Calls.quiet_of (HCALL.out _)))
      go_wp2_with fail;go_roundw
      case rel=>exact HEND.out (Or.inr (by rw [show j-1=j1 by have:=HJ1.out;omega,<-HEX.out,<-HEY.out];exact HLT.out)) _
      case measure=>simp [intOf];omega
    ·have hd:decide ((a:Int)<(j:Int))=false:=by simp only [decide_eq_false_iff_not];omega
     go_wp2_with fail
     go_quiet (fail)
     go_wp2_with fail;go_roundw
     case rel=>exact HEND.out (Or.inl (by omega)) _
     case measure=>simp [intOf];omega
  ·have hi2:¬(i:Int)<(b:Int):=by omega
   go_wp2_with fail;go_end0;refine⟨rfl,⟨D,HR.out,?_,?_⟩,HT.out⟩
   ·have:=HP.out;rw [Nat.min_eq_right (by omega)] at this;exact this
   ·have:=HS.out;rw [Nat.min_eq_right (by omega)] at this;exact this
end
end
section
open Go.RowKit SymM
section
variable {F : FuncId} {caps : Array Value} {g n : Nat} {wt : Int -> Int} {I : World -> Prop}
def SrtP (wt:Int->Int) (g n:Nat) (d:Row) (a b:Nat) (w w':World):Prop:=(∃D,RowD w' g n D/\Pm d D a b/\Srt wt D a b)/\Touch (·=g) w w'
theorem ZnD (hC:CmpF F caps g n wt I) (a b:Nat) (d:Row) (w:World) (hR:RowD w g n d) (hI:I w) (hab:a+1<b) (hb:b<=n) (hn:n<=1000000) (hr:Rng n d) (hs:Srt wt d (a+1) b) (hl:Low d a (a+1) b) (m:Nat) (hm:m=a+1) :
  Calls Tryz.prog 320 #[.slice (some ⟨g,0,none⟩) n n,.int .i64 (a:Int),.int .i64 (m:Int),.int .i64 (b:Int),.func (.func F) #[] caps] w fun e w'=>
   e=.returned (.tuple #[])/\SrtP wt g n d a b w w':=by
 have he:=hC.enter;have HR:=zh hR;have HI0:=zh hI;have HC:=zh hC;have HRN:=zh hr;have HS:=zh hs;have HL:=zh hl;have HM:=zh hm;have hma1:a+1<=m:=by omega
 have hma2:m<=a+1:=by omega
 have hone:((m:Int)-(a:Int)==1)=true:=by rw [beq_iff_eq];omega
 have han:a<n:=by omega
 have han2:(a:Int)<(n:Int):=by omega
 obtain⟨y,hy⟩:∃y,d a=y:=⟨_,rfl⟩
 have HY:=zh hy;clear hR hI hC hr hs hl hm hy;go_enter Tryz.func320,Tryz.ntmps320;go_wp2_with fail
 go_loopw [10,11] (fun vi vj wr=>∃i j q:Nat,vi=.int .i64 i/\vj=.int .i64 j/\m<=i/\i<=j/\j<=b/\(i=m\/wt (d (i-1))<wt (d a))/\(j=b\/wt (d a)<=wt (d j))/\wr=w.drewN q) (fun vi vj _=>(intOf vj).toNat-(intOf vi).toNat)
 case atStart=>exact⟨m,b,0,rfl,rfl,by omega,by omega,by omega,Or.inl rfl,Or.inl rfl,rfl⟩
 case round=>
  obtain⟨i,j,q,rfl,rfl,hmi,hij,hjb,h1,h2,hw⟩:=hrel;have HRW:Hid (RowD wr g n d):=zh (by rw [hw];exact HR.out.drewN q);have HIW:Hid (I wr):=zh (by rw [hw];exact HC.out.keep _ _ HI0.out (Zad _ w q));have HW:=zh hw;clear hw;have H1:=zh h1;have H2:=zh h2;clear h1 h2;by_cases hlt:i<j
  ·have hlt2:(i:Int)<(j:Int):=by omega
   obtain⟨c,hc⟩:∃c,(i+j) / 2=c:=⟨_,rfl⟩
   have hcI:((i:Int)+(j:Int)) / 2=(c:Int):=by omega
   have hcn:c<n:=by omega
   have hcn2:(c:Int)<(n:Int):=by omega
   have hci:i<=c:=by omega
   have hcj:c<j:=by omega
   have HCC:=zh hc;obtain⟨c1,f1⟩:=HRW.out.cell hcn;obtain⟨c2,f2⟩:=HRW.out.cell han;obtain⟨x,hx⟩:∃x,d c=x:=⟨_,rfl⟩
   rw [hx] at c1;rw [HY.out] at c2;obtain⟨z,hz,hz1,hz2,hcall⟩:=HC.out.at HIW.out HRN.out hcn han x y hx HY.out;have HX:=zh hx;have HCALL:=zh hcall;have HZ:=zh hz;clear hx hcall hz hc;by_cases hz0:z<0
   ·go_wp2_with fail
    go_quiet ((exact Calls.quiet_of (HCALL.out _)))
    go_wp2_with fail;go_roundw
    case rel=>exact⟨c+1,j,_,by go_num,rfl,by omega,by omega,hjb,Or.inr (by rw [Nat.add_sub_cancel,HX.out,HY.out];have:=HZ.out;omega),H2.out,by rw [HW.out];exact World.drewN_drewN ..⟩
    case measure=>simp [intOf];omega
   ·go_wp2_with fail
    go_quiet ((exact Calls.quiet_of (HCALL.out _)))
    go_wp2_with fail;go_roundw
    case rel=>exact⟨i,c,_,rfl,by go_num,hmi,hci,by omega,H1.out,Or.inr (by rw [HX.out,HY.out];have:=HZ.out;omega),by rw [HW.out];exact World.drewN_drewN ..⟩
    case measure=>simp [intOf];omega
  ·have hlt2:¬(i:Int)<(j:Int):=by omega
   obtain rfl:j=i:=by omega
   have hsrt:Hid (Srt wt (rot d a (a+1) j) a b):=zh (by
    have hm:=HM.out;refine ZnA HS.out HL.out (by omega) hjb ?_ ?_
    ·rcases H1.out with e|e
     ·exact Or.inl (by omega)
     ·exact Or.inr e
    ·rcases H2.out with e|e
     ·exact Or.inl e
     ·exact Or.inr (by omega))
   obtain⟨p,hp⟩:∃p,j=p+1:=⟨j-1,by omega⟩
   have hp2:(j:Int)-1=(p:Int):=by omega
   have hap:a<=p:=by omega
   have hpn:p<n:=by omega
   have hpn2:(p:Int)<(n:Int):=by omega
   have HT1:Hid (Touch (·=g) w wr):=zh (by rw [HW.out];exact Zad _ w q);have HP:=zh hp;clear hp;go_wp2_with fail
   go_loopw [13] (fun vk w2=>∃k:Nat,vk=.int .i64 k/\a<=k/\k<=p/\RowD w2 g n (rot d a (a+1) (k+1))/\Touch (·=g) w w2) (fun vk _=>p-(intOf vk).toNat)
   case atStart=>exact⟨a,rfl,Nat.le_refl _,hap,by rw [Zk7];exact HRW.out,HT1.out⟩
   case round=>
    obtain⟨k,rfl,hak,hkp,hR2,hT2⟩:=hrel;have HR2:=zh hR2;have HT2:=zh hT2;clear hR2 hT2;by_cases hkl:k<p
    ·have hkl2:(k:Int)<(p:Int):=by omega
     obtain⟨l,hl⟩:∃l,k+1=l:=⟨_,rfl⟩
     have hl2:(k:Int)+1=(l:Int):=by omega
     have hkn:k<n:=by omega
     have hkn2:(k:Int)<(n:Int):=by omega
     have hln:l<n:=by omega
     have hln2:(l:Int)<(n:Int):=by omega
     obtain⟨c1,f1⟩:=HR2.out.cell hkn;obtain⟨c2,f2⟩:=HR2.out.cell hln;obtain⟨x,hx⟩:∃x,rot d a (a+1) (k+1) k=x:=⟨_,rfl⟩
     obtain⟨y,hy⟩:∃y,rot d a (a+1) (k+1) l=y:=⟨_,rfl⟩
     rw [hx] at c1;rw [hy] at c2;have HX:=zh hx;have HY:=zh hy;have HLL:=zh hl;clear hx hy hl;go_wp2_with fail
     go_region
     go_wp2_with fail;go_roundw
     case rel=>exact⟨l,rfl,by have:=HLL.out;omega,by have:=HLL.out;omega,by
      have:=HLL.out;subst this;rw [<-Zti d hak];exact(HR2.out.drewN _).swap hkn hln _ _ HY.out.symm HX.out.symm,ZcQ (ZbT HT2.out _) _ _⟩
     case measure=>have:=HLL.out;simp [intOf];omega
    ·have hkl2:¬(k:Int)<(p:Int):=by omega
     obtain rfl:p=k:=by omega
     go_wp2_with fail;refine bodyPost_ret (results_none rfl _ _ _) rfl ?_;have e:=HP.out;subst e;exact⟨rfl,⟨_,HR2.out,(Zfa d (by omega) (by omega)).wide (Nat.le_refl _) (by omega) hjb,hsrt.out⟩,HT2.out⟩
theorem ZpZ (hC:CmpF F caps g n wt I) (a m:Nat) (d:Row) (w:World) (hR:RowD w g n d) (hI:I w) (ham:a+1<m) (hb:m+1<=n) (hn:n<=1000000) (hr:Rng n d) (hs:Srt wt d a m) (hl:Low d a m (m+1)) (b:Nat) (hbm:b=m+1) :
  Calls Tryz.prog 320 #[.slice (some ⟨g,0,none⟩) n n,.int .i64 (a:Int),.int .i64 (m:Int),.int .i64 (b:Int),.func (.func F) #[] caps] w fun e w'=>
   e=.returned (.tuple #[])/\SrtP wt g n d a b w w':=by
 have he:=hC.enter;have HR:=zh hR;have HI0:=zh hI;have HC:=zh hC;have HRN:=zh hr;have HS:=zh hs;have HL:=zh hl;have HB:=zh hbm;have hone0:((m:Int)-(a:Int)==1)=false:=by rw [beq_eq_false_iff_ne];omega
 have hone:((b:Int)-(m:Int)==1)=true:=by rw [beq_iff_eq];omega
 have hmn:m<n:=by omega
 have hmn2:(m:Int)<(n:Int):=by omega
 have hbn:b<=n:=by omega
 obtain⟨x,hx⟩:∃x,d m=x:=⟨_,rfl⟩
 have HX:=zh hx;clear hR hI hC hr hs hl hbm hx;go_enter Tryz.func320,Tryz.ntmps320;go_wp2_with fail
 go_loopw [14,15] (fun vi vj wr=>∃i j q:Nat,vi=.int .i64 i/\vj=.int .i64 j/\a<=i/\i<=j/\j<=m/\(i=a\/wt (d (i-1))<=wt (d m))/\(j=m\/wt (d m)<wt (d j))/\wr=w.drewN q) (fun vi vj _=>(intOf vj).toNat-(intOf vi).toNat)
 case atStart=>exact⟨a,m,0,rfl,rfl,by omega,by omega,by omega,Or.inl rfl,Or.inl rfl,rfl⟩
 case round=>
  obtain⟨i,j,q,rfl,rfl,hmi,hij,hjb,h1,h2,hw⟩:=hrel;have HRW:Hid (RowD wr g n d):=zh (by rw [hw];exact HR.out.drewN q);have HIW:Hid (I wr):=zh (by rw [hw];exact HC.out.keep _ _ HI0.out (Zad _ w q));have HW:=zh hw;have H1:=zh h1;have H2:=zh h2;clear hw h1 h2;by_cases hlt:i<j
  ·have hlt2:(i:Int)<(j:Int):=by omega
   obtain⟨c,hc⟩:∃c,(i+j) / 2=c:=⟨_,rfl⟩
   have hcI:((i:Int)+(j:Int)) / 2=(c:Int):=by omega
   have hcn:c<n:=by omega
   have hcn2:(c:Int)<(n:Int):=by omega
   have hci:i<=c:=by omega
   have hcj:c<j:=by omega
   have HCC:=zh hc;obtain⟨c1,f1⟩:=HRW.out.cell hcn;obtain⟨c2,f2⟩:=HRW.out.cell hmn;obtain⟨y,hy⟩:∃y,d c=y:=⟨_,rfl⟩
   rw [hy] at c1;rw [HX.out] at c2;obtain⟨z,hz,hz1,hz2,hcall⟩:=HC.out.at HIW.out HRN.out hmn hcn x y HX.out hy;have HY:=zh hy;have HCALL:=zh hcall;have HZ:=zh hz;clear hy hcall hz hc;by_cases hz0:z<0
   ·have hz3:(!decide (z<0))=false:=by simp;omega
    go_wp2_with fail
    go_quiet ((exact Calls.quiet_of (HCALL.out _)))
    go_wp2_with fail;go_roundw
    case rel=>exact⟨i,c,_,rfl,by go_num,hmi,hci,by omega,H1.out,Or.inr (by rw [HX.out,HY.out];have:=HZ.out;omega),by rw [HW.out];exact World.drewN_drewN ..⟩
    case measure=>simp [intOf];omega
   ·have hz3:(!decide (z<0))=true:=by simp;omega
    go_wp2_with fail
    go_quiet ((exact Calls.quiet_of (HCALL.out _)))
    go_wp2_with fail;go_roundw
    case rel=>exact⟨c+1,j,_,by go_num,rfl,by omega,by omega,hjb,Or.inr (by rw [Nat.add_sub_cancel,HX.out,HY.out];have:=HZ.out;omega),H2.out,by rw [HW.out];exact World.drewN_drewN ..⟩
    case measure=>simp [intOf];omega
  ·have hlt2:¬(i:Int)<(j:Int):=by omega
   obtain rfl:j=i:=by omega
   have hsrt:Hid (Srt wt (rot d j m (m+1)) a (m+1)):=zh (by
    refine Zk9 HS.out HL.out hmi hjb ?_ ?_
    ·rcases H1.out with e|e
     ·exact Or.inl (by omega)
     ·exact Or.inr (by omega)
    ·rcases H2.out with e|e
     ·exact Or.inl e
     ·exact Or.inr (by omega))
   have HT1:Hid (Touch (·=g) w wr):=zh (by rw [HW.out];exact Zad _ w q);go_wp2_with fail
   go_loopw [17] (fun vk w2=>∃k:Nat,vk=.int .i64 k/\j<=k/\k<=m/\RowD w2 g n (rot d k m (m+1))/\Touch (·=g) w w2) (fun vk _=>(intOf vk).toNat)
   case atStart=>exact⟨m,rfl,hjb,Nat.le_refl _,by rw [Zdw];exact HRW.out,HT1.out⟩
   case round=>
    obtain⟨k,rfl,hak,hkp,hR2,hT2⟩:=hrel;have HR2:=zh hR2;have HT2:=zh hT2;clear hR2 hT2;by_cases hkl:j<k
    ·have hkl2:(j:Int)<(k:Int):=by omega
     obtain⟨l,hl⟩:∃l,k=l+1:=⟨k-1,by omega⟩
     have hl2:(k:Int)-1=(l:Int):=by omega
     have hkn:k<n:=by omega
     have hkn2:(k:Int)<(n:Int):=by omega
     have hln:l<n:=by omega
     have hln2:(l:Int)<(n:Int):=by omega
     obtain⟨c1,f1⟩:=HR2.out.cell hkn;obtain⟨c2,f2⟩:=HR2.out.cell hln;obtain⟨X,hx⟩:∃x,rot d k m (m+1) k=x:=⟨_,rfl⟩
     obtain⟨Y,hy⟩:∃y,rot d k m (m+1) l=y:=⟨_,rfl⟩
     rw [hx] at c1;rw [hy] at c2;have HX:=zh hx;have HY:=zh hy;have HLL:=zh hl;clear hx hy hl;go_wp2_with fail
     go_region
     go_wp2_with fail;go_roundw
     case rel=>exact⟨l,by go_num,by have:=HLL.out;omega,by have:=HLL.out;omega,by
      have:=HLL.out;subst this;rw [<-Zk8 d (show l<m by omega)];exact(HR2.out.drewN _).swap hkn hln _ _ HY.out.symm HX.out.symm,ZcQ (ZbT HT2.out _) _ _⟩
     case measure=>have:=HLL.out;simp [intOf];omega
    ·have hkl2:¬(j:Int)<(k:Int):=by omega
     obtain rfl:k=j:=by omega
     go_wp2_with fail;refine bodyPost_ret (results_none rfl _ _ _) rfl ?_;have e:=HB.out;subst e;exact⟨rfl,⟨_,HR2.out,(Zfa d hkp (by omega)).wide (by omega) (by omega) (Nat.le_refl _),hsrt.out⟩,HT2.out⟩
end
end
section
open Go.RowKit SymM
theorem ZcR {w:Int->Int} {d:Row} {a s m e b:Nat} (h:Cut w d a s m e b) (hg:¬(a<s/\s<s+(e-m))):Srt w (rot d s m e) a (s+(e-m)):=by
 obtain⟨s1,s2,s3,s4⟩:=h.srt;have:=h.o1;by_cases h1:a<s
 ·rw [show s+(e-m)=s by omega];exact s1
 ·rw [show a=s by omega];exact s2
theorem ZnE {w:Int->Int} {d:Row} {a s m e b:Nat} (h:Cut w d a s m e b) (hg:¬(s+(e-m)<e/\e<b)):Srt w (rot d s m e) (s+(e-m)) b:=by
 obtain⟨s1,s2,s3,s4⟩:=h.srt;have:=h.o2;have:=h.o3;have:=h.o4;by_cases h1:s+(e-m)<e
 ·rw [show b=e by omega];exact s3
 ·rw [show s+(e-m)=e by omega];exact s4
section
variable {F : FuncId} {caps : Array Value} {g n : Nat} {wt : Int -> Int} {I : World -> Prop}
structure MerP (wt:Int->Int) (g n:Nat) (I:World->Prop) (d:Row) (a m b:Nat) (w:World):Prop where
 row:RowD w g n d
 inv:I w
 rng:Rng n d
 sl:Srt wt d a m
 sr:Srt wt d m b
 low:Low d a m b
theorem Zfb (hC:CmpF F caps g n wt I) {d:Row} {a s m e b:Nat} {w:World} (h:Cut wt d a s m e b) (hr:Rng n d) (hb:b<=n) (hR:RowD w g n (rot d s m e)) (hI:I w):MerP wt g n I (rot d s m e) a s (s+(e-m)) w:=by
 obtain⟨s1,s2,s3,s4⟩:=h.srt;exact⟨hR,hI,hr.pm (Zfa d h.o2 h.o3) (by have:=h.o4;omega),s1,s2,h.low1⟩
theorem Zdy (hC:CmpF F caps g n wt I) {d D:Row} {a s m e b:Nat} {w:World} (h:Cut wt d a s m e b) (hr:Rng n d) (hb:b<=n) (hp:Pm (rot d s m e) D a (s+(e-m))) (hR:RowD w g n D) (hI:I w):MerP wt g n I D (s+(e-m)) e b w:=by
 obtain⟨s1,s2,s3,s4⟩:=h.srt;have o2:=h.o2;have o3:=h.o3;have o4:=h.o4;have l2:=h.low2;refine⟨hR,hI,(hr.pm (Zfa d o2 o3) (by omega)).pm hp (by omega),?_,?_,?_⟩
 ·intro i j hi hij hj;rw [hp.out i (by omega),hp.out j (by omega)];exact s3 i j hi hij hj
 ·intro i j hi hij hj;rw [hp.out i (by omega),hp.out j (by omega)];exact s4 i j hi hij hj
 ·intro i j hi hij hj hjb;rw [hp.out i (by omega),hp.out j (by omega)];exact l2 i j hi hij hj hjb
def LeftP (wt:Int->Int) (g n:Nat) (d:Row) (a s m e:Nat) (w w':World):Prop:=(∃D,RowD w' g n D/\Pm (rot d s m e) D a (s+(e-m))/\Srt wt D a (s+(e-m)))/\Touch (·=g) w w'
theorem ZcS {d:Row} {a s m e b:Nat} {w w':World} (h:Cut wt d a s m e b) (hL:LeftP wt g n d a s m e w w') (hg:¬(s+(e-m)<e/\e<b)):SrtP wt g n d a b w w':=by
 obtain⟨⟨D,hR,hp,hs⟩,hT⟩:=hL;have o2:=h.o2;have o3:=h.o3;have hr:=ZnE h hg
 obtain⟨p,q⟩:=Zh8 h hp (Pm.refl D _ b) hs (by
  intro i j hi hij hj;rw [hp.out i (by omega),hp.out j (by omega)];exact hr i j hi hij hj)
 exact⟨⟨D,hR,p,q⟩,hT⟩
theorem ZcD {d D:Row} {a s m e b:Nat} {w w1 w':World} (h:Cut wt d a s m e b) (hp:Pm (rot d s m e) D a (s+(e-m))) (hs:Srt wt D a (s+(e-m))) (hT:Touch (·=g) w w1) (hS:SrtP wt g n D (s+(e-m)) b w1 w'):SrtP wt g n d a b w w':=by
 obtain⟨⟨D3,hR3,hp3,hs3⟩,hT3⟩:=hS;obtain⟨p,q⟩:=Zh8 h hp hp3 hs hs3;exact⟨⟨D3,hR3,p,q⟩,hT.trans hT3 (fun i hi=>Or.inl hi)⟩
end
end
section
open Go.RowKit SymM
section
variable {F : FuncId} {caps : Array Value} {g n : Nat} {wt : Int -> Int} {I : World -> Prop}
theorem Ztj (hC:CmpF F caps g n wt I) (hn:n<=1000000) (K:Nat) (ih:∀(a m b:Nat) (d:Row) (w:World),b<=a+K->a<m->m<b->b<=n->MerP wt g n I d a m b w ->
  Calls Tryz.prog 320 #[.slice (some ⟨g,0,none⟩) n n,.int .i64 (a:Int),.int .i64 (m:Int),.int .i64 (b:Int),.func (.func F) #[] caps] w fun e w'=>
   e=.returned (.tuple #[])/\SrtP wt g n d a b w w')
  (a m b:Nat) (d:Row) (w:World) (hK:b<=a+(K+1)) (ham:a<m) (hmb:m<b) (hbn:b<=n) (hP:MerP wt g n I d a m b w) (hf:¬m=a+1) (hl:¬b=m+1) (hc:(a+b) / 2<m) :
  Calls Tryz.prog 320 #[.slice (some ⟨g,0,none⟩) n n,.int .i64 (a:Int),.int .i64 (m:Int),.int .i64 (b:Int),.func (.func F) #[] caps] w fun e w'=>
   e=.returned (.tuple #[])/\SrtP wt g n d a b w w':=by
  have he:=hC.enter;have HC:=zh hC;have HIH:=zh ih;have HP:=zh hP;have hone0:((m:Int)-(a:Int)==1)=false:=by rw [beq_eq_false_iff_ne];omega
  have hone1:((b:Int)-(m:Int)==1)=false:=by rw [beq_eq_false_iff_ne];omega
  obtain⟨mid,hmid⟩:∃mid,(a+b) / 2=mid:=⟨_,rfl⟩
  obtain⟨N,hN⟩:∃N,mid+m=N:=⟨_,rfl⟩
  obtain⟨p,hp⟩:∃p,N-1=p:=⟨_,rfl⟩
  have hmid2:((a:Int)+(b:Int)) / 2=(mid:Int):=by omega
  have hN2:(mid:Int)+(m:Int)=(N:Int):=by omega
  have hp2:(N:Int)-1=(p:Int):=by omega
  have hNb:N<=2000000:=by omega
  have hpb:p<=2000000:=by omega
  have ham2:a<mid:=by omega
  have hmb2:mid<b:=by omega
  have hmm:mid<m:=by omega
  have HMID:=zh hmid;have HN:=zh hN;have HPP:=zh hp;clear hC ih hP hf hl hmid hN hp hc;go_enter Tryz.func320,Tryz.ntmps320;have hmm2:(mid:Int)<(m:Int):=by omega
  obtain⟨lo,hlo⟩:∃lo,N-b=lo:=⟨_,rfl⟩
  have hlo2:(N:Int)-(b:Int)=(lo:Int):=by have:=HN.out;omega
  have hlo3:lo<=mid:=by have:=HN.out;omega
  have HLO:Hid (lo=if mid<m then mid+m-b else a):=zh (by rw [if_pos hmm];have:=HN.out;omega);have HR0:Hid (mid=if mid<m then mid else m):=zh (by rw [if_pos hmm]);clear hlo;go_wp2_with fail
  go_loopw [20,21] (fun vi vj wr=>∃s r q:Nat,vi=.int .i64 s/\vj=.int .i64 r/\lo<=s/\s<=r/\r<=mid/\(s=lo\/wt (d (s-1))<=wt (d (mid+m-1-(s-1))))/\(r=mid\/wt (d (mid+m-1-r))<wt (d r))/\wr=w.drewN q) (fun vi vj _=>(intOf vj).toNat-(intOf vi).toNat)
  case atStart=>exact⟨lo,mid,0,rfl,rfl,Nat.le_refl _,by omega,Nat.le_refl _,Or.inl rfl,Or.inl rfl,rfl⟩
  case round=>
   obtain⟨s,r,q,rfl,rfl,hls,hsr,hrr,h1,h2,hw⟩:=hrel;have HRW:Hid (RowD wr g n d):=zh (by rw [hw];exact HP.out.row.drewN q);have HIW:Hid (I wr):=zh (by rw [hw];exact HC.out.keep _ _ HP.out.inv (Zad _ w q));have HT:Hid (Touch (·=g) w wr):=zh (by rw [hw];exact Zad _ w q);have HW:=zh hw;have H1:=zh h1;have H2:=zh h2;clear hw h1 h2;by_cases hlt:s<r
   ·have hlt2:(s:Int)<(r:Int):=by omega
    obtain⟨c,hc⟩:∃c,(s+r) / 2=c:=⟨_,rfl⟩
    have hcI:((s:Int)+(r:Int)) / 2=(c:Int):=by omega
    have hci:s<=c:=by omega
    have hcj:c<r:=by omega
    have hcn:c<n:=by omega
    have hcn2:(c:Int)<(n:Int):=by omega
    obtain⟨u,hu⟩:∃u,p-c=u:=⟨_,rfl⟩
    have hu2:(p:Int)-(c:Int)=(u:Int):=by have:=HN.out;have:=HPP.out;omega
    have hun:u<n:=by have:=HN.out;have:=HPP.out;have:=HMID.out;omega
    have hun2:(u:Int)<(n:Int):=by omega
    have HU:Hid (mid+m-1-c=u):=zh (by have:=HN.out;have:=HPP.out;omega);obtain⟨c1,f1⟩:=HRW.out.cell hcn;obtain⟨c2,f2⟩:=HRW.out.cell hun;obtain⟨x,hx⟩:∃x,d u=x:=⟨_,rfl⟩
    obtain⟨y,hy⟩:∃y,d c=y:=⟨_,rfl⟩
    rw [hy] at c1;rw [hx] at c2;obtain⟨z,hz,hz1,hz2,hcall⟩:=HC.out.at HIW.out HP.out.rng hun hcn x y hx hy;have HX:=zh hx;have HY:=zh hy;have HCALL:=zh hcall;have HZ:=zh hz;clear hx hy hcall hz hc hu;by_cases hz0:z<0
    ·have hz3:(!decide (z<0))=false:=by simp;omega
     go_wp2_with fail
     go_quiet ((exact Calls.quiet_of (HCALL.out _)))
     go_wp2_with fail;go_roundw
     case rel=>exact⟨s,c,_,rfl,by go_num,hls,hci,by omega,H1.out,Or.inr (by rw [HU.out,HX.out,HY.out];have:=HZ.out;omega),by rw [HW.out];exact World.drewN_drewN ..⟩
     case measure=>simp [intOf];omega
    ·have hz3:(!decide (z<0))=true:=by simp;omega
     go_wp2_with fail
     go_quiet ((exact Calls.quiet_of (HCALL.out _)))
     go_wp2_with fail;go_roundw
     case rel=>exact⟨c+1,r,_,by go_num,rfl,by omega,by omega,hrr,Or.inr (by rw [Nat.add_sub_cancel,HU.out,HX.out,HY.out];have:=HZ.out;omega),H2.out,by rw [HW.out];exact World.drewN_drewN ..⟩
     case measure=>simp [intOf];omega
   ·have hlt2:¬(s:Int)<(r:Int):=by omega
    obtain rfl:r=s:=by omega
    have hsm:r<=m:=by omega
    have hsd:r<=mid:=by omega
    have has:a<=r:=by have:=HN.out;omega
    obtain⟨E,hE⟩:∃E,N-r=E:=⟨_,rfl⟩
    have hE2:(N:Int)-(r:Int)=(E:Int):=by have:=HN.out;omega
    have hEb:E<=b:=by have:=HN.out;have:=HMID.out;omega
    have HCUT:Hid (Cut wt d a r m E b):=zh (by
     have:=ZnB (s:=r) HP.out.sl HP.out.sr HP.out.low ham hmb HMID.out.symm HLO.out HR0.out hls hrr (by
      rcases H1.out with e|e
      ·exact Or.inl e
      ·exact Or.inr (by omega)) H2.out
     rw [HN.out,hE] at this;exact this)
    have HM:Hid (r+(E-m)=mid):=zh (by have:=HN.out;omega);have hmE:m<=E:=by have:=HN.out;omega
    have HE:Hid (E+r=mid+m):=zh (by have:=HN.out;omega);clear hE H1 H2;by_cases hA:r<m/\r<mid
    ·obtain⟨hA1,hA2⟩:=hA;by_cases hL:a<r
     ·by_cases hQ:E<b
      ·have t1:(r:Int)<(m:Int):=by have:=HE.out;first|omega|(have:=HB.out;omega)
       have t2:(m:Int)<(E:Int):=by have:=HE.out;first|omega|(have:=HB.out;omega)
       have t3:(a:Int)<(r:Int):=by have:=HE.out;first|omega|(have:=HB.out;omega)
       have t4:(r:Int)<(mid:Int):=by have:=HE.out;first|omega|(have:=HB.out;omega)
       have t5:(mid:Int)<(E:Int):=by have:=HE.out;first|omega|(have:=HB.out;omega)
       have t6:(E:Int)<(b:Int):=by have:=HE.out;first|omega|(have:=HB.out;omega)
       go_wp2_with fail;refine(ZcC g n r m E d wr _ HRW.out (by omega) (by omega) (by omega) hn).mono ?_;rintro e w1 ⟨rfl,hR1,hT1⟩;have HR1:=zh hR1;have HT1:Hid (Touch (·=g) w w1):=zh (HT.out.trans hT1 (fun i hi=>Or.inl hi));have HI1:Hid (I w1):=zh (HC.out.keep _ _ HIW.out hT1);clear hR1 hT1;go_wp2_with fail;refine(HIH.out a r mid (rot d r m E) w1 (by omega) (by omega) (by omega) (by omega) (by rw [<-HM.out];exact Zfb HC.out HCUT.out HP.out.rng hbn HR1.out HI1.out)).mono ?_;rintro e w2 ⟨rfl,hS2⟩;have HT2:Hid (Touch (·=g) w w2):=zh (HT1.out.trans hS2.2 (fun i hi=>Or.inl hi));have HI2:Hid (I w2):=zh (HC.out.keep _ _ HI1.out hS2.2);have HS2:Hid (LeftP wt g n d a r m E w w2):=zh (by rw [<-HM.out] at hS2;exact⟨hS2.1,HT2.out⟩);clear hS2;go_wp2_with fail;obtain⟨⟨D,hRD,hPD,hSD⟩,_⟩:=HS2.out;have HPD:=zh hPD;have HSD:=zh hSD;have HRD:=zh hRD;clear hPD hSD hRD;refine(HIH.out mid E b D w2 (by omega) (by omega) (by omega) (by omega) (by rw [<-HM.out];exact Zdy HC.out HCUT.out HP.out.rng hbn HPD.out HRD.out HI2.out)).mono ?_;rintro e w3 ⟨rfl,hS3⟩;have HS3:=zh hS3;clear hS3;go_wp2_with fail;go_end0;refine⟨rfl,ZcD HCUT.out HPD.out HSD.out HT2.out ?_⟩;rw [HM.out];exact HS3.out
      ·have t1:(r:Int)<(m:Int):=by have:=HE.out;first|omega|(have:=HB.out;omega)
       have t2:(m:Int)<(E:Int):=by have:=HE.out;first|omega|(have:=HB.out;omega)
       have t3:(a:Int)<(r:Int):=by have:=HE.out;first|omega|(have:=HB.out;omega)
       have t4:(r:Int)<(mid:Int):=by have:=HE.out;first|omega|(have:=HB.out;omega)
       have t5:(mid:Int)<(E:Int):=by have:=HE.out;first|omega|(have:=HB.out;omega)
       have t6:¬(E:Int)<(b:Int):=by have:=HE.out;first|omega|(have:=HB.out;omega)
       go_wp2_with fail;refine(ZcC g n r m E d wr _ HRW.out (by omega) (by omega) (by omega) hn).mono ?_;rintro e w1 ⟨rfl,hR1,hT1⟩;have HR1:=zh hR1;have HT1:Hid (Touch (·=g) w w1):=zh (HT.out.trans hT1 (fun i hi=>Or.inl hi));have HI1:Hid (I w1):=zh (HC.out.keep _ _ HIW.out hT1);clear hR1 hT1;go_wp2_with fail;refine(HIH.out a r mid (rot d r m E) w1 (by omega) (by omega) (by omega) (by omega) (by rw [<-HM.out];exact Zfb HC.out HCUT.out HP.out.rng hbn HR1.out HI1.out)).mono ?_;rintro e w2 ⟨rfl,hS2⟩;have HT2:Hid (Touch (·=g) w w2):=zh (HT1.out.trans hS2.2 (fun i hi=>Or.inl hi));have HI2:Hid (I w2):=zh (HC.out.keep _ _ HI1.out hS2.2);have HS2:Hid (LeftP wt g n d a r m E w w2):=zh (by rw [<-HM.out] at hS2;exact⟨hS2.1,HT2.out⟩);clear hS2;go_wp2_with fail;go_end0;exact⟨rfl,ZcS HCUT.out HS2.out (by have:=HM.out;have:=HE.out;omega)⟩
     ·by_cases hQ:E<b
      ·have t1:(r:Int)<(m:Int):=by have:=HE.out;first|omega|(have:=HB.out;omega)
       have t2:(m:Int)<(E:Int):=by have:=HE.out;first|omega|(have:=HB.out;omega)
       have t3:¬(a:Int)<(r:Int):=by have:=HE.out;first|omega|(have:=HB.out;omega)
       have t4:(r:Int)<(mid:Int):=by have:=HE.out;first|omega|(have:=HB.out;omega)
       have t5:(mid:Int)<(E:Int):=by have:=HE.out;first|omega|(have:=HB.out;omega)
       have t6:(E:Int)<(b:Int):=by have:=HE.out;first|omega|(have:=HB.out;omega)
       go_wp2_with fail;refine(ZcC g n r m E d wr _ HRW.out (by omega) (by omega) (by omega) hn).mono ?_;rintro e w1 ⟨rfl,hR1,hT1⟩;have HR1:=zh hR1;have HT1:Hid (Touch (·=g) w w1):=zh (HT.out.trans hT1 (fun i hi=>Or.inl hi));have HI1:Hid (I w1):=zh (HC.out.keep _ _ HIW.out hT1);clear hR1 hT1;go_wp2_with fail;have HT2:=HT1;have HI2:=HI1;have HS2:Hid (LeftP wt g n d a r m E w w1):=zh ⟨⟨_,HR1.out,Pm.refl _ _ _,ZcR HCUT.out (by have:=HM.out;have:=HE.out;omega)⟩,HT1.out⟩;obtain⟨⟨D,hRD,hPD,hSD⟩,_⟩:=HS2.out;have HPD:=zh hPD;have HSD:=zh hSD;have HRD:=zh hRD;clear hPD hSD hRD;refine(HIH.out mid E b D w1 (by omega) (by omega) (by omega) (by omega) (by rw [<-HM.out];exact Zdy HC.out HCUT.out HP.out.rng hbn HPD.out HRD.out HI2.out)).mono ?_;rintro e w3 ⟨rfl,hS3⟩;have HS3:=zh hS3;clear hS3;go_wp2_with fail;go_end0;refine⟨rfl,ZcD HCUT.out HPD.out HSD.out HT2.out ?_⟩;rw [HM.out];exact HS3.out
      ·have t1:(r:Int)<(m:Int):=by have:=HE.out;first|omega|(have:=HB.out;omega)
       have t2:(m:Int)<(E:Int):=by have:=HE.out;first|omega|(have:=HB.out;omega)
       have t3:¬(a:Int)<(r:Int):=by have:=HE.out;first|omega|(have:=HB.out;omega)
       have t4:(r:Int)<(mid:Int):=by have:=HE.out;first|omega|(have:=HB.out;omega)
       have t5:(mid:Int)<(E:Int):=by have:=HE.out;first|omega|(have:=HB.out;omega)
       have t6:¬(E:Int)<(b:Int):=by have:=HE.out;first|omega|(have:=HB.out;omega)
       go_wp2_with fail;refine(ZcC g n r m E d wr _ HRW.out (by omega) (by omega) (by omega) hn).mono ?_;rintro e w1 ⟨rfl,hR1,hT1⟩;have HR1:=zh hR1;have HT1:Hid (Touch (·=g) w w1):=zh (HT.out.trans hT1 (fun i hi=>Or.inl hi));have HI1:Hid (I w1):=zh (HC.out.keep _ _ HIW.out hT1);clear hR1 hT1;go_wp2_with fail;have HT2:=HT1;have HI2:=HI1;have HS2:Hid (LeftP wt g n d a r m E w w1):=zh ⟨⟨_,HR1.out,Pm.refl _ _ _,ZcR HCUT.out (by have:=HM.out;have:=HE.out;omega)⟩,HT1.out⟩;go_end0;exact⟨rfl,ZcS HCUT.out HS2.out (by have:=HM.out;have:=HE.out;omega)⟩
    ·have HB:Hid (r=mid):=zh (by omega);have HEM:Hid (E=m):=zh (by have:=HE.out;have:=HB.out;omega);have t1:(r:Int)<(m:Int):=by have:=HE.out;first|omega|(have:=HB.out;omega)
     have t2:¬(m:Int)<(E:Int):=by have:=HE.out;first|omega|(have:=HB.out;omega)
     have t3:(a:Int)<(r:Int):=by have:=HE.out;first|omega|(have:=HB.out;omega)
     have t4:¬(r:Int)<(mid:Int):=by have:=HE.out;first|omega|(have:=HB.out;omega)
     have t5:(mid:Int)<(E:Int):=by have:=HE.out;first|omega|(have:=HB.out;omega)
     have t6:(E:Int)<(b:Int):=by have:=HE.out;first|omega|(have:=HB.out;omega)
     go_wp2_with fail;have HR1:Hid (RowD wr g n (rot d r m E)):=zh (by rw [HEM.out,Zk7];exact HRW.out);have HT1:=HT;have HI1:=HIW;have HT2:=HT1;have HI2:=HI1;have HS2:Hid (LeftP wt g n d a r m E w wr):=zh ⟨⟨_,HR1.out,Pm.refl _ _ _,ZcR HCUT.out (by have:=HM.out;have:=HE.out;omega)⟩,HT1.out⟩;obtain⟨⟨D,hRD,hPD,hSD⟩,_⟩:=HS2.out;have HPD:=zh hPD;have HSD:=zh hSD;have HRD:=zh hRD;clear hPD hSD hRD;refine(HIH.out mid E b D wr (by omega) (by omega) (by omega) (by omega) (by rw [<-HM.out];exact Zdy HC.out HCUT.out HP.out.rng hbn HPD.out HRD.out HI2.out)).mono ?_;rintro e w3 ⟨rfl,hS3⟩;have HS3:=zh hS3;clear hS3;go_wp2_with fail;go_end0;refine⟨rfl,ZcD HCUT.out HPD.out HSD.out HT2.out ?_⟩;rw [HM.out];exact HS3.out
end
end
section
open Go.RowKit SymM
section
variable {F : FuncId} {caps : Array Value} {g n : Nat} {wt : Int -> Int} {I : World -> Prop}
theorem Ztk (hC:CmpF F caps g n wt I) (hn:n<=1000000) (K:Nat) (ih:∀(a m b:Nat) (d:Row) (w:World),b<=a+K->a<m->m<b->b<=n->MerP wt g n I d a m b w ->
  Calls Tryz.prog 320 #[.slice (some ⟨g,0,none⟩) n n,.int .i64 (a:Int),.int .i64 (m:Int),.int .i64 (b:Int),.func (.func F) #[] caps] w fun e w'=>
   e=.returned (.tuple #[])/\SrtP wt g n d a b w w')
  (a m b:Nat) (d:Row) (w:World) (hK:b<=a+(K+1)) (ham:a<m) (hmb:m<b) (hbn:b<=n) (hP:MerP wt g n I d a m b w) (hf:¬m=a+1) (hl:¬b=m+1) (hc:¬(a+b) / 2<m) :
  Calls Tryz.prog 320 #[.slice (some ⟨g,0,none⟩) n n,.int .i64 (a:Int),.int .i64 (m:Int),.int .i64 (b:Int),.func (.func F) #[] caps] w fun e w'=>
   e=.returned (.tuple #[])/\SrtP wt g n d a b w w':=by
  have he:=hC.enter;have HC:=zh hC;have HIH:=zh ih;have HP:=zh hP;have hone0:((m:Int)-(a:Int)==1)=false:=by rw [beq_eq_false_iff_ne];omega
  have hone1:((b:Int)-(m:Int)==1)=false:=by rw [beq_eq_false_iff_ne];omega
  obtain⟨mid,hmid⟩:∃mid,(a+b) / 2=mid:=⟨_,rfl⟩
  obtain⟨N,hN⟩:∃N,mid+m=N:=⟨_,rfl⟩
  obtain⟨p,hp⟩:∃p,N-1=p:=⟨_,rfl⟩
  have hmid2:((a:Int)+(b:Int)) / 2=(mid:Int):=by omega
  have hN2:(mid:Int)+(m:Int)=(N:Int):=by omega
  have hp2:(N:Int)-1=(p:Int):=by omega
  have hNb:N<=2000000:=by omega
  have hpb:p<=2000000:=by omega
  have ham2:a<mid:=by omega
  have hmb2:mid<b:=by omega
  have hmm:¬mid<m:=by omega
  have HMID:=zh hmid;have HN:=zh hN;have HPP:=zh hp;clear hC ih hP hf hl hmid hN hp hc;go_enter Tryz.func320,Tryz.ntmps320;have hmm2:¬(mid:Int)<(m:Int):=by omega
  have HLO:Hid (a=if mid<m then mid+m-b else a):=zh (by rw [if_neg hmm]);have HR0:Hid (m=if mid<m then mid else m):=zh (by rw [if_neg hmm]);go_wp2_with fail
  go_loopw [20,21] (fun vi vj wr=>∃s r q:Nat,vi=.int .i64 s/\vj=.int .i64 r/\a<=s/\s<=r/\r<=m/\(s=a\/wt (d (s-1))<=wt (d (mid+m-1-(s-1))))/\(r=m\/wt (d (mid+m-1-r))<wt (d r))/\wr=w.drewN q) (fun vi vj _=>(intOf vj).toNat-(intOf vi).toNat)
  case atStart=>exact⟨a,m,0,rfl,rfl,Nat.le_refl _,by omega,Nat.le_refl _,Or.inl rfl,Or.inl rfl,rfl⟩
  case round=>
   obtain⟨s,r,q,rfl,rfl,hls,hsr,hrr,h1,h2,hw⟩:=hrel;have HRW:Hid (RowD wr g n d):=zh (by rw [hw];exact HP.out.row.drewN q);have HIW:Hid (I wr):=zh (by rw [hw];exact HC.out.keep _ _ HP.out.inv (Zad _ w q));have HT:Hid (Touch (·=g) w wr):=zh (by rw [hw];exact Zad _ w q);have HW:=zh hw;have H1:=zh h1;have H2:=zh h2;clear hw h1 h2;by_cases hlt:s<r
   ·have hlt2:(s:Int)<(r:Int):=by omega
    obtain⟨c,hc⟩:∃c,(s+r) / 2=c:=⟨_,rfl⟩
    have hcI:((s:Int)+(r:Int)) / 2=(c:Int):=by omega
    have hci:s<=c:=by omega
    have hcj:c<r:=by omega
    have hcn:c<n:=by omega
    have hcn2:(c:Int)<(n:Int):=by omega
    obtain⟨u,hu⟩:∃u,p-c=u:=⟨_,rfl⟩
    have hu2:(p:Int)-(c:Int)=(u:Int):=by have:=HN.out;have:=HPP.out;omega
    have hun:u<n:=by have:=HN.out;have:=HPP.out;have:=HMID.out;omega
    have hun2:(u:Int)<(n:Int):=by omega
    have HU:Hid (mid+m-1-c=u):=zh (by have:=HN.out;have:=HPP.out;omega);obtain⟨c1,f1⟩:=HRW.out.cell hcn;obtain⟨c2,f2⟩:=HRW.out.cell hun;obtain⟨x,hx⟩:∃x,d u=x:=⟨_,rfl⟩
    obtain⟨y,hy⟩:∃y,d c=y:=⟨_,rfl⟩
    rw [hy] at c1;rw [hx] at c2;obtain⟨z,hz,hz1,hz2,hcall⟩:=HC.out.at HIW.out HP.out.rng hun hcn x y hx hy;have HX:=zh hx;have HY:=zh hy;have HCALL:=zh hcall;have HZ:=zh hz;clear hx hy hcall hz hc hu;by_cases hz0:z<0
    ·have hz3:(!decide (z<0))=false:=by simp;omega
     go_wp2_with fail
     go_quiet ((exact Calls.quiet_of (HCALL.out _)))
     go_wp2_with fail;go_roundw
     case rel=>exact⟨s,c,_,rfl,by go_num,hls,hci,by omega,H1.out,Or.inr (by rw [HU.out,HX.out,HY.out];have:=HZ.out;omega),by rw [HW.out];exact World.drewN_drewN ..⟩
     case measure=>simp [intOf];omega
    ·have hz3:(!decide (z<0))=true:=by simp;omega
     go_wp2_with fail
     go_quiet ((exact Calls.quiet_of (HCALL.out _)))
     go_wp2_with fail;go_roundw
     case rel=>exact⟨c+1,r,_,by go_num,rfl,by omega,by omega,hrr,Or.inr (by rw [Nat.add_sub_cancel,HU.out,HX.out,HY.out];have:=HZ.out;omega),H2.out,by rw [HW.out];exact World.drewN_drewN ..⟩
     case measure=>simp [intOf];omega
   ·have hlt2:¬(s:Int)<(r:Int):=by omega
    obtain rfl:r=s:=by omega
    have hsm:r<=m:=by omega
    have hsd:r<=mid:=by omega
    have has:a<=r:=by have:=HN.out;omega
    obtain⟨E,hE⟩:∃E,N-r=E:=⟨_,rfl⟩
    have hE2:(N:Int)-(r:Int)=(E:Int):=by have:=HN.out;omega
    have hEb:E<=b:=by have:=HN.out;have:=HMID.out;omega
    have HCUT:Hid (Cut wt d a r m E b):=zh (by
     have:=ZnB (s:=r) HP.out.sl HP.out.sr HP.out.low ham hmb HMID.out.symm HLO.out HR0.out hls hrr (by
      rcases H1.out with e|e
      ·exact Or.inl e
      ·exact Or.inr (by omega)) H2.out
     rw [HN.out,hE] at this;exact this)
    have HM:Hid (r+(E-m)=mid):=zh (by have:=HN.out;omega);have hmE:m<=E:=by have:=HN.out;omega
    have HE:Hid (E+r=mid+m):=zh (by have:=HN.out;omega);clear hE H1 H2;by_cases hA:r<m/\r<mid
    ·obtain⟨hA1,hA2⟩:=hA;by_cases hL:a<r
     ·by_cases hQ:E<b
      ·have t1:(r:Int)<(m:Int):=by have:=HE.out;first|omega|(have:=HB.out;omega)
       have t2:(m:Int)<(E:Int):=by have:=HE.out;first|omega|(have:=HB.out;omega)
       have t3:(a:Int)<(r:Int):=by have:=HE.out;first|omega|(have:=HB.out;omega)
       have t4:(r:Int)<(mid:Int):=by have:=HE.out;first|omega|(have:=HB.out;omega)
       have t5:(mid:Int)<(E:Int):=by have:=HE.out;first|omega|(have:=HB.out;omega)
       have t6:(E:Int)<(b:Int):=by have:=HE.out;first|omega|(have:=HB.out;omega)
       go_wp2_with fail;refine(ZcC g n r m E d wr _ HRW.out (by omega) (by omega) (by omega) hn).mono ?_;rintro e w1 ⟨rfl,hR1,hT1⟩;have HR1:=zh hR1;have HT1:Hid (Touch (·=g) w w1):=zh (HT.out.trans hT1 (fun i hi=>Or.inl hi));have HI1:Hid (I w1):=zh (HC.out.keep _ _ HIW.out hT1);clear hR1 hT1;go_wp2_with fail;refine(HIH.out a r mid (rot d r m E) w1 (by omega) (by omega) (by omega) (by omega) (by rw [<-HM.out];exact Zfb HC.out HCUT.out HP.out.rng hbn HR1.out HI1.out)).mono ?_;rintro e w2 ⟨rfl,hS2⟩;have HT2:Hid (Touch (·=g) w w2):=zh (HT1.out.trans hS2.2 (fun i hi=>Or.inl hi));have HI2:Hid (I w2):=zh (HC.out.keep _ _ HI1.out hS2.2);have HS2:Hid (LeftP wt g n d a r m E w w2):=zh (by rw [<-HM.out] at hS2;exact⟨hS2.1,HT2.out⟩);clear hS2;go_wp2_with fail;obtain⟨⟨D,hRD,hPD,hSD⟩,_⟩:=HS2.out;have HPD:=zh hPD;have HSD:=zh hSD;have HRD:=zh hRD;clear hPD hSD hRD;refine(HIH.out mid E b D w2 (by omega) (by omega) (by omega) (by omega) (by rw [<-HM.out];exact Zdy HC.out HCUT.out HP.out.rng hbn HPD.out HRD.out HI2.out)).mono ?_;rintro e w3 ⟨rfl,hS3⟩;have HS3:=zh hS3;clear hS3;go_wp2_with fail;go_end0;refine⟨rfl,ZcD HCUT.out HPD.out HSD.out HT2.out ?_⟩;rw [HM.out];exact HS3.out
      ·have t1:(r:Int)<(m:Int):=by have:=HE.out;first|omega|(have:=HB.out;omega)
       have t2:(m:Int)<(E:Int):=by have:=HE.out;first|omega|(have:=HB.out;omega)
       have t3:(a:Int)<(r:Int):=by have:=HE.out;first|omega|(have:=HB.out;omega)
       have t4:(r:Int)<(mid:Int):=by have:=HE.out;first|omega|(have:=HB.out;omega)
       have t5:(mid:Int)<(E:Int):=by have:=HE.out;first|omega|(have:=HB.out;omega)
       have t6:¬(E:Int)<(b:Int):=by have:=HE.out;first|omega|(have:=HB.out;omega)
       go_wp2_with fail;refine(ZcC g n r m E d wr _ HRW.out (by omega) (by omega) (by omega) hn).mono ?_;rintro e w1 ⟨rfl,hR1,hT1⟩;have HR1:=zh hR1;have HT1:Hid (Touch (·=g) w w1):=zh (HT.out.trans hT1 (fun i hi=>Or.inl hi));have HI1:Hid (I w1):=zh (HC.out.keep _ _ HIW.out hT1);clear hR1 hT1;go_wp2_with fail;refine(HIH.out a r mid (rot d r m E) w1 (by omega) (by omega) (by omega) (by omega) (by rw [<-HM.out];exact Zfb HC.out HCUT.out HP.out.rng hbn HR1.out HI1.out)).mono ?_;rintro e w2 ⟨rfl,hS2⟩;have HT2:Hid (Touch (·=g) w w2):=zh (HT1.out.trans hS2.2 (fun i hi=>Or.inl hi));have HI2:Hid (I w2):=zh (HC.out.keep _ _ HI1.out hS2.2);have HS2:Hid (LeftP wt g n d a r m E w w2):=zh (by rw [<-HM.out] at hS2;exact⟨hS2.1,HT2.out⟩);clear hS2;go_wp2_with fail;go_end0;exact⟨rfl,ZcS HCUT.out HS2.out (by have:=HM.out;have:=HE.out;omega)⟩
     ·by_cases hQ:E<b
      ·have t1:(r:Int)<(m:Int):=by have:=HE.out;first|omega|(have:=HB.out;omega)
       have t2:(m:Int)<(E:Int):=by have:=HE.out;first|omega|(have:=HB.out;omega)
       have t3:¬(a:Int)<(r:Int):=by have:=HE.out;first|omega|(have:=HB.out;omega)
       have t4:(r:Int)<(mid:Int):=by have:=HE.out;first|omega|(have:=HB.out;omega)
       have t5:(mid:Int)<(E:Int):=by have:=HE.out;first|omega|(have:=HB.out;omega)
       have t6:(E:Int)<(b:Int):=by have:=HE.out;first|omega|(have:=HB.out;omega)
       go_wp2_with fail;refine(ZcC g n r m E d wr _ HRW.out (by omega) (by omega) (by omega) hn).mono ?_;rintro e w1 ⟨rfl,hR1,hT1⟩;have HR1:=zh hR1;have HT1:Hid (Touch (·=g) w w1):=zh (HT.out.trans hT1 (fun i hi=>Or.inl hi));have HI1:Hid (I w1):=zh (HC.out.keep _ _ HIW.out hT1);clear hR1 hT1;go_wp2_with fail;have HT2:=HT1;have HI2:=HI1;have HS2:Hid (LeftP wt g n d a r m E w w1):=zh ⟨⟨_,HR1.out,Pm.refl _ _ _,ZcR HCUT.out (by have:=HM.out;have:=HE.out;omega)⟩,HT1.out⟩;obtain⟨⟨D,hRD,hPD,hSD⟩,_⟩:=HS2.out;have HPD:=zh hPD;have HSD:=zh hSD;have HRD:=zh hRD;clear hPD hSD hRD;refine(HIH.out mid E b D w1 (by omega) (by omega) (by omega) (by omega) (by rw [<-HM.out];exact Zdy HC.out HCUT.out HP.out.rng hbn HPD.out HRD.out HI2.out)).mono ?_;rintro e w3 ⟨rfl,hS3⟩;have HS3:=zh hS3;clear hS3;go_wp2_with fail;go_end0;refine⟨rfl,ZcD HCUT.out HPD.out HSD.out HT2.out ?_⟩;rw [HM.out];exact HS3.out
      ·have t1:(r:Int)<(m:Int):=by have:=HE.out;first|omega|(have:=HB.out;omega)
       have t2:(m:Int)<(E:Int):=by have:=HE.out;first|omega|(have:=HB.out;omega)
       have t3:¬(a:Int)<(r:Int):=by have:=HE.out;first|omega|(have:=HB.out;omega)
       have t4:(r:Int)<(mid:Int):=by have:=HE.out;first|omega|(have:=HB.out;omega)
       have t5:(mid:Int)<(E:Int):=by have:=HE.out;first|omega|(have:=HB.out;omega)
       have t6:¬(E:Int)<(b:Int):=by have:=HE.out;first|omega|(have:=HB.out;omega)
       go_wp2_with fail;refine(ZcC g n r m E d wr _ HRW.out (by omega) (by omega) (by omega) hn).mono ?_;rintro e w1 ⟨rfl,hR1,hT1⟩;have HR1:=zh hR1;have HT1:Hid (Touch (·=g) w w1):=zh (HT.out.trans hT1 (fun i hi=>Or.inl hi));have HI1:Hid (I w1):=zh (HC.out.keep _ _ HIW.out hT1);clear hR1 hT1;go_wp2_with fail;have HT2:=HT1;have HI2:=HI1;have HS2:Hid (LeftP wt g n d a r m E w w1):=zh ⟨⟨_,HR1.out,Pm.refl _ _ _,ZcR HCUT.out (by have:=HM.out;have:=HE.out;omega)⟩,HT1.out⟩;go_end0;exact⟨rfl,ZcS HCUT.out HS2.out (by have:=HM.out;have:=HE.out;omega)⟩
    ·have HB:Hid (r=m):=zh (by omega);by_cases hL:r<mid
     ·have t1:¬(r:Int)<(m:Int):=by have:=HE.out;first|omega|(have:=HB.out;omega)
      have t3:(a:Int)<(r:Int):=by have:=HE.out;first|omega|(have:=HB.out;omega)
      have t4:(r:Int)<(mid:Int):=by have:=HE.out;first|omega|(have:=HB.out;omega)
      have t5:¬(mid:Int)<(E:Int):=by have:=HE.out;first|omega|(have:=HB.out;omega)
      go_wp2_with fail;have HR1:Hid (RowD wr g n (rot d r m E)):=zh (by rw [HB.out,Zdw];exact HRW.out);have HT1:=HT;have HI1:=HIW;refine(HIH.out a r mid (rot d r m E) wr (by omega) (by omega) (by omega) (by omega) (by rw [<-HM.out];exact Zfb HC.out HCUT.out HP.out.rng hbn HR1.out HI1.out)).mono ?_;rintro e w2 ⟨rfl,hS2⟩;have HT2:Hid (Touch (·=g) w w2):=zh (HT1.out.trans hS2.2 (fun i hi=>Or.inl hi));have HI2:Hid (I w2):=zh (HC.out.keep _ _ HI1.out hS2.2);have HS2:Hid (LeftP wt g n d a r m E w w2):=zh (by rw [<-HM.out] at hS2;exact⟨hS2.1,HT2.out⟩);clear hS2;go_wp2_with fail;go_end0;exact⟨rfl,ZcS HCUT.out HS2.out (by have:=HM.out;have:=HE.out;omega)⟩
     ·have t1:¬(r:Int)<(m:Int):=by have:=HE.out;first|omega|(have:=HB.out;omega)
      have t3:(a:Int)<(r:Int):=by have:=HE.out;first|omega|(have:=HB.out;omega)
      have t4:¬(r:Int)<(mid:Int):=by have:=HE.out;first|omega|(have:=HB.out;omega)
      have t5:¬(mid:Int)<(E:Int):=by have:=HE.out;first|omega|(have:=HB.out;omega)
      go_wp2_with fail;have HR1:Hid (RowD wr g n (rot d r m E)):=zh (by rw [HB.out,Zdw];exact HRW.out);have HT1:=HT;have HI1:=HIW;have HT2:=HT1;have HI2:=HI1;have HS2:Hid (LeftP wt g n d a r m E w wr):=zh ⟨⟨_,HR1.out,Pm.refl _ _ _,ZcR HCUT.out (by have:=HM.out;have:=HE.out;omega)⟩,HT1.out⟩;go_end0;exact⟨rfl,ZcS HCUT.out HS2.out (by have:=HM.out;have:=HE.out;omega)⟩
end
end
section
open Go.RowKit SymM
namespace SymM
theorem Half.mer {w:Int->Int} {n B t a b:Nat} {d:Row} (h:Half w n B t d) (ha:a=2*B*t) (hb:b=min (a+2*B) n) (hab:a+B<=b):Srt w d a (a+B)/\Srt w d (a+B) b/\Low d a (a+B) b:=by
 obtain⟨h1,h2⟩:=h;have hB:B*(2*t)=2*B*t:=by rw [Nat.mul_comm 2 B,Nat.mul_assoc]
 have hB1:B*(2*t+1)=2*B*t+B:=by rw [Nat.mul_add,Nat.mul_one,hB]
 have k1:=h2 (2*t) (by omega);have k2:=h2 (2*t+1) (by omega);rw [hB,<-ha] at k1;rw [hB1,<-ha] at k2;have e1:min (a+B) n=a+B:=by omega
 have e2:min (a+B+B) n=b:=by omega
 rw [e1] at k1;rw [e2] at k2;exact⟨k1.srt,k2.srt,k1.low k2⟩
end SymM
section
variable {F : FuncId} {caps : Array Value} {g n : Nat} {wt : Int -> Int} {I : World -> Prop}
theorem ZnF (hC:CmpF F caps g n wt I) (hn:n<=1000000):∀(K a m b:Nat) (d:Row) (w:World),b<=a+K->a<m->m<b->b<=n->MerP wt g n I d a m b w ->
  Calls Tryz.prog 320 #[.slice (some ⟨g,0,none⟩) n n,.int .i64 (a:Int),.int .i64 (m:Int),.int .i64 (b:Int),.func (.func F) #[] caps] w fun e w'=>
   e=.returned (.tuple #[])/\SrtP wt g n d a b w w':=by
 intro K
 induction K with
 | zero=>intro a m b d w h1 h2 h3;omega
 | succ K ih=>
  intro a m b d w hK ham hmb hbn hP;by_cases hf:m=a+1
  ·have h2:=hP.low;have h3:=hP.sr;subst hf;exact ZnD hC a b d w hP.row hP.inv (by omega) hbn hn hP.rng h3 h2 _ rfl
  ·by_cases hl:b=m+1
   ·have h2:=hP.low;subst hl;exact ZpZ hC a m d w hP.row hP.inv (by omega) hbn hn hP.rng hP.sl h2 _ rfl
   ·by_cases hc:(a+b) / 2<m
    ·exact Ztj hC hn K ih a m b d w hK ham hmb hbn hP hf hl hc
    ·exact Ztk hC hn K ih a m b d w hK ham hmb hbn hP hf hl hc
theorem Zmd (hC:CmpF F caps g n wt I) (hn:n<=100000) (w:World) (hR:RowD w g n (fun k=>(k:Int))) (hI:I w) :
  Calls Tryz.prog 316 #[.slice (some ⟨g,0,none⟩) n n,.int .i64 (n:Int),.func (.func F) #[] caps] w fun e w'=>
   e=.returned (.tuple #[])/\(∃D,RowD w' g n D/\Blk wt D 0 n)/\Touch (·=g) w w':=by
 have he:=hC.enter;have HR0:=zh hR;have HI0:=zh hI;have HC:=zh hC;have hr0:Hid (Rng n (fun k=>(k:Int))):=zh (fun k hk=>⟨Int.natCast_nonneg k,by show(k:Int)<(n:Int);omega⟩);clear hR hI hC;go_enter Tryz.func316,Tryz.ntmps316;go_wp2_with fail
 go_loopw [7,8] (fun va vb wr=>∃(t A B:Nat) (D:Row),va=.int .i64 A/\vb=.int .i64 B/\A=20*t/\B=A+20/\A<=n/\RowD wr g n D/\Ins wt n 20 t D/\Rng n D/\Touch (·=g) w wr) (fun va _ _=>n+1-(intOf va).toNat)
 case atStart=>exact⟨0,0,20,_,rfl,rfl,rfl,rfl,Nat.zero_le _,HR0.out,⟨fun q hq=>by omega,fun k _=>rfl⟩,hr0.out,Touch.refl _ w⟩
 case round=>
  obtain⟨t,A,B,D,rfl,rfl,hA,hB,hAn,hR,hIns,hrn,hT⟩:=hrel;have HR:=zh hR;have HIN:=zh hIns;have HRN:=zh hrn;have HT:=zh hT;have HAA:=zh hA;have HBB:=zh hB;have hB1:B<=A+20:=by omega
  have hB2:A+20<=B:=by omega
  have HIW:Hid (I wr):=zh (HC.out.keep _ _ HI0.out hT);clear hR hIns hrn hT hA hB;by_cases hlt:B<=n
  ·have hlt2:(B:Int)<=(n:Int):=by omega
   go_wp2_with fail
   refine(ZnC HC.out A B D wr HR.out HIW.out (by omega) hlt (by omega) HRN.out (fun i j h1 h2 h3=>by
    have:=HAA.out;rw [HIN.out.2 i (by omega),HIN.out.2 j (by omega)];omega)).mono ?_
   rintro e w' ⟨rfl,⟨D2,hR2,hP2,hS2⟩,hT2⟩;have HR2:=zh hR2;have HP2:=zh hP2;have HS2:=zh hS2;have HT2:=zh hT2;clear hR2 hP2 hS2 hT2;go_wp2_with fail;go_roundw
   case rel=>exact⟨t+1,B,B+20,D2,rfl,by go_num,by have:=HAA.out;omega,rfl,hlt,HR2.out,HIN.out.next HAA.out (by omega) HP2.out HS2.out,HRN.out.pm HP2.out hlt,HT.out.trans HT2.out (fun i hi=>Or.inl hi)⟩
   case measure=>simp [intOf];omega
  ·have hlt2:¬(B:Int)<=(n:Int):=by omega
   go_wp2_with fail
   refine(ZnC HC.out A n D wr HR.out HIW.out hAn (Nat.le_refl _) (by omega) HRN.out (fun i j h1 h2 h3=>by
    have:=HAA.out;rw [HIN.out.2 i (by omega),HIN.out.2 j (by omega)];omega)).mono ?_
   rintro e w' ⟨rfl,⟨D2,hR2,hP2,hS2⟩,hT2⟩;have HR2:=zh hR2;have HBL:Hid (Blks wt n 20 D2):=zh ((HIN.out.next HAA.out (show n=min (A+20) n by omega) hP2 hS2).end_ (by have:=HAA.out;omega));have HRN2:Hid (Rng n D2):=zh (HRN.out.pm hP2 (Nat.le_refl _));have HT2:Hid (Touch (·=g) w w'):=zh (HT.out.trans hT2 (fun i hi=>Or.inl hi));clear hR2 hP2 hS2 hT2;go_wp2_with fail
   go_loopw [6,7,8,9] (fun vs va vb vm wr=>∃(S:Nat) (D:Row),vs=.int .i64 S/\1<=S/\S<=200000/\RowD wr g n D/\Blks wt n S D/\Rng n D/\Touch (·=g) w wr) (fun vs _ _ _ _=>n-(intOf vs).toNat)
   case atStart=>exact⟨20,D2,rfl,by omega,by omega,HR2.out,HBL.out,HRN2.out,HT2.out⟩
   case round=>
    obtain⟨S,D3,rfl,hS1,hS2,hR3,hB3,hrn3,hT3⟩:=hrel;have HR3:=zh hR3;have HB3:=zh hB3;have HRN3:=zh hrn3;have HT3:=zh hT3;clear hR3 hB3 hrn3 hT3;by_cases hSn:S<n
    ·have hSn2:(S:Int)<(n:Int):=by omega
     go_wp2_with fail
     go_loopw [7,8] (fun va vb w3=>∃(t A B:Nat) (D:Row),va=.int .i64 A/\vb=.int .i64 B/\A=2*S*t/\B<=A+2*S/\A+2*S<=B/\A<=n/\RowD w3 g n D/\Half wt n S t D/\Rng n D/\Touch (·=g) w w3) (fun va _ _=>n+1-(intOf va).toNat)
     case atStart=>exact⟨0,0,2*S,D3,rfl,by go_num,rfl,by omega,by omega,Nat.zero_le _,HR3.out,Half.start HB3.out,HRN3.out,HT3.out⟩
     case round=>
      obtain⟨t,A,B,D4,rfl,rfl,hA,hB1,hB2,hAn,hR4,hH4,hrn4,hT4⟩:=hrel;have HR4:=zh hR4;have HH4:=zh hH4;have HRN4:=zh hrn4;have HT4:=zh hT4;have HAA:=zh hA;obtain⟨M,hM⟩:∃M,A+S=M:=⟨_,rfl⟩
      have hM2:(A:Int)+(S:Int)=(M:Int):=by omega
      have HM:=zh hM;have hM3:A<M:=by omega
      have hM4:M<B:=by omega
      have HIW:Hid (I wr):=zh (HC.out.keep _ _ HI0.out hT4);clear hR4 hH4 hrn4 hT4 hA hM;by_cases hlt:B<=n
      ·have hlt2:(B:Int)<=(n:Int):=by omega
       go_wp2_with fail
       refine(ZnF HC.out (by omega) B A M B D4 wr (by omega) hM3 hM4 hlt (by
        obtain⟨q1,q2,q3⟩:=HH4.out.mer HAA.out (show B=min (A+2*S) n by omega) (by omega);rw [HM.out] at q1 q2 q3;exact⟨HR4.out,HIW.out,HRN4.out,q1,q2,q3⟩)).mono ?_
       rintro e w' ⟨rfl,⟨D5,hR5,hP5,hS5⟩,hT5⟩;have HR5:=zh hR5;have HP5:=zh hP5;have HS5:=zh hS5;have HT5:=zh hT5;clear hR5 hP5 hS5 hT5;go_wp2_with fail;go_roundw
       case rel=>exact⟨t+1,B,B+2*S,D5,rfl,by go_num,by have:=HAA.out;rw [Nat.mul_add,<-this];omega,by omega,by omega,hlt,HR5.out,HH4.out.next HAA.out (by omega) (by omega) HP5.out HS5.out,HRN4.out.pm HP5.out hlt,HT4.out.trans HT5.out (fun i hi=>Or.inl hi)⟩
       case measure=>simp [intOf];omega
      ·have hlt2:¬(B:Int)<=(n:Int):=by omega
       by_cases hMn:M<n
       ·have hMn2:(M:Int)<(n:Int):=by omega
        go_wp2_with fail
        refine(ZnF HC.out (by omega) n A M n D4 wr (by omega) hM3 hMn (Nat.le_refl _) (by
         obtain⟨q1,q2,q3⟩:=HH4.out.mer HAA.out (show n=min (A+2*S) n by omega) (by have:=HM.out;omega);rw [HM.out] at q1 q2 q3;exact⟨HR4.out,HIW.out,HRN4.out,q1,q2,q3⟩)).mono ?_
        rintro e w' ⟨rfl,⟨D5,hR5,hP5,hS5⟩,hT5⟩;have HR5:=zh hR5;have HB5:Hid (Blks wt n (2*S) D5):=zh ((HH4.out.next HAA.out (show n=min (A+2*S) n by omega) (by have:=HM.out;omega) hP5 hS5).full (a:=A+2*S) (by have:=HAA.out;rw [Nat.mul_add,<-this];omega) (by omega));have HRN5:Hid (Rng n D5):=zh (HRN4.out.pm hP5 (Nat.le_refl _));have HT5:Hid (Touch (·=g) w w'):=zh (HT4.out.trans hT5 (fun i hi=>Or.inl hi));clear hR5 hP5 hS5 hT5;go_wp2_with fail;go_roundw
        case rel=>exact⟨2*S,D5,by go_num,by omega,by omega,HR5.out,HB5.out,HRN5.out,HT5.out⟩
        case measure=>simp [intOf];omega
       ·have hMn2:¬(M:Int)<(n:Int):=by omega
        have HB5:Hid (Blks wt n (2*S) D4):=zh (HH4.out.end_ HAA.out (by have:=HM.out;omega));go_wp2_with fail;go_roundw
        case rel=>exact⟨2*S,D4,by go_num,by omega,by omega,HR4.out,HB5.out,HRN4.out,HT4.out⟩
        case measure=>simp [intOf];omega
    ·have hSn2:¬(S:Int)<(n:Int):=by omega
     go_wp2_with fail;go_end0;exact⟨rfl,⟨D3,HR3.out,HB3.out.all (by omega)⟩,HT3.out⟩
theorem Zf4 (hC:CmpF F caps g n wt I) (hn:n<=100000) (w:World) (hR:RowD w g n (fun k=>(k:Int))) (hI:I w) :
  Calls Tryz.prog 309 #[.slice (some ⟨g,0,none⟩) n n,.func (.func F) #[] caps] w fun e w'=>
   e=.returned (.tuple #[])/\(∃D,RowD w' g n D/\Blk wt D 0 n)/\Touch (·=g) w w':=by
 have HR:=zh hR;have HI:=zh hI;have HC:=zh hC;clear hR hI hC;go_enter Tryz.func309,Tryz.ntmps309;go_wp2_with fail;refine(Zmd HC.out hn w HR.out HI.out).mono ?_;rintro e w' ⟨rfl,h1,h2⟩;have H1:=zh h1;have H2:=zh h2;clear h1 h2;go_wp2_with fail;go_end0;exact⟨rfl,H1.out,H2.out⟩
end
end
end Go.Proofs.YtnachbjhhpnadaaGreatDoor
