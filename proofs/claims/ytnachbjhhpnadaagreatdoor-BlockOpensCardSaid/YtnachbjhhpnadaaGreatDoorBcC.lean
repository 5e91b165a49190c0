import Derived.Test.YtnachbjhhpnadaaGreatDoorBcA
import Derived.Test.YtnachbjhhpnadaaGreatDoorBcB
import Derived.BigRegion
import Derived.BigQuiet
import Derived.IntWalk
import Derived.Deep.RegionLaw
set_option linter.unusedVariables false
set_option linter.unusedSimpArgs false
set_option maxHeartbeats 8000000
set_option maxRecDepth 100000
namespace Go.Proofs.YtnachbjhhpnadaaGreatDoor
section
open Go.RowKit
def upd (F:Nat->Value) (i:Nat) (v:Value):Nat->Value:=fun k=>if k=i then v else F k
theorem Zak (F:Nat->Value) (i:Nat) (v:Value):upd F i v i=v:=if_pos rfl
theorem Zab (F:Nat->Value) {i k:Nat} (v:Value) (h:k≠i):upd F i v k=F k:=if_neg h
def cellsF (M:Nat) (F:Nat->Value):Array Value:=((List.range M).map F).toArray
theorem ZaY (M:Nat) (F:Nat->Value) {i:Nat} (hi:i<M):(cellsF M F)[i]?=some (F i):=by
 unfold cellsF;rw [List.getElem?_toArray,List.getElem?_map,List.getElem?_range hi];rfl
theorem ZbQ (M:Nat) (F:Nat->Value) (i:Nat) (x:Value):(cellsF M F).setIfInBounds i x=cellsF M (upd F i x):=by
 apply Array.toList_inj.1;rw [Array.toList_setIfInBounds];show((List.range M).map F).set i x=(List.range M).map (fun k=>if k=i then x else F k);apply List.ext_getElem
 ·simp
 ·intro j h1 h2;rw [List.getElem_set];by_cases e:i=j
  ·subst e;simp
  ·rw [if_neg e];have:¬j=i:=fun h=>e h.symm
   simp [this]
theorem Zaj {P:Program} {ops:Array Oper} {rest:List Oper} {o:Oper} {a:Act} {w:World} {Q:Exit->Act->World->Prop} (hg:o.guard=none) (t:TypeId) (n:Nat) (y:Operand) (ho:o.op=.build t #[(n,y)]) (v:Value) (hy:a.eval y=v) (Z:Array Value)
  (hb:P.built t [(n,v)]=some Z) (h:wpList P ops Q rest (a.put o.dst (.agg Z)) w):wpList P ops Q (o::rest) a w:=by
 subst hy;refine wpList_build hg t #[(n,y)] ho ?_ ?_
 ·simp [hb]
 ·simpa [hb] using h
theorem ZaM {P:Program} {ops:Array Oper} {rest:List Oper} {o:Oper} {a:Act} {w:World} {Q:Exit->Act->World->Prop} (hg:o.guard=none) (t:TypeId) (ho:o.op=.build t #[]) (Z:Array Value)
  (hb:P.built t []=some Z) (h:wpList P ops Q rest (a.put o.dst (.agg Z)) w):wpList P ops Q (o::rest) a w:=by
 refine wpList_build hg t #[] ho ?_ ?_
 ·simp [hb]
 ·simpa [hb] using h
end
section
open Go.RowKit CanM HufM
def Obj838 (w:World) (b:Nat) (F:Nat->Value):Prop:=w.heap[b]?=some (.cells (cellsF 838 F) 229 (0,0))
theorem Obj838.cell {w:World} {b:Nat} {F:Nat->Value} (h:Obj838 w b F) {i:Nat} (hi:i<838):w.cell? ⟨b,i,none⟩=some (F i)/\w.frozen? ⟨b,i,none⟩=false:=
 ⟨(cell_of_row _ _ _ _ _ _ h).trans (ZaY 838 F hi),frozen_of_row _ _ _ _ _ h⟩
theorem Obj838.set {w:World} {b:Nat} {F:Nat->Value} (h:Obj838 w b F) (i:Nat) (x:Value):Obj838 (w.setCell ⟨b,i,none⟩ x) b (upd F i x):=by
 have:=heap_setCell_same w b i _ _ x h;rw [ZbQ] at this;exact this
theorem Obj838.other {w w':World} {b:Nat} {F:Nat->Value} (h:Obj838 w b F) {S:Nat->Prop} (ht:Touch S w w') (hS:¬S b):Obj838 w' b F:=
 (ht.block b (Array.getElem?_eq_some_iff.1 h).1 hS).trans h
theorem Obj838.drewN {w:World} {b:Nat} {F:Nat->Value} (h:Obj838 w b F) (n:Nat):Obj838 (w.drewN n) b F:=h
structure CF (zs:List Int) (F:Nat->Value) (n i k1 k2:Nat):Prop where
 size:F 0=.int .i64 (zs.length:Int)
 sym:∀j,j<zs.length->(ln zs j<n\/(ln zs j=n/\j<i))->F (1+j)=.int .i64 (ln zs j:Int)/\F (259+j)=.int .u32 ((fcod zs (ln zs j)+rank zs (ln zs j) j:Nat):Int)/\F (517+plc zs j)=.int .i64 (j:Int)
 fst:∀m,1<=m->m<k1->F (775+m)=.int .u32 (fcod zs m:Int)/\F (796+m)=.int .i64 (cl zs m:Int)
 end_ : ∀ m, 1 <= m -> m < k2 -> F (817 + m) = .int .u32 (((fcod zs m + rank zs m zs.length) * sz m : Nat) : Int)
theorem CF.first {zs:List Int} {F:Nat->Value} {n k2:Nat} (h:CF zs F n 0 n k2) (hz:zs.length<=258) (h1:1<=n) (h20:n<=20) (hk2:k2<=21) :
  CF zs (upd (upd F (775+n) (.int .u32 (fcod zs n:Int))) (796+n) (.int .i64 (cl zs n:Int))) n 0 (n+1) k2:=by
 obtain⟨a,b,c,d⟩:=h;refine⟨?_,fun j hj hh=>?_,fun m hm hmk=>?_,fun m hm hmk=>?_⟩
 ·rw [Zab _ _ (by omega),Zab _ _ (by omega)];exact a
 ·have hp:=Zbi zs hj;obtain⟨b1,b2,b3⟩:=b j hj hh;rw [Zab _ _ (by omega),Zab _ _ (by omega),Zab _ _ (by omega),Zab _ _ (by omega),Zab _ _ (by omega),Zab _ _ (by omega)];exact⟨b1,b2,b3⟩
 ·by_cases e:m=n
  ·subst e;rw [Zak,Zab _ _ (by omega),Zak];exact⟨rfl,rfl⟩
  ·rw [Zab _ _ (by omega),Zab _ _ (by omega),Zab _ _ (by omega),Zab _ _ (by omega)];exact c m hm (by omega)
 ·rw [Zab _ _ (by omega),Zab _ _ (by omega)];exact d m hm hmk
theorem CF.push {zs:List Int} {F:Nat->Value} {n i k1 k2:Nat} (h:CF zs F n i k1 k2) (hz:zs.length<=258) (hi:i<zs.length) (hn:ln zs i=n) (C P:Nat) (hC:C=fcod zs n+rank zs n i) (hP:P=cl zs n+rank zs n i) :
  CF zs (upd (upd (upd F (1+i) (.int .i64 (n:Int))) (259+i) (.int .u32 (C:Int))) (517+P) (.int .i64 (i:Int))) n (i+1) k1 k2:=by
 obtain⟨a,b,c,d⟩:=h;have hPp:P=plc zs i:=by unfold plc;rw [hn];exact hP
 have hpi:=Zbi zs hi;refine⟨?_,fun j hj hh=>?_,fun m hm hmk=>?_,fun m hm hmk=>?_⟩
 ·rw [Zab _ _ (by omega),Zab _ _ (by omega),Zab _ _ (by omega)];exact a
 ·have hp:=Zbi zs hj;by_cases e:j=i
  ·subst e;refine⟨?_,?_,?_⟩
   ·rw [Zab _ _ (by omega),Zab _ _ (by omega),Zak,hn]
   ·rw [Zab _ _ (by omega),Zak,hn,hC]
   ·rw [hPp,Zak]
  ·obtain⟨b1,b2,b3⟩:=b j hj (by omega);have hne:=Ztc zs hj hi e;rw [Zab _ _ (by omega),Zab _ _ (by omega),Zab _ _ (by omega),Zab _ _ (by omega),Zab _ _ (by omega),Zab _ _ (by omega),Zab _ _ (by omega),Zab _ _ (by omega),Zab _ _ (by omega)];exact⟨b1,b2,b3⟩
 ·rw [Zab _ _ (by omega),Zab _ _ (by omega),Zab _ _ (by omega),Zab _ _ (by omega),Zab _ _ (by omega),Zab _ _ (by omega)];exact c m hm hmk
 ·rw [Zab _ _ (by omega),Zab _ _ (by omega),Zab _ _ (by omega)];exact d m hm hmk
theorem CF.skip {zs:List Int} {F:Nat->Value} {n i k1 k2:Nat} (h:CF zs F n i k1 k2) (hn:¬ln zs i=n):CF zs F n (i+1) k1 k2:=
 ⟨h.size,fun j hj hh=>h.sym j hj (by
  rcases hh with h1|⟨h1,h2⟩
  ·exact Or.inl h1
  ·by_cases e:j=i
   ·subst e;exact absurd h1 hn
   ·exact Or.inr ⟨h1,by omega⟩),h.fst,h.end_⟩
theorem CF.last {zs:List Int} {F:Nat->Value} {n k1:Nat} (h:CF zs F n zs.length k1 n) (hz:zs.length<=258) (h1:1<=n) (h20:n<=20) (hk1:k1<=21) (V:Nat) (hV:V=(fcod zs n+rank zs n zs.length)*sz n) :
  CF zs (upd F (817+n) (.int .u32 (V:Int))) (n+1) 0 k1 (n+1):=by
 obtain⟨a,b,c,d⟩:=h;refine⟨?_,fun j hj hh=>?_,fun m hm hmk=>?_,fun m hm hmk=>?_⟩
 ·rw [Zab _ _ (by omega)];exact a
 ·have hp:=Zbi zs hj;obtain⟨b1,b2,b3⟩:=b j hj (by omega);rw [Zab _ _ (by omega),Zab _ _ (by omega),Zab _ _ (by omega)];exact⟨b1,b2,b3⟩
 ·rw [Zab _ _ (by omega),Zab _ _ (by omega)];exact c m hm hmk
 ·by_cases e:m=n
  ·subst e;rw [Zak,hV]
  ·rw [Zab _ _ (by omega)];exact d m hm (by omega)
def IsCode (w:World) (b:Nat) (zs:List Int):Prop:=∃F,Obj838 w b F/\CF zs F 21 0 21 21
theorem IsCode.other {w w':World} {b:Nat} {zs:List Int} (h:IsCode w b zs) {S:Nat->Prop} (ht:Touch S w w') (hS:¬S b):IsCode w' b zs:=by
 obtain⟨F,h1,h2⟩:=h;exact⟨F,h1.other ht hS,h2⟩
theorem Zjs {zs:List Int} (hs:shr zs=1048576) {n:Nat} (hn:n<=20):fcod zs n+rank zs n zs.length<=1048576:=by
 have h1:=Zgm zs n hn;have h2:=Zgl n;rw [hs] at h1;exact Nat.le_trans (Nat.le_mul_of_pos_right _ h2) h1
theorem ZpN (b:Nat) (v:Value) (zs:List Int) (w0 w:World) (F0:Nat->Value) (hF:Obj838 w b F0) (h0:F0 0=.int .i64 (zs.length:Int)) (hv:IsInts w0 v zs) (hb0:w0.heap.size<=b) (hB:Below w0.heap.size w0 w)
  (hz:zs.length<=258) (hw:∀z∈zs,1<=z/\z<=20) (hs:shr zs=1048576) :
  Calls Tryz.prog 170 #[.pointer (some ⟨b,0,none⟩),v] w fun e w'=>e=.returned (.tuple #[])/\IsCode w' b zs/\Touch (·=b) w w':=by
 have HV:=zh hv;have HB0:=zh hB;have HW:=zh hw;have HS:=zh hs;have HF0:=zh hF;obtain⟨a,cap,rfl,_⟩:=hv;obtain⟨N,hN⟩:∃N,zs.length=N:=⟨_,rfl⟩
 have HN:=zh hN
 have hstart:Hid (CF zs F0 1 0 1 1):=zh ⟨h0,fun j hj hh=>by
  have h3:=hw (zs.getD j 0) (by rw [List.getD_eq_getElem?_getD,List.getElem?_eq_getElem hj];exact List.getElem_mem hj);unfold ln at hh;omega,fun m h1 h2=>by omega,fun m h1 h2=>by omega⟩
 have hc0:Hid (fcod zs 0+rank zs 0 zs.length=0/\cl zs 1=0):=zh ⟨by rw [Ze7,Zdr (fun z h=>(hw z h).1)],Ztd (fun z h=>(hw z h).1)⟩;rw [hN] at hz ⊢;have hgb:Hid (w0.heap.size<=b):=zh hb0;clear hB hw hs hF h0 hN hb0;go_enter Tryz.func170,Tryz.ntmps170;go_wp2_with fail
 go_loopw [4,5,6] (fun vp vc vn wr=>∃(n P C:Nat) (F:Nat->Value),vn=.int .i64 (n:Int)/\vp=.int .i64 (P:Int)/\vc=.int .u32 (C:Int)/\1<=n/\n<=21/\P=cl zs n/\C=fcod zs (n-1)+rank zs (n-1) N/\Obj838 wr b F/\CF zs F n 0 n n/\Touch (·=b) w wr) (fun _ _ vn _=>21-(intOf vn).toNat)
 case atStart=>exact⟨1,0,0,F0,rfl,rfl,rfl,by omega,by omega,hc0.out.2.symm,by have:=hc0.out.1;rw [HN.out] at this;exact this.symm,HF0.out,hstart.out,Touch.refl _ _⟩
 case round=>
  obtain⟨n,P,C,F,rfl,rfl,rfl,hn1,hn2,hP,hC,hO,hF,hT⟩:=hrel;have HO:=zh hO;have HF:=zh hF;have HT:=zh hT;have HP:=zh hP;have HC:=zh hC;have hPb:P<=258:=by have:=Zr0 zs n;rw [HN.out] at this;omega
  have hCb:C<=1048576:=by
   have:=Zjs HS.out (n:=n-1) (by omega);rw [HN.out] at this;omega
  clear hO hF hT hP hC;by_cases hn:n<=20
  ·have hni:(n:Int)<=20:=by omega
   obtain⟨A1,hA1⟩:∃A1,775+n=A1:=⟨_,rfl⟩
   obtain⟨A2,hA2⟩:∃A2,796+n=A2:=⟨_,rfl⟩
   have hn21:(n:Int)<21:=by omega
   obtain⟨c1,f1⟩:=HO.out.cell (i:=A1) (by omega);obtain⟨c2,f2⟩:=HO.out.cell (i:=A2) (by omega);have c3:=fun v=>((HO.out.set A1 v).cell (i:=A2) (by omega)).1
   have f3:=fun v=>((HO.out.set A1 v).cell (i:=A2) (by omega)).2
   obtain⟨C2,hC2⟩:∃C2,C*2=C2:=⟨_,rfl⟩
   have hC2I:(C:Int)*2=(C2:Int):=by omega
   have HFC:Hid (C2=fcod zs n):=zh (by
    have h1:=Zcv zs (n:=n-1) (by omega);rw [show n-1+1=n by omega,HN.out,<-HC.out] at h1;omega)
   have HO5:Hid (Obj838 (((wr.setCell ⟨b,A1,none⟩ (.int .u32 (C2:Int))).setCell ⟨b,A2,none⟩ (.int .i64 (P:Int))).drew) b (upd (upd F A1 (.int .u32 (C2:Int))) A2 (.int .i64 (P:Int)))):=zh (((HO.out.set _ _).set _ _).drewN 1)
   have HF5:Hid (CF zs (upd (upd F A1 (.int .u32 (C2:Int))) A2 (.int .i64 (P:Int))) n 0 (n+1) n):=zh (by
    have:=HF.out.first (by rw [HN.out];exact hz) hn1 hn (by omega);rw [hA1,hA2,<-HFC.out,<-HP.out] at this;exact this)
   have HT5:Hid (Touch (·=b) w (((wr.setCell ⟨b,A1,none⟩ (.int .u32 (C2:Int))).setCell ⟨b,A2,none⟩ (.int .i64 (P:Int))).drew)):=zh (Zaa (Zaa HT.out)).drew;have HA1:=zh hA1;have HA2:=zh hA2
   have hC2b:C2<=1048576:=by
    have h1:=Zjs HS.out (n:=n) hn;have h2:=HFC.out;omega
   clear hC2;go_wp2_with fail
   go_region
   generalize (((wr.setCell ⟨b,A1,none⟩ (.int .u32 (C2:Int))).setCell ⟨b,A2,none⟩ (.int .i64 (P:Int))).drew)=w5 at *;generalize upd (upd F A1 (.int .u32 (C2:Int))) A2 (.int .i64 (P:Int))=F5 at *;clear c1 f1 c2 f2 c3 f3 hA1 hA2;go_wp2_with fail
   go_loopw [4,5,29] (fun vp vc vj w6=>∃(j P' C':Nat) (F':Nat->Value),vj=.int .i64 (j:Int)/\vp=.int .i64 (P':Int)/\vc=.int .u32 (C':Int)/\j<=N/\P'=cl zs n+rank zs n j/\C'=fcod zs n+rank zs n j/\Obj838 w6 b F'/\CF zs F' n j (n+1) n/\Touch (·=b) w w6) (fun _ _ vj _=>N-(intOf vj).toNat)
   case atStart=>exact⟨0,P,C2,F5,rfl,rfl,rfl,by omega,by have h1:=HP.out;have:rank zs n 0=0:=rfl;omega,by have h1:=HFC.out;have:rank zs n 0=0:=rfl;omega,HO5.out,HF5.out,HT5.out⟩
   case round=>
    obtain⟨j,P',C',F',rfl,rfl,rfl,hj,hP',hC',hO',hF',hT'⟩:=hrel;have HO':=zh hO';have HF':=zh hF';have HT':=zh hT';have HP':=zh hP';have HC':=zh hC';have hrk:=Ze6 zs n j (N-j);rw [show j+(N-j)=N by omega] at hrk;have hcn:=ZdW zs n;have hcl:=Zr0 zs (n+1);rw [HN.out] at hcn hcl;have hPb':P'<=258:=by omega
    have hCb':C'<=1048576:=by
     have h1:=Zjs HS.out (n:=n) hn;rw [HN.out] at h1;omega
    clear hO' hF' hT' hP' hC' hrk hcn hcl;by_cases hlj:j<N
    ·have hji:(j:Int)<(N:Int):=by omega
     have hlz:j<zs.length:=by rw [HN.out];exact hlj
     obtain⟨b1,o1,k1,he1,c1⟩:=HV.out.cell hlz;rw [HN.out] at he1;simp only [Value.slice.injEq] at he1;obtain⟨rfl,_,rfl⟩:=he1;have hB6:Below w0.heap.size w0 wr:=HB0.out.trans (HT'.out.below (B:=w0.heap.size) HB0.out.size (fun i hi=>by have e:i=b:=hi;have:=hgb.out;omega));have c1:=(hB6.cell (ZaG c1)).trans c1;have hx2:=HW.out (zs.getD j 0) (by rw [List.getD_eq_getElem?_getD,List.getElem?_eq_getElem hlz];exact List.getElem_mem hlz);obtain⟨X,hX⟩:∃X,ln zs j=X:=⟨_,rfl⟩
     have hXI:zs.getD j 0=(X:Int):=by unfold ln at hX;omega
     rw [hXI] at c1;have HX:=zh hX;clear hB6 hXI hX;by_cases hxn:X=n
     ·have hxe:((X:Int)==(n:Int))=true:=by rw [beq_iff_eq];omega
      have HXN:=zh hxn;have hxa:X<=n:=by omega
      have hxb:n<=X:=by omega
      have hj258:(j:Int)<258:=by omega
      have hPlt:P'<258:=by
       have h1:=Zbi zs hlz;unfold plc at h1;rw [HX.out,hxn,<-HP'.out,HN.out] at h1;omega
      have hPi:(P':Int)<258:=by omega
      obtain⟨B1,hB1⟩:∃B1,1+j=B1:=⟨_,rfl⟩
      obtain⟨B2,hB2⟩:∃B2,259+j=B2:=⟨_,rfl⟩
      obtain⟨B3,hB3⟩:∃B3,517+P'=B3:=⟨_,rfl⟩
      obtain⟨d1,g1⟩:=HO'.out.cell (i:=B1) (by omega);obtain⟨d2,g2⟩:=HO'.out.cell (i:=B2) (by omega);obtain⟨d3,g3⟩:=HO'.out.cell (i:=B3) (by omega);have d4:=fun v=>((HO'.out.set B1 v).cell (i:=B2) (by omega)).1
      have g4:=fun v=>((HO'.out.set B1 v).cell (i:=B2) (by omega)).2
      have d5:=fun v u=>(((HO'.out.set B1 v).set B2 u).cell (i:=B3) (by omega)).1
      have g5:=fun v u=>(((HO'.out.set B1 v).set B2 u).cell (i:=B3) (by omega)).2
      have HB1:=zh hB1;have HB2:=zh hB2;have HB3:=zh hB3;have HO7:Hid (Obj838 ((((wr.setCell ⟨b,B1,none⟩ (.int .i64 (n:Int))).setCell ⟨b,B2,none⟩ (.int .u32 (C':Int))).setCell ⟨b,B3,none⟩ (.int .i64 (j:Int))).drew) b (upd (upd (upd F' B1 (.int .i64 (n:Int))) B2 (.int .u32 (C':Int))) B3 (.int .i64 (j:Int)))):=zh ((((HO'.out.set _ _).set _ _).set _ _).drewN 1);have HT7:Hid (Touch (·=b) w ((((wr.setCell ⟨b,B1,none⟩ (.int .i64 (n:Int))).setCell ⟨b,B2,none⟩ (.int .u32 (C':Int))).setCell ⟨b,B3,none⟩ (.int .i64 (j:Int))).drew)):=zh (Zaa (Zaa (Zaa HT'.out))).drew
      have HF7:Hid (CF zs (upd (upd (upd F' B1 (.int .i64 (n:Int))) B2 (.int .u32 (C':Int))) B3 (.int .i64 (j:Int))) n (j+1) (n+1) n):=zh (by
       rw [<-hB1,<-hB2,<-hB3];exact HF'.out.push (by rw [HN.out];exact hz) hlz (by rw [HX.out,hxn]) C' P' HC'.out HP'.out)
      have hrs:Hid (rank zs n (j+1)=rank zs n j+1):=zh (by
       have:=Zbh zs n j;rw [if_pos (show(zs.getD j 0).toNat=n by have:=HX.out;unfold ln at this;omega)] at this;exact this)
      clear hxn;go_wp2_with fail
      go_region
      generalize ((((wr.setCell ⟨b,B1,none⟩ (.int .i64 (n:Int))).setCell ⟨b,B2,none⟩ (.int .u32 (C':Int))).setCell ⟨b,B3,none⟩ (.int .i64 (j:Int))).drew)=w7 at *;generalize upd (upd (upd F' B1 (.int .i64 (n:Int))) B2 (.int .u32 (C':Int))) B3 (.int .i64 (j:Int))=F7 at *;clear d1 g1 d2 g2 d3 g3 d4 g4 d5 g5 hB1 hB2 hB3;go_wp2_with fail;go_roundw
      case rel=>exact⟨j+1,P'+1,C'+1,F7,by go_num,by go_num,by go_num,by omega,by have h1:=HP'.out;have h2:=hrs.out;omega,by have h1:=HC'.out;have h2:=hrs.out;omega,HO7.out,HF7.out,HT7.out⟩
      case measure=>simp [intOf];omega
     ·have hxe:((X:Int)==(n:Int))=false:=by rw [beq_eq_false_iff_ne];omega
      have HF7:Hid (CF zs F' n (j+1) (n+1) n):=zh (HF'.out.skip (by rw [HX.out];exact hxn))
      have hrs:Hid (rank zs n (j+1)=rank zs n j):=zh (by
       have:=Zbh zs n j;rw [if_neg (show ¬(zs.getD j 0).toNat=n by have:=HX.out;unfold ln at this;omega)] at this;exact this)
      go_wp2_with fail;go_roundw
      case rel=>exact⟨j+1,P',C',F',by go_num,rfl,rfl,by omega,by have h1:=HP'.out;have h2:=hrs.out;omega,by have h1:=HC'.out;have h2:=hrs.out;omega,HO'.out,HF7.out,HT'.out⟩
      case measure=>simp [intOf];omega
    ·have hji:¬(j:Int)<(N:Int):=by omega
     obtain rfl:N=j:=by omega
     obtain⟨D1,hD1⟩:∃D1,817+n=D1:=⟨_,rfl⟩
     obtain⟨d1,g1⟩:=HO'.out.cell (i:=D1) (by omega);obtain⟨S,hS⟩:∃S:Nat,20-n=S:=⟨_,rfl⟩
     have hSI:(20:Int)-(n:Int)=(S:Int):=by omega
     have hS0:¬(20:Int)-(n:Int)<0:=by omega
     have hSb:S<=20:=by omega
     obtain⟨V,hV⟩:∃V,C'*2^S=V:=⟨_,rfl⟩
     have hVb:V<=1048576:=by
      have h1:=Zgm zs n hn;rw [HS.out,HN.out,<-HC'.out] at h1;unfold sz at h1;rw [hS,hV] at h1;exact h1
     have HVV:Hid (V=(fcod zs n+rank zs n zs.length)*sz n):=zh (by
      rw [HN.out,<-HC'.out];unfold sz;rw [hS,hV])
     have HV2:Hid ((C':Int)*2^S=(V:Int)):=zh (by rw [<-hV];rw [Int.natCast_mul,Int.natCast_pow];rfl)
     have HF8:Hid (CF zs (upd F' D1 (.int .u32 (V:Int))) (n+1) 0 (n+1) (n+1)):=zh (by
      rw [<-hD1];have h1:=HF'.out;rw [<-HN.out] at h1;exact h1.last (by rw [HN.out];exact hz) hn1 hn (by omega) V HVV.out)
     have hcl:Hid (P'=cl zs (n+1)):=zh (by rw [ZdW,HN.out];exact HP'.out);have HD1:=zh hD1;have HVm:(C':Int)*2^S % 4294967296=(V:Int):=by rw [HV2.out];omega
     have HO8:Hid (Obj838 ((wr.setCell ⟨b,D1,none⟩ (.int .u32 (V:Int))).drew) b (upd F' D1 (.int .u32 (V:Int)))):=zh ((HO'.out.set _ _).drewN 1);have HT8:Hid (Touch (·=b) w ((wr.setCell ⟨b,D1,none⟩ (.int .u32 (V:Int))).drew)):=zh (Zaa HT'.out).drew;clear hS hV;go_wp2_with fail
     go_region
     generalize ((wr.setCell ⟨b,D1,none⟩ (.int .u32 (V:Int))).drew)=w8 at *;generalize upd F' D1 (.int .u32 (V:Int))=F8 at *;clear HVm hD1;go_wp2_with fail;go_roundw
     case rel=>exact⟨n+1,P',C',F8,by go_num,rfl,rfl,by omega,by omega,hcl.out,by rw [Nat.add_sub_cancel];exact HC'.out,HO8.out,HF8.out,HT8.out⟩
     case measure=>simp [intOf];omega
  ·have hni:¬(n:Int)<=20:=by omega
   obtain rfl:n=21:=by omega
   go_wp2_with fail;go_end0;exact⟨rfl,⟨F,HO.out,HF.out⟩,HT.out⟩
end
section
open Go.RowKit
def Within (a b:Int) (zs:List Int):Prop:=∀z∈zs,a<=z/\z<=b
theorem getD_mem {zs:List Int} {k:Nat} (h:k<zs.length):zs.getD k 0∈zs:=by
 rw [List.getD_eq_getElem?_getD,List.getElem?_eq_getElem h];exact List.getElem_mem h
theorem Zds {a b:Int} {zs:List Int} (h:∀j,j<zs.length->a<=zs.getD j 0/\zs.getD j 0<=b):Within a b zs:=fun z hz=>by
 obtain⟨j,hj,rfl⟩:=List.mem_iff_getElem.1 hz;have:=h j hj;rw [List.getD_eq_getElem?_getD,List.getElem?_eq_getElem hj] at this;exact this
theorem Zbm (v:Value) (zs:List Int) (a b:Int) (r:Bool) (w:World) (hv:IsInts w v zs) (hr:r=true↔Within a b zs) (hz:zs.length<=9223372036854775807) :
  Calls Tryz.prog 260 #[v,.int .i64 a,.int .i64 b] w fun e w'=>e=.returned (.bool r)/\w'=w:=by
 have HV:=zh hv;have HRR:=zh hr;obtain⟨ad,cap,rfl,_⟩:=hv;clear hr;go_enter Tryz.func260,Tryz.ntmps260;go_wp2_with fail
 go_loopw [11] (fun i wr=>∃k:Nat,k<=zs.length/\i=.int .i64 k/\wr=w/\∀j,j<k->a<=zs.getD j 0/\zs.getD j 0<=b) (fun i _=>zs.length-(intOf i).toNat)
 case atStart=>exact⟨0,by omega,rfl,rfl,fun j hj=>by omega⟩
 case round=>
  obtain⟨k,hk,rfl,rfl,hA⟩:=hrel;have HA:=zh hA;clear hA;by_cases hlk:k<zs.length
  ·have hki:(k:Int)<(zs.length:Int):=by omega
   obtain⟨b1,o1,k1,he1,c1⟩:=HV.out.cell hlk;simp only [Value.slice.injEq] at he1;obtain⟨rfl,_,rfl⟩:=he1;obtain⟨x,hx⟩:∃x,zs.getD k 0=x:=⟨_,rfl⟩
   rw [hx] at c1;have HX:=zh hx;clear hx;by_cases h1:x<a
   ·have hrf:r=false:=by
     rw [Bool.eq_false_iff,Ne,HRR.out];intro h;have:=h _ (getD_mem hlk);rw [HX.out] at this;omega
    subst hrf;go_wp2_with fail;go_ret;exact⟨rfl,rfl⟩
   ·have hd:decide (x<a)=false:=by simp only [decide_eq_false_iff_not];exact h1
    by_cases h2:b<x
    ·have hrf:r=false:=by
      rw [Bool.eq_false_iff,Ne,HRR.out];intro h;have:=h _ (getD_mem hlk);rw [HX.out] at this;omega
     subst hrf;go_wp2_with fail;go_ret;exact⟨rfl,rfl⟩
    ·have hd2:decide (b<x)=false:=by simp only [decide_eq_false_iff_not];exact h2
     go_wp2_with fail;go_roundw
     case rel=>exact⟨k+1,by omega,by go_num,(by first|rfl|trivial),fun j hj=>by
      by_cases e:j=k
      ·subst e;rw [HX.out];omega
      ·exact HA.out j (by omega)⟩
     case measure=>simp [intOf];omega
  ·have hki:¬(k:Int)<(zs.length:Int):=by omega
   have hrt:r=true:=by
    rw [HRR.out];exact Zds (fun j hj=>HA.out j (by omega))
   subst hrt;go_wp2_with fail;go_ret;exact⟨rfl,rfl⟩
end
section
open Go.RowKit HufM
theorem Zl8 (v:Value) (zs:List Int) (w:World) (hv:IsInts w v zs) (hz:zs.length<=1000000) (hb:∀z∈zs,z<=9223372036854775807) :
  Calls Tryz.prog 277 #[v] w fun e w'=>∃r,e=.returned r/\IsInts w' r (hvs zs)/\Below w.heap.size w w':=by
 have HV:=zh hv;have HBD:=zh hb;obtain⟨a,cap,rfl,_⟩:=hv;obtain⟨N,hN⟩:∃N,zs.length=N:=⟨_,rfl⟩
 have HN:=zh hN;have hmk:=Za2 N (by omega) w;have HR0:=zh (RowI.made w N);have hb0:Hid (Below w.heap.size w (w.alloc (.cells (madeCells #[Value.int .i64 0] N) 3))):=zh ((Below.refl _ w).alloc (Nat.le_refl _) _);obtain⟨g,hg⟩:∃g,w.heap.size=g:=⟨_,rfl⟩
 have HG:=zh hg;rw [hg] at hmk HR0;rw [hN] at hz ⊢;clear hb hg hN;go_enter Tryz.func277,Tryz.ntmps277;go_wp2_with fail;generalize w.alloc (.cells (madeCells #[Value.int .i64 0] N) 3)=w1 at *;go_wp2_with fail
 go_loopw [11] (fun i wr=>∃k:Nat,k<=N/\i=.int .i64 k/\RowI wr g ((zs.take k).map hv++List.replicate (N-k) 0)/\Below w.heap.size w wr) (fun i _=>N-(intOf i).toNat)
 case atStart=>exact⟨0,Nat.zero_le _,rfl,by simpa using HR0.out,hb0.out⟩
 case round=>
  obtain⟨k,hk,rfl,hR,hB⟩:=hrel;have HR:=zh hR;have HB:=zh hB;have hlen:((zs.take k).map hv).length=k:=by rw [List.length_map,List.length_take,HN.out];omega
  by_cases hlk:k<N
  ·have hki:(k:Int)<(N:Int):=by omega
   obtain⟨b1,o1,k1,he1,c1⟩:=HV.out.cell (show k<zs.length by rw [HN.out];exact hlk);simp only [Value.slice.injEq] at he1;obtain⟨rfl,_,rfl⟩:=he1;have c1:=(HB.out.cell (ZaG c1)).trans c1;obtain⟨x,hx⟩:∃x,zs.getD k 0=x:=⟨_,rfl⟩
   rw [hx] at c1;have hxb:x<=9223372036854775807:=by rw [<-hx];exact HBD.out _ (getD_mem (by rw [HN.out];exact hlk))
   obtain⟨c2,f2,hset⟩:=RowI.cell hR (i:=k) (by rw [List.length_append,hlen,List.length_replicate];omega);generalize ((zs.take k).map hv++List.replicate (N-k) 0).getD k 0=y at c2;obtain⟨M,hM⟩:∃M,(if x<0 then 0 else x)=M:=⟨_,rfl⟩
   have hM0:0<=M:=by rw [<-hM];split<;>omega
   have hMb:M<=9223372036854775807:=by rw [<-hM];split<;>omega
   have hq:IntKind.i64.wrap (M / 2)=M / 2:=IntWalk.i64_in _ (by omega)
   have hnext:Hid (RowI (wr.setCell ⟨g,k,none⟩ (.int .i64 (M / 2+1))) g ((zs.take (k+1)).map hv++List.replicate (N-(k+1)) 0)):=zh (by
    have h1:=hset (M / 2+1);have h2:=Zk2 ((zs.take k).map hv) (N-(k+1)) (M / 2+1);rw [hlen,show N-(k+1)+1=N-k by omega] at h2;rw [h2] at h1
    have h3:(zs.take (k+1)).map hv=(zs.take k).map hv++[M / 2+1]:=by
     rw [List.take_add_one,List.map_append,List.getElem?_eq_getElem (show k<zs.length by rw [HN.out];exact hlk)];congr 1;have hx2:zs[k]'(by rw [HN.out];exact hlk)=x:=by rw [<-hx,List.getD_eq_getElem?_getD,List.getElem?_eq_getElem (show k<zs.length by rw [HN.out];exact hlk)];rfl
     simp only [Option.toList_some,List.map_cons,List.map_nil,hx2];unfold hv;rw [hM]
    rw [h3];exact h1)
   have hbn:Hid (Below w.heap.size w (wr.setCell ⟨g,k,none⟩ (.int .i64 (M / 2+1)))):=zh (HB.out.setCell (p:=⟨g,k,none⟩) (by rw [HG.out];exact Nat.le_refl g) _);have HM:=zh hM;clear hR hB hset hx hM hlen;go_wp2_with fail;go_roundw
   case rel=>exact⟨k+1,by omega,by go_num,by rw [HM.out];exact hnext.out,by rw [HM.out];exact hbn.out⟩
   case measure=>simp [intOf];omega
  ·have hki:¬(k:Int)<(N:Int):=by omega
   obtain rfl:N=k:=by omega
   go_wp2_with fail;go_ret;have h:=HR.out.ints N N (by rw [List.length_append,hlen];simp)
   have e:(zs.take N).map hv++List.replicate (N-N) 0=hvs zs:=by
    rw [Nat.sub_self,List.replicate_zero,List.append_nil,List.take_of_length_le (Nat.le_of_eq HN.out)];rfl
   rw [e] at h;exact⟨_,rfl,h,HB.out⟩
def lg (zs:List Int):Int:=zs.foldl (fun m x=>if m<x then x else m) 0
theorem Zr3 (zs:List Int) {k:Nat} (h:k<zs.length):lg (zs.take (k+1))=if lg (zs.take k)<zs.getD k 0 then zs.getD k 0 else lg (zs.take k):=by
 unfold lg;rw [List.take_add_one,List.foldl_append,List.getD_eq_getElem?_getD,List.getElem?_eq_getElem h];rfl
theorem Zl9 (zs:List Int):∀m:Int,m<=zs.foldl (fun m x=>if m<x then x else m) m/\(∀z∈zs,z<=zs.foldl (fun m x=>if m<x then x else m) m)/\(zs.foldl (fun m x=>if m<x then x else m) m=m\/zs.foldl (fun m x=>if m<x then x else m) m∈zs):=by
 induction zs with
 | nil=>intro m;exact⟨Int.le_refl _,fun z h=>(by cases h),Or.inl rfl⟩
 | cons x t ih=>
  intro m;obtain⟨h1,h2,h3⟩:=ih (if m<x then x else m);simp only [List.foldl_cons];have hm:m<=(if m<x then x else m)/\x<=(if m<x then x else m):=by split<;>omega
  refine⟨by omega,fun z hz=>?_,?_⟩
  ·rcases List.mem_cons.1 hz with rfl|hz
   ·omega
   ·exact h2 z hz
  ·rcases h3 with h|h
   ·rw [h];split
    ·exact Or.inr (List.mem_cons_self ..)
    ·exact Or.inl rfl
   ·exact Or.inr (List.mem_cons_of_mem _ h)
theorem Zte {zs:List Int} {b:Int} (h0:0<=b):lg zs<=b↔∀z∈zs,z<=b:=by
 obtain⟨h1,h2,h3⟩:=Zl9 zs 0;constructor
 ·intro h z hz;exact Int.le_trans (h2 z hz) h
 ·intro h;rcases h3 with e|e
  ·unfold lg;rw [e];exact h0
  ·exact h _ e
theorem Zjt (v:Value) (zs:List Int) (w:World) (hv:IsInts w v zs) (hz:zs.length<=9223372036854775807) :
  Calls Tryz.prog 276 #[v] w fun e w'=>e=.returned (.int .i64 (lg zs))/\w'=w:=by
 have HV:=zh hv;obtain⟨ad,cap,rfl,_⟩:=hv;go_enter Tryz.func276,Tryz.ntmps276;go_wp2_with fail
 go_loopw [3,8] (fun m i wr=>∃k:Nat,k<=zs.length/\i=.int .i64 k/\m=.int .i64 (lg (zs.take k))/\wr=w) (fun _ i _=>zs.length-(intOf i).toNat)
 case atStart=>exact⟨0,by omega,rfl,rfl,rfl⟩
 case round=>
  obtain⟨k,hk,rfl,rfl,rfl⟩:=hrel;by_cases hlk:k<zs.length
  ·have hki:(k:Int)<(zs.length:Int):=by omega
   obtain⟨b1,o1,k1,he1,c1⟩:=HV.out.cell hlk;simp only [Value.slice.injEq] at he1;obtain⟨rfl,_,rfl⟩:=he1;have ht:=Zr3 zs hlk;obtain⟨x,hx⟩:∃x,zs.getD k 0=x:=⟨_,rfl⟩
   rw [hx] at c1 ht;have HT:=zh ht;obtain⟨m,hm⟩:∃m,lg (zs.take k)=m:=⟨_,rfl⟩
   rw [hm] at ht;have HT2:=zh ht;rw [hm];clear hx ht HT;go_wp2_with fail;go_roundw
   case rel=>exact⟨k+1,by omega,by go_num,by rw [HT2.out],(by first|rfl|trivial)⟩
   case measure=>simp [intOf];omega
  ·have hki:¬(k:Int)<(zs.length:Int):=by omega
   have e:zs.take k=zs:=List.take_of_length_le (by omega);rw [e];clear e;go_wp2_with fail;go_ret;exact⟨rfl,rfl⟩
theorem Zk3 (zs:List Int) {k:Nat} (h:k<zs.length):shr (zs.take (k+1))=shr (zs.take k)+2^(20-(zs.getD k 0).toNat):=by
 unfold shr;rw [List.take_add_one,ZaL,List.getD_eq_getElem?_getD,List.getElem?_eq_getElem h];simp [sumN]
theorem Ze8 (zs:List Int):shr zs<=1048576*zs.length:=Zca (fun x _=>Nat.pow_le_pow_right (by decide) (show 20-x.toNat<=20 by omega))
def ShareP (zs:List Int) (n:Int) (err:Nat):Prop:=(¬(zs.length<=258/\Within 0 20 zs)/\n=0/\err=1)\/((zs.length<=258/\Within 0 20 zs)/\n=(shr zs:Int)/\err=0)
theorem Zns (v:Value) (zs:List Int) (w:World) (hv:IsInts w v zs) (hz:zs.length<=9223372036854775807) :
  Calls Tryz.prog 224 #[v] w fun e w'=>∃(n:Int) (err:Nat),e=.returned (.tuple #[.int .i64 n,.int .i64 (err:Int)])/\ShareP zs n err/\w'=w:=by
 have HV:=zh hv;obtain⟨ad,cap,rfl,_⟩:=hv;by_cases hl:zs.length<=258
 ·have hlb:(zs.length:Int)<=258:=by omega
  have hnl:decide (258<(zs.length:Int))=false:=by simp only [decide_eq_false_iff_not];omega
  by_cases hw:Within 0 20 zs
  ·have HW:=zh hw;have HA:=zh (Zbm _ zs 0 20 true w HV.out ⟨fun _=>hw,fun _=>rfl⟩ hz);clear hw;go_enter Tryz.func224,Tryz.ntmps224;go_wp2_with fail;refine HA.out.mono ?_;rintro e w1 ⟨rfl,rfl⟩;go_wp2_with fail
   go_loopw [4,17] (fun m i wr=>∃k s:Nat,k<=zs.length/\i=.int .i64 k/\m=.int .i64 s/\s=shr (zs.take k)/\wr=w1) (fun _ i _=>zs.length-(intOf i).toNat)
   case atStart=>exact⟨0,0,by omega,rfl,rfl,rfl,rfl⟩
   case round=>
    obtain⟨k,s,hk,rfl,rfl,hs,rfl⟩:=hrel;by_cases hlk:k<zs.length
    ·have hki:(k:Int)<(zs.length:Int):=by omega
     obtain⟨b1,o1,k1,he1,c1⟩:=HV.out.cell hlk;simp only [Value.slice.injEq] at he1;obtain⟨rfl,_,rfl⟩:=he1;have ht:=Zk3 zs hlk;have hx2:=HW.out _ (getD_mem hlk)
     have hsb:s<=1048576*258:=by
      have:=Ze8 (zs.take k);rw [<-hs,List.length_take] at this;have h3:1048576*min k zs.length<=1048576*258:=Nat.mul_le_mul_left _ (by omega);omega
     obtain⟨x,hx⟩:∃x,zs.getD k 0=x:=⟨_,rfl⟩
     rw [hx] at c1 ht hx2;obtain⟨e,he⟩:∃e,20-x.toNat=e:=⟨_,rfl⟩
     have hxe:(20:Int)-x=(e:Int):=by omega
     have hxe2:¬(20:Int)-x<0:=by omega
     have hpe:2^e<=1048576:=Nat.pow_le_pow_right (by decide) (show e<=20 by omega);rw [he,<-hs] at ht;have HT:=zh ht;obtain⟨P,hP⟩:∃P,2^e=P:=⟨_,rfl⟩
     rw [hP] at hpe ht;have HTP:=zh ht;have HP:=zh hP;clear hs hx ht HT hP
     have hwv:Hid (wrap64 ((s:Int)+wrap64 (2^e))=((s+P:Nat):Int)):=zh (by
      have h1:(2:Int)^e=(P:Int):=by rw [<-HP.out];exact(Int.natCast_pow 2 e).symm
      rw [h1,IntWalk.wrap64_in (P:Int) (by omega),IntWalk.wrap64_in ((s:Int)+(P:Int)) (by omega)];omega)
     go_wp2_with fail;go_roundw
     case rel=>exact⟨k+1,s+P,by omega,by go_num,by rw [hwv.out],HTP.out.symm,(by first|rfl|trivial)⟩
     case measure=>simp [intOf];omega
    ·have hki:¬(k:Int)<(zs.length:Int):=by omega
     have e:zs.take k=zs:=List.take_of_length_le (by omega);rw [e] at hs;have HS:=zh hs;clear e hs;go_wp2_with fail;go_ret2;exact⟨_,0,rfl,Or.inr ⟨⟨hl,HW.out⟩,by rw [HS.out],rfl⟩,rfl⟩
  ·have HW:=zh hw;have HA:=zh (Zbm _ zs 0 20 false w HV.out ⟨fun h=>(by cases h),fun h=>absurd h hw⟩ hz);clear hw;go_enter Tryz.func224,Tryz.ntmps224;go_wp2_with fail;refine HA.out.mono ?_;rintro e w1 ⟨rfl,rfl⟩;go_wp2_with fail;go_ret2;exact⟨0,1,rfl,Or.inl ⟨fun h=>HW.out h.2,rfl,rfl⟩,rfl⟩
 ·have hlb:258<(zs.length:Int):=by omega
  go_enter Tryz.func224,Tryz.ntmps224;go_wp2_with fail;go_ret2;exact⟨0,1,rfl,Or.inl ⟨fun h=>hl h.1,rfl,rfl⟩,rfl⟩
def WholeP (zs:List Int):Prop:=Within 1 20 zs/\shr zs=1048576
end
section
open Go.RowKit CanM HufM
theorem Zh6 {zs:List Int} (h3:2<=zs.length):(Within 0 20 zs/\shr zs=1048576)↔WholeP zs:=by
 constructor
 ·rintro⟨h1,h2⟩;refine⟨fun z hz=>?_,h2⟩;have hb:=h1 z hz;by_cases h0:z=0
  ·exfalso
   obtain⟨s,t,rfl⟩:=List.append_of_mem hz;unfold shr at h2;rw [ZaL] at h2;simp only [sumN] at h2;subst h0;simp only [Int.toNat_zero,Nat.sub_zero] at h2
   have hpos:∀(l:List Int),l≠[]->0<sumN (fun x:Int=>2^(20-x.toNat)) l:=by
    intro l hl;cases l with
    | nil=>exact absurd rfl hl
    | cons y l=>
     simp only [sumN];have:0<2^(20-y.toNat):=Nat.pow_pos (by decide);omega
   by_cases hs:s=[]
   ·subst hs;have ht:t≠[]:=by rintro rfl;simp at h3
    have:=hpos t ht;omega
   ·have:=hpos s hs;omega
  ·omega
 ·rintro⟨h1,h2⟩;exact⟨fun z hz=>by have:=h1 z hz;omega,h2⟩
theorem Zen (v:Value) (zs:List Int) (r:Bool) (w:World) (hv:IsInts w v zs) (h3:2<=zs.length) (hz:zs.length<=258) (hr:r=true↔WholeP zs) :
  Calls Tryz.prog 169 #[v] w fun e w'=>e=.returned (.bool r)/\w'=w:=by
 have HV:=zh hv;have HR:=zh hr;obtain⟨a,cap,rfl,_⟩:=hv;clear hr;go_enter Tryz.func169,Tryz.ntmps169;go_wp2_with fail;refine(Zns _ zs w HV.out (by omega)).mono ?_;rintro e w1 ⟨n,err,rfl,hP,rfl⟩;rcases hP with⟨h1,rfl,rfl⟩|⟨h1,rfl,rfl⟩
 ·obtain rfl:r=false:=by
   rw [Bool.eq_false_iff,Ne,HR.out,<-Zh6 h3];exact fun h=>h1 ⟨hz,h.1⟩
  clear h1;go_wp2_with fail;go_ret;exact⟨rfl,rfl⟩
 ·by_cases hs:shr zs=1048576
  ·obtain rfl:r=true:=by rw [HR.out,<-Zh6 h3];exact⟨h1.2,hs⟩
   have hb:((shr zs:Int)==1048576)=true:=by rw [beq_iff_eq];omega
   clear h1;generalize shr zs=T at *;clear hs;go_wp2_with fail;go_ret;exact⟨rfl,rfl⟩
  ·obtain rfl:r=false:=by
    rw [Bool.eq_false_iff,Ne,HR.out];exact fun h=>hs h.2
   have hb:((shr zs:Int)==1048576)=false:=by rw [beq_eq_false_iff_ne];omega
   clear h1;generalize shr zs=T at *;clear hs;go_wp2_with fail;go_ret;exact⟨rfl,rfl⟩
def Zg2 (x:Value) (i:Nat):Value:=if i=0 then x else if i<259 then .int .i64 0 else if i<517 then .int .u32 0 else if i<775 then .int .i64 0 else if i<796 then .int .u32 0 else if i<817 then .int .i64 0 else .int .u32 0
theorem Zr4 (x:Int):Tryz.prog.built 229 [(0,.int .i64 x)]=some (cellsF 838 (Zg2 (.int .i64 x))):=by kernel_rfl
theorem Znt (v:Value) (zs:List Int) (w:World) (hv:IsInts w v zs) (h3:3<=zs.length) (h258:zs.length<=258) (h:¬WholeP zs) :
  Calls Tryz.prog 111 #[v] w fun e w'=>e=.returned (.tuple #[.pointer none,.int .i64 22])/\w'=w:=by
 have HV:=zh hv;have HH:=zh h;obtain⟨a,cap,rfl,_⟩:=hv;have h3i:(3:Int)<=zs.length:=by omega
 have h4i:(zs.length:Int)<=258:=by omega
 clear h;go_enter Tryz.func111,Tryz.ntmps111;go_wp2_with fail;refine(Zen _ zs false w HV.out (by omega) h258 (by simpa using HH.out)).mono ?_;rintro e w' ⟨rfl,rfl⟩;go_wp2_with fail;go_ret2;exact⟨rfl,rfl⟩
theorem Znu (v:Value) (zs:List Int) (w:World) (hv:IsInts w v zs) (h3:3<=zs.length) (h258:zs.length<=258) (h:WholeP zs) :
  Calls Tryz.prog 111 #[v] w fun e w'=>e=.returned (.tuple #[.pointer (some ⟨w.heap.size,0,none⟩),.int .i64 0])/\IsCode w' w.heap.size zs/\Below w.heap.size w w':=by
 have HV:=zh hv;have HH:=zh h;obtain⟨a,cap,rfl,_⟩:=hv;have h3i:(3:Int)<=zs.length:=by omega
 have h4i:(zs.length:Int)<=258:=by omega
 have hb:=Zr4 (zs.length:Int);have hobj:Hid (Obj838 (w.alloc (.cells (cellsF 838 (Zg2 (.int .i64 (zs.length:Int)))) 229)) w.heap.size (Zg2 (.int .i64 (zs.length:Int)))):=zh (heap_alloc_new w _);generalize cellsF 838 (Zg2 (.int .i64 (zs.length:Int)))=Z at *;have hbel:Hid (Below w.heap.size w (w.alloc (.cells Z 229))):=zh ((Below.refl w.heap.size w).alloc (by exact Nat.le_refl _) _);clear h;go_enter Tryz.func111,Tryz.ntmps111;go_wp2_with fail;refine(Zen _ zs true w HV.out (by omega) h258 (by simpa using HH.out)).mono ?_;rintro e w' ⟨rfl,rfl⟩;go_wp2_with (refine Zaj rfl 229 0 _ rfl _ rfl Z hb ?_);refine(ZpN w'.heap.size _ zs w' _ _ hobj.out rfl HV.out (Nat.le_refl _) hbel.out h258 (fun z hz=>HH.out.1 z hz) HH.out.2).mono ?_;rintro e w2 ⟨rfl,hC,hT⟩;have HC:=zh hC;have HB:Hid (Below w'.heap.size w' w2):=zh (hbel.out.trans (hT.below (by show w'.heap.size<=(w'.heap.push _).size;simp) (fun i hi=>by rw [hi];exact Nat.le_refl _)));clear hC hT;go_wp2_with fail;go_ret2;exact⟨rfl,HC.out,HB.out⟩
theorem IsCode.size {w:World} {b:Nat} {zs:List Int} (h:IsCode w b zs):w.cell? ⟨b,0,none⟩=some (.int .i64 (zs.length:Int)):=by
 obtain⟨F,h1,h2⟩:=h;rw [(h1.cell (i:=0) (by omega)).1,h2.size]
theorem IsCode.sym {w:World} {b:Nat} {zs:List Int} (h:IsCode w b zs) (hw:∀z∈zs,1<=z/\z<=20) (h258:zs.length<=258) {i:Nat} (hi:i<zs.length) :
  w.cell? ⟨b,1+i,none⟩=some (.int .i64 (ln zs i:Int))/\w.cell? ⟨b,259+i,none⟩=some (.int .u32 (cod zs (ln zs i,i):Int))/\w.cell? ⟨b,517+plc zs i,none⟩=some (.int .i64 (i:Int)):=by
 obtain⟨F,h1,h2⟩:=h
 have hl:ln zs i<21:=by
  have:=hw (zs.getD i 0) (by rw [List.getD_eq_getElem?_getD,List.getElem?_eq_getElem hi];exact List.getElem_mem hi);unfold ln;omega
 obtain⟨a1,a2,a3⟩:=h2.sym i hi (Or.inl hl);have hp:=Zbi zs hi;rw [(h1.cell (i:=1+i) (by omega)).1,(h1.cell (i:=259+i) (by omega)).1,(h1.cell (i:=517+plc zs i) (by omega)).1,a1,a2,a3,ZeI hi (ln zs i) rfl];exact⟨rfl,rfl,rfl⟩
theorem IsCode.len {w:World} {b:Nat} {zs:List Int} (h:IsCode w b zs) {m:Nat} (h1:1<=m) (h20:m<=20) :
  w.cell? ⟨b,775+m,none⟩=some (.int .u32 (fcod zs m:Int))/\w.cell? ⟨b,796+m,none⟩=some (.int .i64 (cl zs m:Int))/\w.cell? ⟨b,817+m,none⟩=some (.int .u32 (((fcod zs m+rank zs m zs.length)*sz m:Nat):Int)):=by
 obtain⟨F,k1,k2⟩:=h;obtain⟨a1,a2⟩:=k2.fst m h1 (by omega);rw [(k1.cell (i:=775+m) (by omega)).1,(k1.cell (i:=796+m) (by omega)).1,(k1.cell (i:=817+m) (by omega)).1,a1,a2,k2.end_ m h1 (by omega)];exact⟨rfl,rfl,rfl⟩
theorem Zh7 (b:Nat) (zs:List Int) (w:World) (h:IsCode w b zs):Calls Tryz.prog 225 #[.pointer (some ⟨b,0,none⟩)] w fun e w'=>e=.returned (.int .i64 (zs.length:Int))/\w'=w:=by
 have c0:=h.size;clear h;go_enter Tryz.func225,Tryz.ntmps225;go_wp2;go_ret;exact⟨rfl,rfl⟩
theorem Ztf (b:Nat) (zs:List Int) (i:Nat) (w:World) (h:IsCode w b zs) (hw:∀z∈zs,1<=z/\z<=20) (h258:zs.length<=258) (hi:i<zs.length) :
  Calls Tryz.prog 171 #[.pointer (some ⟨b,0,none⟩),.int .i64 (i:Int)] w fun e w'=>e=.returned (.tuple #[.int .u32 (cod zs (ln zs i,i):Int),.int .i64 (ln zs i:Int),.int .i64 0])/\∃n,w'=w.drewN n:=by
 have c0:=h.size;have H:=zh h;obtain⟨c1,c2,_⟩:=h.sym hw h258 hi;have hz:((zs.length:Int)==0)=false:=by rw [beq_eq_false_iff_ne];omega
 have hlt:(i:Int)<zs.length:=by omega
 have h258i:(i:Int)<258:=by omega
 obtain⟨A1,hA1⟩:∃A1,1+i=A1:=⟨_,rfl⟩
 obtain⟨A2,hA2⟩:∃A2,259+i=A2:=⟨_,rfl⟩
 rw [hA1] at c1;rw [hA2] at c2;generalize cod zs (ln zs i,i)=C at *;generalize ln zs i=n at *;clear h;go_enter Tryz.func171,Tryz.ntmps171;go_wp2_with fail;refine(Zh7 b zs _ H.out).mono ?_;rintro e w' ⟨rfl,rfl⟩;go_wp2_with fail
 go_quiet (fail)
 go_wp2_with fail;go_ret3;exact⟨rfl,_,rfl⟩
end
section
namespace CanM
open Go.RowKit HufM BitM
theorem ZbR:∀(q:List Bool) (e:Nat),num (q++List.replicate e false)=num q*2^e
 | q,0=>by simp
 | q,e+1=>by
  rw [List.replicate_succ',<-List.append_assoc,ZeB,ZbR q e,Nat.pow_succ];show 2*_+0=_;rw [Nat.add_zero,<-Nat.mul_assoc,Nat.mul_comm 2,Nat.mul_assoc,Nat.mul_comm 2]
def endc (l:List Int) (m:Nat):Nat:=(fcod l m+rank l m l.length)*sz m
theorem Zr5 (l:List Int) (m:Nat) (hm:m<=20):endc l m=fst_ l (m+1):=Zk0 l m hm
theorem Zk4 (l:List Int):∀(e m:Nat),fst_ l m<=fst_ l (m+e)
 | 0,m=>Nat.le_refl _
 | e+1,m=>by
  refine Nat.le_trans (Zk4 l e m) ?_;rw [<-Nat.add_assoc];unfold fst_;generalize ent l=t
  induction t with
  | nil=>exact Nat.le_refl _
  | cons x t ih=>
   simp only [sumN];by_cases h:x.1<m+e
   ·rw [if_pos h,if_pos (by omega)];omega
   ·rw [if_neg h];omega
theorem Zcx {l:List Int} {i:Nat} (hi:i<l.length):(ln l i,i)∈ent l:=Ze5 hi
theorem ZpO {l:List Int} (hw:∀z∈l,1<=z/\z<=20) (hs:shr l=1048576) (q:List Bool) (T V:Nat) (hT:T=min q.length 20) (hV:V=num (q.take T)*2^(20-T)) :
  ∃i,i<l.length/\1<=ln l i/\ln l i<=20/\V<1048576/\V<endc l (ln l i)/\(∀m,1<=m->m<ln l i->endc l m<=V)/\V / 2^(20-ln l i)=fcod l (ln l i)+rank l (ln l i) i /\
   (ln l i<=T->Begins l (ln l i,i) q)/\(T<ln l i->∀j,j<l.length->¬Begins l (ln l j,j) q):=by
 have hlnb:∀j,j<l.length->1<=ln l j/\ln l j<=20:=fun j hj=>by
  have h:=hw (l.getD j 0) (by rw [List.getD_eq_getElem?_getD,List.getElem?_eq_getElem hj];exact List.getElem_mem hj);unfold ln;omega
 have hTq:T<=q.length:=by omega
 have hT20:T<=20:=by omega
 have hlen:(q.take T++List.replicate (20-T) false).length=20:=by simp;omega
 have hrow:V=num (q.take T++List.replicate (20-T) false):=by rw [ZbR];exact hV
 have hVl:V<1048576:=by have:=ZaB (q.take T++List.replicate (20-T) false);rw [hlen,<-hrow] at this;exact this
 obtain⟨i,hi,h1,h2⟩:=cover (l:=l) (v:=V) (by rw [hs];exact hVl);have hb:=hlnb i hi;have h1':frm l (ln l i,i)<=V:=h1;have h2':V<frm l (ln l i,i)+sz (ln l i):=h2;have hfr:frm l (ln l i,i)=fst_ l (ln l i)+rank l (ln l i) i*sz (ln l i):=ZkZ hi (ln l i) rfl;have hrl:=Zg0 l hi;have hfe:fcod l (ln l i)*sz (ln l i)=fst_ l (ln l i):=Nat.div_mul_cancel (Zjr l (ln l i))
 have hcode:V / 2^(20-ln l i)=fcod l (ln l i)+rank l (ln l i) i:=by
  rw [hfr,<-hfe,<-Nat.add_mul] at h1' h2';have hp:=Zgl (ln l i);show V / sz (ln l i)=_;refine Nat.div_eq_of_lt_le h1' ?_;rw [Nat.succ_mul];exact h2'
 have hclash:∀j,j<l.length->Begins l (ln l j,j) q->j=i:=by
  intro j hj hB;have hbj:=hlnb j hj
  obtain⟨k1,k2⟩:=ZdV (l:=l) (x:=(ln l j,j)) (q:=q.take T) (r:=List.replicate (20-T) false) ⟨by have:=hB.1;simp only [List.length_take] at this ⊢;omega,by
   have:=hB.1;simp only at this;rw [List.take_take,Nat.min_eq_left (by show ln l j<=T;omega)];exact hB.2⟩ hlen hbj.2
  rw [<-hrow] at k1 k2;by_cases e:j=i
  ·exact e
  ·exfalso
   rcases Zl6 (ln l j,j) (ln l i,i) e with h5|h5
   ·have:=apart (Zcx hj) (Zcx hi) h5;omega
   ·have h6:=apart (Zcx hi) (Zcx hj) h5;have h7:siz (ln l i,i)=sz (ln l i):=rfl;omega
 refine⟨i,hi,hb.1,hb.2,hVl,?_,?_,hcode,?_,?_⟩
 ·unfold endc;have hp:=Zgl (ln l i);rw [hfr,<-hfe,<-Nat.add_mul] at h2';have h3:(fcod l (ln l i)+rank l (ln l i) i+1)*sz (ln l i)<=(fcod l (ln l i)+rank l (ln l i) l.length)*sz (ln l i):=Nat.mul_le_mul_right _ (by omega);rw [Nat.add_mul,Nat.one_mul] at h3;omega
 ·intro m hm1 hm2;rw [Zr5 l m (by omega)];have:=Zk4 l (ln l i-(m+1)) (m+1);rw [show m+1+(ln l i-(m+1))=ln l i by omega] at this;omega
 ·intro hle;refine⟨by show ln l i<=q.length;omega,?_⟩;show num (q.take (ln l i))=cod l (ln l i,i);rw [ZeI hi (ln l i) rfl,<-hcode,hrow]
  have e:(q.take T++List.replicate (20-T) false).take (ln l i)=q.take (ln l i):=by
   rw [List.take_append_of_le_length (by rw [List.length_take];omega),List.take_take,Nat.min_eq_left hle]
  rw [<-e,ZkQ _ _ (by omega),hlen]
 ·intro hlt j hj hB;have:=hclash j hj hB;subst this;have:=hB.1;simp only at this;omega
end CanM
end
section
open Go.RowKit BitM
theorem Zcy (n:Int) (w:World) (h:0<=n) (h2:n<=32):Calls Tryz.prog 98 #[.int .i64 n] w fun e w'=>e=.returned (.bool true)/\w=w':=by
 go_enter Tryz.func98,Tryz.ntmps98;go_wp2;go_ret;exact⟨rfl,rfl⟩
theorem Zr6 (n:Int) (w:World) (h:n<0\/32<n):Calls Tryz.prog 98 #[.int .i64 n] w fun e w'=>e=.returned (.bool false)/\w=w':=by
 rcases h with h|h
 ·go_enter Tryz.func98,Tryz.ntmps98;go_wp2;go_ret;exact⟨rfl,rfl⟩
 ·have h0:0<=n:=by omega
  have hd:decide (n<=32)=false:=by simp;omega
  go_enter Tryz.func98,Tryz.ntmps98;go_wp2;go_ret;exact⟨rfl,rfl⟩
theorem Zcz (N:Int) (n:Nat) (hN:N=(n:Int)) (w:World) (hn:n<=70368744177664):Calls Tryz.prog 48 #[.int .i64 N] w fun e w'=>e=.returned (.int .i64 (((8-n % 8) % 8:Nat):Int))/\w=w':=by
 subst hN;have e:((8:Int)-(n:Int) % 8) % 8=(((8-n % 8) % 8:Nat):Int):=by omega
 have H:=zh e;clear e;go_enter Tryz.func48,Tryz.ntmps48;go_wp2;go_ret;rw [<-H.out];exact⟨rfl,rfl⟩
def IsWriter (w:World) (b:Nat) (v:Value) (q:List Bool) (tk:Nat):Prop:=
 w.heap[b]?=some (.cells #[v,.int .u64 (num (tail q):Int),.int .i64 (q.length:Int)] 74 (0,0))/\tk<=q.length / 8/\w.ownsRow (b+1) 5 1 v (q.length / 8-tk) (((byts q).drop tk).map u8v)
theorem IsWriter.cells {w:World} {b:Nat} {v:Value} {q:List Bool} {tk:Nat} (h:IsWriter w b v q tk) :
  w.cell? ⟨b,0,none⟩=some v/\w.cell? ⟨b,1,none⟩=some (.int .u64 (num (tail q):Int))/\w.cell? ⟨b,2,none⟩=some (.int .i64 (q.length:Int)) /\
  w.frozen? ⟨b,0,none⟩=false/\w.frozen? ⟨b,1,none⟩=false/\w.frozen? ⟨b,2,none⟩=false:=by
 obtain⟨h,_,_⟩:=h;refine⟨?_,?_,?_,frozen_of_row _ _ _ _ _ h,frozen_of_row _ _ _ _ _ h,frozen_of_row _ _ _ _ _ h⟩<;>(rw [cell_of_row _ _ _ _ _ _ h];rfl)
theorem IsWriter.lt {w:World} {b:Nat} {v:Value} {q:List Bool} {tk:Nat} (h:IsWriter w b v q tk):∀k,foot b v k->k<w.heap.size/\b<=k:=by
 intro k hk;rcases hk with rfl|hk
 ·exact⟨(Array.getElem?_eq_some_iff.1 h.1).1,Nat.le_refl _⟩
 ·have:=h.2.2.lt k hk;exact⟨this.2,by omega⟩
theorem IsWriter.other {w w':World} {b:Nat} {v:Value} {q:List Bool} {tk:Nat} (h:IsWriter w b v q tk) {S:Nat->Prop} (ht:Touch S w w') (hS:∀k,foot b v k->¬S k):IsWriter w' b v q tk:=
 ⟨(ht.block b (h.lt b (Or.inl rfl)).1 (hS b (Or.inl rfl))).trans h.1,h.2.1,Zah h.2.2 (fun k hk=>ht.block k (h.lt k (Or.inr hk)).1 (hS k (Or.inr hk)))⟩
theorem Zcd (w:World):Calls Tryz.prog 12 #[] w fun e w'=>e=.returned (.pointer (some ⟨w.heap.size,0,none⟩))/\IsWriter w' w.heap.size (.slice none 0 0) [] 0/\Below w.heap.size w w':=by
 go_enter Tryz.func12,Tryz.ntmps12;go_wp2;go_ret;exact⟨rfl,⟨heap_alloc_new _ _,by decide,World.ownsRow_nil _ _ _ _⟩,(Below.refl _ _).alloc (Nat.le_refl _) _⟩
theorem ZeK (b:Nat) (v:Value) (q:List Bool) (tk:Nat) (w:World) (h:IsWriter w b v q tk):Calls Tryz.prog 14 #[.pointer (some ⟨b,0,none⟩)] w fun e w'=>e=.returned (.int .i64 (q.length:Int))/\w=w':=by
 obtain⟨c0,c1,c2,f0,f1,f2⟩:=h.cells;clear h;go_enter Tryz.func14,Tryz.ntmps14;go_wp2;go_ret;exact⟨rfl,rfl⟩
theorem Ze9 (b:Nat) (v:Value) (q:List Bool) (tk:Nat) (w:World) (h:IsWriter w b v q tk):Calls Tryz.prog 16 #[.pointer (some ⟨b,0,none⟩)] w fun e w'=>
  e=.returned (.string ⟨((byts q).drop tk).toArray⟩)/\IsWriter w' b (.slice none 0 0) q (q.length / 8)/\Touch (foot b v) w w':=by
 obtain⟨c0,c1,c2,f0,f1,f2⟩:=h.cells;have hk:=ZeJ h.2.2;have H:=zh h;clear h;go_enter Tryz.func16,Tryz.ntmps16;go_wp2;go_ret;refine⟨rfl,⟨heap_setCell_same _ _ 0 _ _ _ H.out.1,Nat.le_refl _,?_⟩,(Touch.refl _ _).setCell (Or.inl (Or.inl rfl)) _⟩;rw [List.drop_of_length_le (by rw [ZaV];exact Nat.le_refl _),Nat.sub_self];exact World.ownsRow_nil _ _ _ _
theorem Znv (q:List Bool) (X n:Nat) (hX:X<2^n) (hn:n<=32):bits BinOp.or IntKind.u64 (IntKind.u64.wrap ((num (tail q):Int)*2^n)) (X:Int)=(num (tail q++field X n):Int):=by
 have hr:num (tail q)<2^8:=Nat.lt_of_lt_of_le (ZaB _) (Nat.pow_le_pow_right (by omega) (by rw [Zbw];omega));have h32:2^n<=2^32:=Nat.pow_le_pow_right (by omega) hn
 have hm:num (tail q)*2^n<2^40:=by
  have:num (tail q)*2^n<=255*2^32:=Nat.mul_le_mul (by omega) h32;omega
 have e1:(num (tail q):Int)*2^n=((num (tail q)*2^n:Nat):Int):=by simp
 have e2:IntKind.u64.wrap ((num (tail q)*2^n:Nat):Int)=((num (tail q)*2^n:Nat):Int):=by
  simp only [IntKind.wrap,IntKind.bits,IntKind.signed];simp;omega
 rw [e1,e2,u64_or_nat _ _ (by omega) (by omega),nat_join n _ _ (by simp) hX,ZaE,Zac,Zau,Nat.mod_eq_of_lt hX]
theorem ZpP (t:List Bool) (j m:Nat) (h:8*j+8<=t.length) (hm:m=t.length-8*j-8):∃(y:UInt8),(byts t)[j]?=some y/\(num t:Int) / 2^m % 256=(y.toNat:Int):=by
 have hj:j<(byts t).length:=by rw [ZaV];omega
 refine⟨_,List.getElem?_eq_getElem hj,?_⟩;subst hm;simp only [byts,List.getElem_map,List.getElem_range,byte_at t j h];rw [UInt8.toNat_ofNat'];simp
structure PutLoop (w wr:World) (b:Nat) (v v1:Value) (q t:List Bool) (tk j:Nat):Prop where
 block:wr.heap[b]?=some (.cells #[v1,.int .u64 (num t:Int),.int .i64 (q.length:Int)] 74 (0,0))
 row:wr.ownsRow (b+1) 5 1 v1 (q.length / 8-tk+j) (((byts q).drop tk++(byts t).take j).map u8v)
 touch:Touch (foot b v) w wr
 fresh:∀k,v1.ownBlock=some k->v.ownBlock=some k\/w.heap.size<=k
theorem PutLoop.cells {w wr:World} {b:Nat} {v v1:Value} {q t:List Bool} {tk j:Nat} (h:PutLoop w wr b v v1 q t tk j) :
  wr.cell? ⟨b,0,none⟩=some v1/\wr.cell? ⟨b,1,none⟩=some (.int .u64 (num t:Int))/\wr.cell? ⟨b,2,none⟩=some (.int .i64 (q.length:Int))/\wr.frozen? ⟨b,0,none⟩=false/\wr.frozen? ⟨b,1,none⟩=false/\wr.frozen? ⟨b,2,none⟩=false:=by
 have h:=h.block;refine⟨?_,?_,?_,frozen_of_row _ _ _ _ _ h,frozen_of_row _ _ _ _ _ h,frozen_of_row _ _ _ _ _ h⟩<;>(rw [cell_of_row _ _ _ _ _ _ h];rfl)
theorem PutLoop.start {w:World} {b:Nat} {v:Value} {q t:List Bool} {tk:Nat} (h:IsWriter w b v q tk):PutLoop w (w.setCell ⟨b,1,none⟩ (.int .u64 (num t:Int))) b v v q t tk 0 where
 block:=heap_setCell_same _ _ 1 _ _ _ h.1
 row:=by
  simp only [Nat.add_zero,List.take_zero,List.append_nil];exact Zah h.2.2 (fun k hk=>heap_setCell_other _ _ _ _ (by have:=(h.2.2.lt k hk).1;simp;omega))
 touch:=(Touch.refl _ _).setCell (Or.inl (Or.inl rfl)) _
 fresh:=fun k hk=>Or.inl hk
theorem PutLoop.step {w wr w1:World} {b:Nat} {v v1 v2:Value} {q t:List Bool} {tk j:Nat} {y:UInt8} (h:PutLoop w wr b v v1 q t tk j) (hb:b<w.heap.size) (hy:(byts t)[j]?=some y) (O:Obj)
  (ho:w1.ownsRow (b+1) 5 1 v2 (q.length / 8-tk+j+1) (((byts q).drop tk++(byts t).take j).map u8v++[u8v y])) (hg:(wr.alloc O).drew.grownBy w1 v1.ownBlock)
  (hf:∀k,v2.ownBlock=some k->v1.ownBlock=some k\/(wr.alloc O).drew.heap.size<=k) :
  PutLoop w (w1.setCell ⟨b,0,none⟩ v2) b v v2 q t tk (j+1)/\w1.cell? ⟨b,0,none⟩=some v1/\w1.frozen? ⟨b,0,none⟩=false:=by
 have hsz:=h.touch.size
 have hbb:w1.heap[b]?=some (.cells #[v1,.int .u64 (num t:Int),.int .i64 (q.length:Int)] 74 (0,0)):=by
  rw [hg.block b (by simp;omega) (fun e=>by have:=(h.row.lt b e.symm).1;omega)];show(wr.alloc O).heap[b]?=_;rw [Below.heap_alloc _ _ _ (by omega)];exact h.block
 refine⟨⟨heap_setCell_same _ _ 0 _ _ _ hbb,?_,?_,?_⟩,by rw [cell_of_row _ _ _ _ _ _ hbb];rfl,frozen_of_row _ _ _ _ _ hbb⟩
 ·have e:((byts q).drop tk++(byts t).take (j+1)).map u8v=((byts q).drop tk++(byts t).take j).map u8v++[u8v y]:=by
   obtain⟨hj,hy'⟩:=List.getElem?_eq_some_iff.1 hy;rw [List.take_succ_eq_append_getElem hj,hy'];simp
  rw [e];exact Zah ho (fun k hk=>heap_setCell_other _ _ _ _ (by have:=(ho.lt k hk).1;simp;omega))
 ·exact((h.touch.alloc O).drew.grown hg (fun k hk=>by
   rcases h.fresh k hk with g|g
   ·exact Or.inl (Or.inr g)
   ·exact Or.inr g)).setCell (Or.inl (Or.inl rfl)) _
 ·intro k hk;rcases hf k hk with g|g
  ·exact h.fresh k g
  ·exact Or.inr (by simp at g;omega)
theorem PutLoop.done {w wr:World} {b:Nat} {v v1:Value} {q f t:List Bool} {tk:Nat} (h:PutLoop w wr b v v1 q t tk (t.length / 8)) (hW:IsWriter w b v q tk) (ht:t=tail q++f) (L:Int) (hL:L=((q++f).length:Int)) :
  IsWriter ((wr.setCell ⟨b,1,none⟩ (.int .u64 (num (tail (q++f)):Int))).setCell ⟨b,2,none⟩ (.int .i64 L)) b v1 (q++f) tk/\Touch (foot b v) w ((wr.setCell ⟨b,1,none⟩ (.int .u64 (num (tail (q++f)):Int))).setCell ⟨b,2,none⟩ (.int .i64 L)):=by
 subst hL;have hb2:=heap_setCell_same wr b 1 _ _ (.int .u64 (num (tail (q++f)):Int)) h.block
 have hlen:(q++f).length / 8=q.length / 8+t.length / 8:=by
  rw [ht,List.length_append,List.length_append,Zbw];omega
 have htk:=hW.2.1;refine⟨⟨heap_setCell_same _ _ 2 _ _ _ hb2,by omega,?_⟩,(h.touch.setCell (Or.inl (Or.inl rfl)) _).setCell (Or.inl (Or.inl rfl)) _⟩;have hr:=h.row;rw [List.take_of_length_le (by rw [ZaV];exact Nat.le_refl _)] at hr
 have e1:(byts (q++f)).drop tk=(byts q).drop tk++byts t:=by
  rw [Zc2,<-ht,List.drop_append_of_le_length (by rw [ZaV];exact htk)]
 rw [e1,show(q++f).length / 8-tk=q.length / 8-tk+t.length / 8 by omega]
 exact Zah hr (fun k hk=>by
  have:=(hr.lt k hk).1;rw [heap_setCell_other _ _ _ _ (by simp;omega),heap_setCell_other _ _ _ _ (by simp;omega)])
theorem ZpQ (t:List Bool) (e:Nat) (he:e=t.length-8*(t.length / 8)) (h64:t.length<=40) :
  bits BinOp.and IntKind.u64 (num t:Int) (IntKind.u64.wrap (IntKind.u64.wrap (2^e)-1))=(num (t.drop (8*(t.length / 8))):Int):=by
 have h1:=ZaB t;have h2:2^t.length<=2^40:=Nat.pow_le_pow_right (by omega) h64;have he8:e<8:=by omega
 have h3:2^e<=2^7:=Nat.pow_le_pow_right (by omega) (by omega);have h4:0<2^e:=Nat.two_pow_pos e;have e1:(2:Int)^e=((2^e:Nat):Int):=by simp
 have e2:IntKind.u64.wrap (IntKind.u64.wrap ((2^e:Nat):Int)-1)=((2^e-1:Nat):Int):=by
  generalize 2^e=z at *;simp only [IntKind.wrap,IntKind.bits,IntKind.signed];simp;omega
 rw [e1,e2,u64_and_nat _ _ (by omega) (by omega),Nat.and_two_pow_sub_one_eq_mod,ZkR _ _ (by omega),he]
theorem ZdX (b:Nat) (v:Value) (q:List Bool) (tk X n:Nat) (w:World) (h:IsWriter w b v q tk) (hn:n<=32) (hX:X<2^n) (hq:q.length<=1099511627776) :
  Calls Tryz.prog 47 #[.pointer (some ⟨b,0,none⟩),.int .u32 (X:Int),.int .i64 (n:Int)] w fun e w'=>
   e=.returned (.int .i64 0)/\∃v1,IsWriter w' b v1 (q++field X n) tk/\Touch (foot b v) w w'/\(∀k,v1.ownBlock=some k->v.ownBlock=some k\/w.heap.size<=k):=by
 obtain⟨c0,c1,c2,f0,f1,f2⟩:=h.cells;have H:=zh h;have hX32:X<4294967296:=Nat.lt_of_lt_of_le hX (Nat.pow_le_pow_right (by omega) hn:2^n<=2^32)
 have hz:((X:Int) / 2^n != 0)=false:=by
  have e:(X:Int) / 2^n=((X / 2^n:Nat):Int):=by simp
  rw [e,Nat.div_eq_of_lt hX];rfl
 have hor:=Znv q X n hX hn;have htl:(tail q++field X n).length=q.length % 8+n:=by rw [List.length_append,Zbw,Zac]
 have HS:=zh (PutLoop.start (t:=tail q++field X n) h);have HA:=zh (Zc2 q (field X n));have HT:=zh (Zjh q (field X n));generalize ht:tail q++field X n=t at *;have HTT:=zh ht;have HTL:=zh htl;obtain⟨i0,hi,hz0,hz1,hz2⟩:=info_parts Zr1;have HI:=zh hi;have HZ0:=zh hz0;have HZ1:=zh hz1;have HZ2:=zh hz2;clear h ht htl hi hz0 hz1 hz2;go_enter Tryz.func47,Tryz.ntmps47;go_wp2_with fail;refine(Zcy _ _ (by omega) (by omega)).mono ?_;rintro e w' ⟨rfl,rfl⟩;go_wp2_with fail
 go_loopw [7,41] (fun l i wr=>∃(j:Nat) (v1:Value),j<=(q.length % 8+n) / 8/\i=.int .i64 j/\l=.int .i64 ((q.length % 8+n-8*j:Nat):Int)/\PutLoop w wr b v v1 q t tk j) (fun _ i _=>(q.length % 8+n) / 8-(intOf i).toNat)
 case atStart=>exact⟨0,v,by omega,rfl,iv (by omega),HS.out⟩
 case round=>
  clear c0 c1 c2 f0 f1 f2;obtain⟨j,v1,hj,rfl,rfl,hP⟩:=hrel;obtain⟨c0,c1,c2,f0,f1,f2⟩:=hP.cells;have HP:=zh hP;clear hP;by_cases hlt:j<(q.length % 8+n) / 8
  ·have hjl:8*j+8<=t.length:=by have:=HTL.out;omega
   obtain⟨y,hy,hsh⟩:=ZpP t j (q.length % 8+n-8*j-8) hjl (by have:=HTL.out;omega);have hsh2:IntKind.u8.wrap ((num t:Int) / 2^(q.length % 8+n-8*j-8))=(y.toNat:Int):=by rw [IntKind.wrap_u8'];exact hsh
   have he:((q.length % 8+n-8*j:Nat):Int)-8=((q.length % 8+n-8*j-8:Nat):Int):=by omega
   have hrow:=HP.out.row;have HR:=zh hrow;have hbs:=(H.out.lt b (Or.inl rfl)).1;have hbr:=HP.out.touch.size;have HY:=zh hy;clear hrow hjl hy;go_wp2_with fail;have hbase:b+1<=(wr.alloc (.cells #[.int .u8 (y.toNat:Int)] 5)).drew.heap.size:=by simp;omega
   have HB:=zh hbase;have hca:(wr.alloc (.cells #[.int .u8 (y.toNat:Int)] 5)).cell? ⟨b,0,none⟩=some v1:=(((Below.refl wr.heap.size wr).alloc (Nat.le_refl _) _).cell (p:=⟨b,0,none⟩) (by simp;omega)).trans c0;have hcb:(wr.alloc (.cells #[.int .u8 (y.toNat:Int)] 5)).cell? ⟨b,1,none⟩=some (.int .u64 (num t:Int)):=(((Below.refl wr.heap.size wr).alloc (Nat.le_refl _) _).cell (p:=⟨b,1,none⟩) (by simp;omega)).trans c1;have hsm:q.length / 8-tk+j+1<=maxLen:=by unfold maxLen;omega
   have hsm2:(q.length / 8-tk+j+1)*1<=140737488355328:=by omega
   have HS1:=zh hsm;have HS2:=zh hsm2;clear hbase hsm hsm2
   go_region_law ((refine ZaS rfl _ _ 71 rfl (b+1) 5 i0 (.int .u8 0) 1 1 Tryz.underlying71 HI.out HZ0.out HZ1.out HZ2.out rfl (by decide) _ _ _ rfl ((HR.out.alloc _).drew) ⟨wr.heap.size,0,none⟩ 1 1 [.int .u8 (y.toNat:Int)] rfl rfl (cell_one_new _ _ _) (by intro u hu;simp at hu;subst hu;rfl) HS1.out HS2.out HB.out ?_;intro v2 w1 ho hg hf;obtain⟨a2,cap2,rfl⟩:=Zax ho;obtain⟨hst,hcl,hfr⟩:=PutLoop.step HP.out hbs HY.out _ ho hg hf;have HST:=zh hst;clear hst ho hg hf))
   all_goals
    go_wp2_with fail;go_roundw
    case rel=>exact⟨j+1,_,by omega,by go_num,iv (by omega),HST.out⟩
    case measure=>simp [intOf];omega
  ·obtain rfl:j=(q.length % 8+n) / 8:=by omega
   have hand:=ZpQ t (q.length % 8+n-8*((q.length % 8+n) / 8)) (by have:=HTL.out;omega) (by have:=HTL.out;omega);rw [<-HT.out] at hand;go_wp2_with fail
   go_region
   go_wp2_with fail;go_ret;have hL:(q.length:Int)+(n:Int)=((q++field X n).length:Int):=by rw [List.length_append,Zac];omega
   have hP:=HP.out;rw [<-HTL.out] at hP;obtain⟨d1,d2⟩:=PutLoop.done hP H.out HTT.out.symm _ hL;exact⟨rfl,v1,d1,d2.drew,HP.out.fresh⟩
end
end Go.Proofs.YtnachbjhhpnadaaGreatDoor
