import Derived.Test.YtnachbjhhpnadaaGreatDoorBcA
import Derived.Test.YtnachbjhhpnadaaGreatDoorBcB
import Derived.Test.YtnachbjhhpnadaaGreatDoorBcC
import Derived.Test.YtnachbjhhpnadaaGreatDoorBcD
import Derived.Test.YtnachbjhhpnadaaGreatDoorBcG
import Derived.Test.YtnachbjhhpnadaaGreatDoorBcI
import Derived.Test.YtnachbjhhpnadaaGreatDoorBcJ
import Derived.Outline
import Derived.BigRegion
import Derived.BigQuiet
import Derived.Shelf.Abstract
import Derived.Laws.EntriesVeiled
set_option linter.unusedVariables false
set_option linter.unusedSimpArgs false
set_option maxHeartbeats 8000000
set_option maxRecDepth 100000
namespace Go.Proofs.YtnachbjhhpnadaaGreatDoor
section
open Go.RowKit PkM BitM
theorem Zok (q:List Bool) (t n:Nat) (ps o:List Nat):((pstep q t n ps o false).err==25)=(pstep q t n ps o false).bad:=by
 unfold pstep;rw [if_neg (by simp)];split
 ·split
  ·rfl
  ·split
   ·rfl
   ·split<;>rfl
 ·split
  ·rfl
  ·split<;>rfl
theorem ZgA (b rb:Nat) (pv:Value) (t n:Nat) (ps o:List Nat) (bad:Bool) (v:Value) (l:List UInt8) (dr sp p:Nat) (w:World) (hD:IsPk w b pv t n ps o bad) (hR:IsReader w rb v l dr sp p) (hs:dr+l.length<=1099511627776)
  (hne:∀k,foot rb v k->¬foot b pv k) (hl:n=0\/(ps.length<n/\n<=32767/\t<=6)) :
  Calls Tryz.prog 264 #[.pointer (some ⟨b,0,none⟩),.pointer (some ⟨rb,0,none⟩)] w fun e w'=>StepK w w' b rb pv v l dr sp p (pstep ((bitsOf l).drop (p-8*dr)) t n ps o bad) (pstep ((bitsOf l).drop (p-8*dr)) t n ps o bad).bad e:=by
 have HD:=zh hD;have HR:=zh hR;have HNE:=zh hne;have HDN:=zh (Zfn b pv t n ps o bad false w hD ⟨fun e=>(by cases e),fun e=>by omega⟩);clear hD hR hne;go_enter Tryz.func264,Tryz.ntmps264;go_wp2_with fail;refine HDN.out.mono ?_;rintro e w2 ⟨rfl,m,hw2⟩;have HT2:Hid (Touch (fun k=>foot b pv k\/k=rb) w w2):=zh (by rw [hw2];exact pk_d m);have HD2:Hid (IsPk w2 b pv t n ps o bad):=zh (by rw [hw2];exact HD.out.drewN m);have HR2:Hid (IsReader w2 rb v l dr sp p):=zh (by rw [hw2];exact HR.out.drewN m);clear hw2 HDN HD HR;obtain⟨c0,c1,c2,c3⟩:=HD2.out.cells;cases bad with
 | true=>
  go_wp2_with fail;go_ret;rw [Znk];exact⟨pv,rfl,HD2.out,HR2.out,HT2.out,fun k hk=>Or.inl hk⟩
 | false=>
  have HER:=zh (Zok ((bitsOf l).drop (p-8*dr)) t n ps o);by_cases h0:n=0
  ·subst h0;have HF:=zh (Zms b rb pv t ps o v l dr sp p w2 HD2.out HR2.out hs HNE.out);generalize ho:pstep ((bitsOf l).drop (p-8*dr)) t 0 ps o false=O at *;have HO:=zh ho;obtain⟨oe,ou,ot,on,ops,oo,ob⟩:=O;clear ho hl;go_wp2_with fail;refine HF.out.mono ?_;rintro e w5 ⟨pv5,rfl,k1,k2,k3,k4⟩;have K1:=zh k1;have K2:=zh k2;have K3:=zh k3;have K4:=zh k4;have f9:=k1.frozen 9 (by omega);obtain⟨d0,d1,d2,d3⟩:=k1.cells;have hee:(oe==25)=ob:=HER.out;clear k1 k2 k3 k4 c0 c1 c2 c3;go_wp2_with fail;go_ret;rw [HO.out];have hTS:Touch (·=b) w5 (w5.setCell ⟨b,9,none⟩ (.bool ob)):=Zaa (Touch.refl _ _);refine⟨pv5,rfl,K1.out.setBad ob,K2.out.other hTS (fun k hk e=>HNE.out k hk (Or.inl e)),Ziv HT2.out (Ziv K3.out (pk_l hTS)),fun k hk=>?_⟩;rcases K4.out k hk with h|h
   ·exact Or.inl h
   ·exact Or.inr (Nat.le_trans HT2.out.size h)
  ·have h0b:((n:Int)==0)=false:=by rw [beq_eq_false_iff_ne];omega
   have HF:=zh (Zoj b rb pv t n ps o v l dr sp p w2 HD2.out HR2.out hs HNE.out (by omega) (by omega) (by omega) (by omega));generalize ho:pstep ((bitsOf l).drop (p-8*dr)) t n ps o false=O at *;have HO:=zh ho;obtain⟨oe,ou,ot,on,ops,oo,ob⟩:=O;clear ho hl;go_wp2_with fail;refine HF.out.mono ?_;rintro e w5 ⟨pv5,rfl,k1,k2,k3,k4⟩;have K1:=zh k1;have K2:=zh k2;have K3:=zh k3;have K4:=zh k4;have f9:=k1.frozen 9 (by omega);obtain⟨d0,d1,d2,d3⟩:=k1.cells;have hee:(oe==25)=ob:=HER.out;clear k1 k2 k3 k4 c0 c1 c2 c3;go_wp2_with fail;go_ret;rw [HO.out];have hTS:Touch (·=b) w5 (w5.setCell ⟨b,9,none⟩ (.bool ob)):=Zaa (Touch.refl _ _);refine⟨pv5,rfl,K1.out.setBad ob,K2.out.other hTS (fun k hk e=>HNE.out k hk (Or.inl e)),Ziv HT2.out (Ziv K3.out (pk_l hTS)),fun k hk=>?_⟩;rcases K4.out k hk with h|h
   ·exact Or.inl h
   ·exact Or.inr (Nat.le_trans HT2.out.size h)
end
section
open Go.RowKit DelM BitM
theorem Zhm (n:Int) (r:Bool) (w:World) (hr:r=true↔1<=n/\n<=20):Calls Tryz.prog 222 #[.int .i64 n] w fun e w'=>e=.returned (.bool r)/\w'=w:=by
 by_cases h1:1<=n
 ·by_cases h2:n<=20
  ·obtain rfl:r=true:=hr.2 ⟨h1,h2⟩;clear hr;go_enter Tryz.func222,Tryz.ntmps222;go_wp2_with fail;go_ret;exact⟨rfl,rfl⟩
  ·obtain rfl:r=false:=by rw [Bool.eq_false_iff];intro h;exact h2 (hr.1 h).2
   clear hr;go_enter Tryz.func222,Tryz.ntmps222;go_wp2_with fail;go_ret;exact⟨rfl,rfl⟩
 ·obtain rfl:r=false:=by rw [Bool.eq_false_iff];intro h;exact h1 (hr.1 h).1
  clear hr;go_enter Tryz.func222,Tryz.ntmps222;go_wp2_with fail;go_ret;exact⟨rfl,rfl⟩
theorem ZlB (n:Int) (r:Bool) (w:World) (hr:r=true↔3<=n/\n<=258):Calls Tryz.prog 223 #[.int .i64 n] w fun e w'=>e=.returned (.bool r)/\w'=w:=by
 by_cases h1:3<=n
 ·by_cases h2:n<=258
  ·obtain rfl:r=true:=hr.2 ⟨h1,h2⟩;clear hr;go_enter Tryz.func223,Tryz.ntmps223;go_wp2_with fail;go_ret;exact⟨rfl,rfl⟩
  ·obtain rfl:r=false:=by rw [Bool.eq_false_iff];intro h;exact h2 (hr.1 h).2
   clear hr;go_enter Tryz.func223,Tryz.ntmps223;go_wp2_with fail;go_ret;exact⟨rfl,rfl⟩
 ·obtain rfl:r=false:=by rw [Bool.eq_false_iff];intro h;exact h1 (hr.1 h).1
  clear hr;go_enter Tryz.func223,Tryz.ntmps223;go_wp2_with fail;go_ret;exact⟨rfl,rfl⟩
theorem Zqy (v:Value) (zs:List Int) (r:Bool) (w:World) (hv:IsInts w v zs) (hr:r=true↔May zs) (hz:zs.length<=9223372036854775807) :
  Calls Tryz.prog 168 #[v] w fun e w'=>e=.returned (.bool r)/\w'=w:=by
 have HV:=zh hv;have HRR:=zh hr;obtain⟨ad,cap,rfl,_⟩:=hv;clear hr;go_enter Tryz.func168,Tryz.ntmps168;go_wp2_with fail
 go_loopw [7] (fun i wr=>∃k:Nat,k<=zs.length/\i=.int .i64 k/\wr=w/\∀j,j<k->1<=zs.getD j 0/\zs.getD j 0<=20) (fun i _=>zs.length-(intOf i).toNat)
 case atStart=>exact⟨0,by omega,rfl,rfl,fun j hj=>by omega⟩
 case round=>
  obtain⟨k,hk,rfl,rfl,hA⟩:=hrel;have HA:=zh hA;clear hA;by_cases hlk:k<zs.length
  ·have hki:(k:Int)<(zs.length:Int):=by omega
   obtain⟨b1,o1,k1,he1,c1⟩:=HV.out.cell hlk;simp only [Value.slice.injEq] at he1;obtain⟨rfl,_,rfl⟩:=he1;obtain⟨x,hx⟩:∃x,zs.getD k 0=x:=⟨_,rfl⟩
   rw [hx] at c1;have HX:=zh hx;clear hx;by_cases h1:1<=x/\x<=20
   ·have HL:=zh (fun W=>Zhm x true W ⟨fun _=>h1,fun _=>rfl⟩);go_wp2_with fail;refine(HL.out _).mono ?_;rintro e w' ⟨rfl,rfl⟩;go_wp2_with fail;go_roundw
    case rel=>exact⟨k+1,by omega,by go_num,(by first|rfl|trivial),fun j hj=>by
      by_cases e:j=k
      ·subst e;rw [HX.out];omega
      ·exact HA.out j (by omega)⟩
    case measure=>simp [intOf];omega
   ·have HL:=zh (fun W=>Zhm x false W ⟨fun e=>(by cases e),fun e=>absurd e h1⟩)
    have hrf:r=false:=by
     rw [Bool.eq_false_iff,Ne,HRR.out];intro h;have:=h.2.2 _ (getD_mem hlk);rw [HX.out] at this;exact h1 this
    subst hrf;clear h1;go_wp2_with fail;refine(HL.out _).mono ?_;rintro e w' ⟨rfl,rfl⟩;go_wp2_with fail;go_ret;exact⟨rfl,rfl⟩
  ·have hki:¬(k:Int)<(zs.length:Int):=by omega
   have hw:∀z∈zs,1<=z/\z<=20:=Zds (fun j hj=>HA.out j (by omega));have HL:=zh (fun W=>ZlB (zs.length:Int) r W ⟨fun e=>by have:=HRR.out.1 e;exact⟨by have:=this.1;omega,by have:=this.2.1;omega⟩,fun e=>HRR.out.2 ⟨by omega,by omega,hw⟩⟩);clear hw;go_wp2_with fail;refine(HL.out _).mono ?_;rintro e w' ⟨rfl,rfl⟩;go_wp2_with fail;go_ret;exact⟨rfl,rfl⟩
theorem Zsu (b:Bool) (k:Nat):two b k++field (if b then 3 else 2) 2=two b (k+1):=by
 cases b<;>rfl
theorem ZrN (q:List Bool) (b:Bool) (k:Nat):q++two b k++field (if b then 3 else 2) 2=q++two b (k+1):=by rw [List.append_assoc,Zsu]
theorem Zmt (g:Nat) (v l:Value) (zs:List Int) (q:List Bool) (tk:Nat) (w:World) (hw:IsWriter w g v q tk) (hst:∀w',Touch (foot g v) w w'->IsInts w' l zs) (hm:May zs) (hq:q.length<=1099511600000) :
  Calls Tryz.prog 110 #[.pointer (some ⟨g,0,none⟩),l] w fun e w'=>e=.returned (.int .i64 0)/\Wrote w g v tk (q++allB zs) w':=by
 have hv:=hst w (Touch.refl _ _);have HV:=zh hv;have HST:=zh hst;have HM:=zh hm;have HMAY:=zh (Zqy l zs true w hv ⟨fun _=>hm,fun _=>rfl⟩ (by have:=hm.2.1;omega));have HS:=zh (Wrote.start hw);have h3:=hm.1;have h258:=hm.2.1;obtain⟨ad,cap,rfl,_⟩:=hv;have HL:Hid (∀k,k<=zs.length->(encK zs k).length<=11000):=zh (fun k hk=>by have:=(encK_le HM.out hk).1;omega);obtain⟨N,hN⟩:∃N,zs.length=N:=⟨_,rfl⟩
 have HN:=zh hN;rw [hN] at h3 h258 HMAY HV HST ⊢;clear hst hm hw hN;obtain⟨b1,o1,k1,he1,c1⟩:=HV.out.cell (k:=0) (by rw [HN.out];omega);rw [HN.out] at he1;simp only [Value.slice.injEq] at he1;obtain⟨rfl,_,rfl⟩:=he1;have hz0:=HM.out.at_ (k:=0) (by rw [HN.out];omega);obtain⟨x0,hx0⟩:∃x0,zs.getD 0 0=x0:=⟨_,rfl⟩
 rw [hx0] at c1 hz0;rw [Nat.add_zero] at c1;obtain⟨X0,rfl⟩:∃X0:Nat,x0=(X0:Int):=⟨x0.toNat,by omega⟩
 have hX20:X0<=20:=by omega
 have HALL:Hid (allB zs=field X0 5++encK zs N):=zh (by unfold allB;rw [hx0,HN.out];rfl);have HPRV:Hid (prv zs 0=(X0:Int)):=zh hx0;have HP1:=zh (fun W (hh:Wrote w g v tk q W)=>hh.put X0 5 (by omega) (show X0<32 by omega) (by omega));have hc32:IntKind.u32.wrap (X0:Int)=(X0:Int):=by simp [IntKind.wrap,IntKind.bits,IntKind.signed];omega
 clear hx0 hz0;have hN0:(0:Int)<(N:Int):=by omega
 go_enter Tryz.func110,Tryz.ntmps110;go_wp2_with fail;refine HMAY.out.mono ?_;rintro e w' ⟨rfl,rfl⟩;go_wp2_with fail;refine(HP1.out _ HS.out).mono ?_;rintro e w1 ⟨rfl,hW1⟩;have HW1:=zh hW1;clear hW1 HP1 c1;go_wp2_with fail
 go_loopw [5,22] (fun vl vk wr=>∃k:Nat,vk=.int .i64 (k:Int)/\k<=N/\vl=.int .i64 (prv zs k)/\Wrote w' g v tk (q++field X0 5++encK zs k) wr) (fun _ vk _=>N-(intOf vk).toNat)
 case atStart=>exact⟨0,rfl,by omega,by rw [HPRV.out],by rw [show encK zs 0=[] from rfl,List.append_nil];exact HW1.out⟩
 case round=>
  clear HW1 HS;obtain⟨k,rfl,hk,rfl,hW⟩:=hrel;have HW:=zh hW;clear hW;by_cases hlk:k<N
  ·have hki:(k:Int)<(N:Int):=by omega
   have hkz:k<zs.length:=by rw [HN.out];exact hlk
   have HVk:=zh (HST.out wr HW.out.touch);obtain⟨b1,o1,k1,he1,c1⟩:=HVk.out.cell hkz;rw [HN.out] at he1;simp only [Value.slice.injEq] at he1;obtain⟨he1,_,rfl⟩:=he1;simp only [Option.some.injEq,Addr.mk.injEq,and_true] at he1;obtain⟨rfl,rfl⟩:=he1;have hzk:=HM.out.at_ hkz;have hpk:=HM.out.prv (k:=k) (by omega);have HLk:=zh (HL.out k (by rw [HN.out];omega));have HEN:Hid (encK zs (k+1)=encK zs k++(mv (prv zs k) (zs.getD k 0)++[false])):=zh rfl;have HPS:Hid (prv zs (k+1)=zs.getD k 0):=zh rfl;obtain⟨x,hx⟩:∃x,zs.getD k 0=x:=⟨_,rfl⟩
   obtain⟨p,hp⟩:∃p,prv zs k=p:=⟨_,rfl⟩
   rw [hx] at c1 hzk HEN HPS;rw [hp] at hpk HEN ⊢;obtain⟨Q,hQ⟩:∃Q,q++field X0 5++encK zs k=Q:=⟨_,rfl⟩
   have HQ:=zh hQ
   have hQl:Q.length<=1099511620000:=by
    have:=HLk.out;rw [<-hQ,List.length_append,List.length_append,Zac];omega
   rw [hQ] at HW;clear hx hp hQ HVk;go_wp2_with fail
   go_loopw [5] (fun vl wr2=>∃j:Nat,j<=(x-p).toNat/\vl=.int .i64 (p+(j:Int))/\Wrote w' g v tk (Q++two false j) wr2) (fun vl _=>(x-intOf vl).toNat)
   case atStart=>exact⟨0,by omega,by simp,by rw [show two false 0=[] from rfl,List.append_nil];exact HW.out⟩
   case round=>
    clear HW c1;obtain⟨j,hj,rfl,hWj⟩:=hrel;have HWj:=zh hWj;clear hWj;have hl2:(Q++two false j).length<=1099511627776:=by rw [List.length_append,ZaI];omega
    have HP2:=zh (HWj.out.put 2 2 (by omega) (by decide) hl2);clear hl2;by_cases hlt:p+(j:Int)<x
    ·go_wp2_with fail;refine HP2.out.mono ?_;rintro e w3 ⟨rfl,hW3⟩;have HW3:Hid (Wrote w' g v tk (Q++two false (j+1)) w3):=zh (by rw [<-ZrN Q false j];exact hW3);clear hW3;go_wp2_with fail;go_roundw
     case rel=>exact⟨j+1,by omega,by go_num,HW3.out⟩
     case measure=>simp [intOf];omega
    ·have hge:¬p+(j:Int)<x:=hlt;obtain⟨Q2,hQ2⟩:∃Q2,Q++two false j=Q2:=⟨_,rfl⟩
     have HQ2:Hid (Q2=Q++two false (x-p).toNat):=zh (by rw [<-hQ2];congr 2;omega);have hQ2l:Q2.length<=1099511625000:=by rw [<-hQ2,List.length_append,ZaI];omega
     rw [hQ2] at HWj;clear hQ2 HP2;obtain⟨p2,hp2⟩:∃p2,p+(j:Int)=p2:=⟨_,rfl⟩
     rw [hp2] at hlt hge ⊢;have HPM:Hid (p2=max p x):=zh (by omega);have hp2b:1<=p2/\p2<=20:=by omega
     clear hp2;go_wp2_with fail;obtain⟨wz,rfl⟩:∃wz:World,wz=wr:=⟨_,rfl⟩
     go_loopw [5] (fun vl wr3=>∃i:Nat,i<=(p-x).toNat/\vl=.int .i64 (p2-(i:Int))/\Wrote w' g v tk (Q2++two true i) wr3) (fun vl _=>(intOf vl-x).toNat)
     case atStart=>exact⟨0,by omega,by simp,by rw [show two true 0=[] from rfl,List.append_nil];exact HWj.out⟩
     case round=>
      clear HWj;obtain⟨i,hi,rfl,hWi⟩:=hrel;have HWi:=zh hWi;clear hWi;have hl2:(Q2++two true i).length<=1099511627776:=by rw [List.length_append,ZaI];omega
      have HP2:=zh (HWi.out.put 3 2 (by omega) (by decide) hl2);have HP3:=zh (HWi.out.put 0 1 (by omega) (by decide) hl2);clear hl2;by_cases hgt:x<p2-(i:Int)
      ·go_wp2_with fail;refine HP2.out.mono ?_;rintro e w3 ⟨rfl,hW3⟩;have HW3:Hid (Wrote w' g v tk (Q2++two true (i+1)) w3):=zh (by rw [<-ZrN Q2 true i];exact hW3);clear hW3;go_wp2_with fail;go_roundw
       case rel=>exact⟨i+1,by have:=HPM.out;omega,by go_num,HW3.out⟩
       case measure=>simp [intOf];omega
      ·have hge2:¬x<p2-(i:Int):=hgt;have hlast:p2-(i:Int)=x:=by have:=HPM.out;omega
       have hi2:Hid (i=(p-x).toNat):=zh (by have:=HPM.out;omega);rw [hlast] at hgt hge2 ⊢;clear hlast;go_wp2_with fail;refine HP3.out.mono ?_;rintro e w3 ⟨rfl,hW3⟩
       have HW3:Hid (Wrote w' g v tk (q++field X0 5++encK zs (k+1)) w3):=zh (by
        rw [HEN.out,<-List.append_assoc,HQ.out];unfold mv;rw [hi2.out,HQ2.out] at hW3;rw [List.append_assoc (two false _),<-List.append_assoc,<-List.append_assoc];exact hW3)
       clear hW3;go_wp2_with fail;go_roundw
       case rel=>exact⟨k+1,by go_num,by omega,by rw [HPS.out],HW3.out⟩
       case measure=>simp [intOf];omega
  ·have hki:¬(k:Int)<(N:Int):=by omega
   obtain rfl:k=N:=by omega
   go_wp2_with fail;go_ret;exact⟨rfl,by rw [HALL.out,<-List.append_assoc];exact HW.out⟩
def Obj262 (w:World) (b:Nat) (F:Nat->Value):Prop:=w.heap[b]?=some (.cells (cellsF 262 F) 348 (0,0))
theorem Obj262.cell {w:World} {b:Nat} {F:Nat->Value} (h:Obj262 w b F) {i:Nat} (hi:i<262):w.cell? ⟨b,i,none⟩=some (F i)/\w.frozen? ⟨b,i,none⟩=false:=
 ⟨(cell_of_row _ _ _ _ _ _ h).trans (ZaY 262 F hi),frozen_of_row _ _ _ _ _ h⟩
theorem Obj262.set {w:World} {b:Nat} {F:Nat->Value} (h:Obj262 w b F) (i:Nat) (x:Value):Obj262 (w.setCell ⟨b,i,none⟩ x) b (upd F i x):=by
 have:=heap_setCell_same w b i _ _ x h;rw [ZbQ] at this;exact this
theorem Obj262.lt {w:World} {b:Nat} {F:Nat->Value} (h:Obj262 w b F):b<w.heap.size:=(Array.getElem?_eq_some_iff.1 h).1
theorem Obj262.other {w w':World} {b:Nat} {F:Nat->Value} (h:Obj262 w b F) {S:Nat->Prop} (ht:Touch S w w') (hS:¬S b):Obj262 w' b F:=
 (ht.block b h.lt hS).trans h
theorem Obj262.drewN {w:World} {b:Nat} {F:Nat->Value} (h:Obj262 w b F) (n:Nat):Obj262 (w.drewN n) b F:=h
structure DF (F:Nat->Value) (N:Nat) (ls:List Int) (now:Int) (bad:Bool):Prop where
 size:F 0=.int .i64 (N:Int)
 read:F 1=.int .i64 (ls.length:Int)
 lens:∀j,j<ls.length->F (2+j)=.int .i64 (ls.getD j 0)
 last:F 260=.int .i64 now
 wrong:F 261=.bool bad
def IsDel (w:World) (b:Nat) (N:Nat) (ls:List Int) (now:Int) (bad:Bool):Prop:=∃F,Obj262 w b F/\DF F N ls now bad/\ls.length<=N/\N<=258
theorem IsDel.lt {w:World} {b N:Nat} {ls:List Int} {now:Int} {bad:Bool} (h:IsDel w b N ls now bad):b<w.heap.size:=by
 obtain⟨F,h,_⟩:=h;exact h.lt
theorem IsDel.other {w w':World} {b N:Nat} {ls:List Int} {now:Int} {bad:Bool} (h:IsDel w b N ls now bad) {S:Nat->Prop} (ht:Touch S w w') (hS:¬S b):IsDel w' b N ls now bad:=by
 obtain⟨F,h1,h2⟩:=h;exact⟨F,h1.other ht hS,h2⟩
theorem IsDel.le {w:World} {b N:Nat} {ls:List Int} {now:Int} {bad:Bool} (h:IsDel w b N ls now bad):ls.length<=N/\N<=258:=by
 obtain⟨F,h1,h2,h3,h4⟩:=h;exact⟨h3,h4⟩
theorem IsDel.cells {w:World} {b N:Nat} {ls:List Int} {now:Int} {bad:Bool} (h:IsDel w b N ls now bad) :
  w.cell? ⟨b,0,none⟩=some (.int .i64 (N:Int))/\w.cell? ⟨b,1,none⟩=some (.int .i64 (ls.length:Int))/\w.cell? ⟨b,260,none⟩=some (.int .i64 now)/\w.cell? ⟨b,261,none⟩=some (.bool bad):=by
 obtain⟨F,h1,h2,_⟩:=h;refine⟨?_,?_,?_,?_⟩
 ·rw [(h1.cell (i:=0) (by omega)).1,h2.size]
 ·rw [(h1.cell (i:=1) (by omega)).1,h2.read]
 ·rw [(h1.cell (i:=260) (by omega)).1,h2.last]
 ·rw [(h1.cell (i:=261) (by omega)).1,h2.wrong]
theorem IsDel.ints {w:World} {b N:Nat} {ls:List Int} {now:Int} {bad:Bool} (h:IsDel w b N ls now bad):IsInts w (.slice (some ⟨b,2,none⟩) ls.length 258) ls:=by
 obtain⟨F,h1,h2,h3,h4⟩:=h;refine⟨_,_,rfl,fun i x hx=>⟨b,2,rfl,?_⟩⟩;obtain⟨hi,hx2⟩:=List.getElem?_eq_some_iff.1 hx;rw [(h1.cell (i:=2+i) (by omega)).1,h2.lens i hi,List.getD_eq_getElem?_getD,hx];rfl
theorem IsDel.told {w:World} {b N:Nat} {ls:List Int} {now:Int} {bad:Bool} (h:IsDel w b N ls now bad) (x:Int):IsDel (w.setCell ⟨b,260,none⟩ (.int .i64 x)) b N ls x bad:=by
 obtain⟨F,h1,h2,h3,h4⟩:=h;refine⟨_,h1.set 260 _,⟨?_,?_,fun j hj=>?_,Zak _ _ _,?_⟩,h3,h4⟩
 ·rw [Zab _ _ (by omega),h2.size]
 ·rw [Zab _ _ (by omega),h2.read]
 ·rw [Zab _ _ (by omega),h2.lens j hj]
 ·rw [Zab _ _ (by omega),h2.wrong]
theorem IsDel.spoilt {w:World} {b N:Nat} {ls:List Int} {now:Int} {bad:Bool} (h:IsDel w b N ls now bad) (x:Bool):IsDel (w.setCell ⟨b,261,none⟩ (.bool x)) b N ls now x:=by
 obtain⟨F,h1,h2,h3,h4⟩:=h;refine⟨_,h1.set 261 _,⟨?_,?_,fun j hj=>?_,?_,Zak _ _ _⟩,h3,h4⟩
 ·rw [Zab _ _ (by omega),h2.size]
 ·rw [Zab _ _ (by omega),h2.read]
 ·rw [Zab _ _ (by omega),h2.lens j hj]
 ·rw [Zab _ _ (by omega),h2.last]
theorem IsDel.push {w:World} {b N:Nat} {ls:List Int} {now:Int} {bad:Bool} (h:IsDel w b N ls now bad) (hl:ls.length<N) (A:Nat) (hA:2+ls.length=A) (m:Nat) (X:Int) (hX:X=((ls.length+1:Nat):Int)) (x:Int) :
  IsDel (((w.setCell ⟨b,A,none⟩ (.int .i64 x)).drewN m).setCell ⟨b,1,none⟩ (.int .i64 X)) b N (ls++[x]) now bad:=by
 obtain⟨F,h1,h2,h3,h4⟩:=h;subst hX;have hlen:(ls++[x]).length=ls.length+1:=by rw [List.length_append];rfl
 refine⟨_,((h1.set A _).drewN m).set 1 _,⟨?_,?_,fun j hj=>?_,?_,?_⟩,by rw [hlen];exact hl,h4⟩
 ·rw [Zab _ _ (by omega),Zab _ _ (by omega),h2.size]
 ·rw [Zak,hlen]
 ·rw [Zab _ _ (by omega)];rw [hlen] at hj;by_cases e:j=ls.length
  ·subst e;rw [hA,Zak,List.getD_eq_getElem?_getD,List.getElem?_append_right (Nat.le_refl _),Nat.sub_self];rfl
  ·rw [Zab _ _ (by omega),h2.lens j (by omega),List.getD_eq_getElem?_getD,List.getD_eq_getElem?_getD,List.getElem?_append_left (by omega)]
 ·rw [Zab _ _ (by omega),Zab _ _ (by omega),h2.last]
 ·rw [Zab _ _ (by omega),Zab _ _ (by omega),h2.wrong]
def ZjU (x:Value) (i:Nat):Value:=if i=0 then x else if i<261 then .int .i64 0 else .bool false
theorem Zqz (x:Int):Tryz.prog.built 348 [(0,.int .i64 x)]=some (cellsF 262 (ZjU (.int .i64 x))):=by kernel_rfl
theorem ZqA (N:Nat) (w:World) (h3:3<=N) (h258:N<=258) :
  Calls Tryz.prog 297 #[.int .i64 (N:Int)] w fun e w'=>e=.returned (.tuple #[.pointer (some ⟨w.heap.size,0,none⟩),.int .i64 0])/\IsDel w' w.heap.size N [] 0 false/\Below w.heap.size w w':=by
 have HN:=zh (ZlB (N:Int) true w ⟨fun _=>by omega,fun _=>rfl⟩);have hb:=Zqz (N:Int);have hobj:Hid (IsDel (w.alloc (.cells (cellsF 262 (ZjU (.int .i64 (N:Int)))) 348)) w.heap.size N [] 0 false):=zh ⟨_,heap_alloc_new w _,⟨rfl,rfl,fun j hj=>absurd hj (by simp),rfl,rfl⟩,Nat.zero_le _,h258⟩;generalize cellsF 262 (ZjU (.int .i64 (N:Int)))=Z at *;go_enter Tryz.func297,Tryz.ntmps297;go_wp2_with fail;refine HN.out.mono ?_;rintro e w' ⟨rfl,rfl⟩;go_wp2_with (refine Zaj rfl 348 0 _ rfl _ rfl Z hb ?_);go_ret2;exact⟨rfl,hobj.out,(Below.refl _ _).alloc (Nat.le_refl _) _⟩
theorem Zfq (b N:Nat) (ls:List Int) (now:Int) (bad r:Bool) (w:World) (h:IsDel w b N ls now bad) (hr:r=true↔ls.length=N):Calls Tryz.prog 306 #[.pointer (some ⟨b,0,none⟩)] w fun e w'=>e=.returned (.bool r)/\∃n,w'=w.drewN n:=by
 obtain⟨c0,c1,c2,c3⟩:=h.cells;have hl:=h.le
 have hb:((ls.length:Int)==(N:Int))=r:=by
  rw [Bool.eq_iff_iff,beq_iff_eq,hr];omega
 obtain⟨k,hk⟩:∃k,ls.length=k:=⟨_,rfl⟩
 rw [hk] at c1 hb;clear h hr hk hl;go_enter Tryz.func306,Tryz.ntmps306;go_wp2_with fail
 go_quiet (fail)
 go_wp2_with fail;go_ret;exact⟨by first|rfl|rw [hb],_,rfl⟩
theorem ZqB (W:World) (b n:Nat) (hn:n<=258):(Instr.sliceAt 224 (.pointer (some ⟨b,2,none⟩)) none (some (.int .i64 (n:Int))) none).run Tryz.prog W=.ok (.slice (some ⟨b,2,none⟩) n 258) W:=by
 have e:Tryz.prog.arrayLen 224=258:=by kernel_rfl
 have hs:(sizeOf (Tryz.prog.elem 224)).run Tryz.prog W=.ok 1 W:=by kernel_rfl
 rw [run_sliceAt_array_h W _ ⟨b,2,none⟩ (by kernel_rfl) .i64 (n:Int) (by omega) (by rw [e];omega),hs];simp [Result.andThen,slicedAt,e,Addr.add]
theorem Zol (b N:Nat) (ls:List Int) (now:Int) (bad:Bool) (w:World) (h:IsDel w b N ls now bad):Calls Tryz.prog 307 #[.pointer (some ⟨b,0,none⟩)] w fun e w'=>∃v,e=.returned v/\OwnI w' w.heap.size v ls/\Below w.heap.size w w':=by
 obtain⟨c0,c1,c2,c3⟩:=h.cells;have hl:=h.le;have hsl:=fun W=>ZqB W b ls.length (by omega)
 have HC:=zh (ZdH b 2 ls.length 258 ls (w.drewN 1) h.ints (by omega));obtain⟨k,hk⟩:∃k,ls.length=k:=⟨_,rfl⟩
 rw [hk] at c1 hsl HC;clear h hk hl;go_enter Tryz.func307,Tryz.ntmps307;go_wp2_with fail
 go_still_tail 8,(by kernel_rfl)
 change wpList _ _ _ _ _ (w.drewN 1);clear hsl;go_wp2_with fail;refine HC.out.mono ?_;rintro e w' ⟨v,rfl,hO,hB⟩;have HO:=zh hO;have HB:=zh hB;clear hO hB;go_wp2_with fail;go_ret;exact⟨v,rfl,HO.out,(Zai w 1).trans HB.out⟩
theorem Zfr (b N:Nat) (ls:List Int) (now x:Int) (w:World) (h:IsDel w b N ls now false) :
  Calls Tryz.prog 318 #[.pointer (some ⟨b,0,none⟩),.int .i64 x] w fun e w'=>e=.returned (.int .i64 (eOf (okLen x)))/\IsDel w' b N ls x (!okLen x)/\Touch (·=b) w w':=by
 have c2:w.cell? ⟨b,260,none⟩=some (.int .i64 now):=h.cells.2.2.1;have f2:w.frozen? ⟨b,260,none⟩=false:=by obtain⟨F,k,_⟩:=h;exact(k.cell (i:=260) (by omega)).2
 have h1:=h.told x;have t1:Touch (·=b) w (w.setCell ⟨b,260,none⟩ (.int .i64 x)):=Zaa (Touch.refl _ _);have c3:(w.setCell ⟨b,260,none⟩ (.int .i64 x)).cell? ⟨b,261,none⟩=some (.bool false):=h1.cells.2.2.2;have f3:(w.setCell ⟨b,260,none⟩ (.int .i64 x)).frozen? ⟨b,261,none⟩=false:=by obtain⟨F,k,_⟩:=h1;exact(k.cell (i:=261) (by omega)).2
 have H1:=zh h1;have T1:=zh t1;have HL:=zh (fun W=>Zhm x (okLen x) W (Zct x));clear h h1 t1;generalize okLen x=r at *;cases r
 ·go_enter Tryz.func318,Tryz.ntmps318;go_wp2_with fail;generalize w.setCell ⟨b,260,none⟩ (.int .i64 x)=w1 at *;refine(HL.out w1).mono ?_;rintro e w' ⟨rfl,rfl⟩;go_wp2_with fail;go_ret;exact⟨rfl,H1.out.spoilt true,Zaa T1.out⟩
 ·go_enter Tryz.func318,Tryz.ntmps318;go_wp2_with fail;generalize w.setCell ⟨b,260,none⟩ (.int .i64 x)=w1 at *;refine(HL.out w1).mono ?_;rintro e w' ⟨rfl,rfl⟩;go_wp2_with fail;go_ret;exact⟨rfl,H1.out,T1.out⟩
def Caught (w:World) (g3 g5 rb sp0:Nat):Prop:=w.cell? ⟨g3,0,none⟩=some (.pointer (some ⟨rb,0,none⟩))/\w.cell? ⟨g5,0,none⟩=some (.int .i64 (sp0:Int))/\g3≠rb/\g5≠rb
theorem Caught.other {w w':World} {g3 g5 rb sp0:Nat} (h:Caught w g3 g5 rb sp0) {S:Nat->Prop} (ht:Touch S w w') (h3:¬S g3) (h5:¬S g5):Caught w' g3 g5 rb sp0:=by
 obtain⟨a,b,c,d⟩:=h;refine⟨?_,?_,c,d⟩
 ·rw [World.cell?_of_block (w:=w) (a:=⟨g3,0,none⟩) (ht.block g3 (ZaG a) h3)];exact a
 ·rw [World.cell?_of_block (w:=w) (a:=⟨g5,0,none⟩) (ht.block g5 (ZaG b) h5)];exact b
theorem Zhn (g3 g5 rb sp0:Nat) (v:Value) (l:List UInt8) (dr sp p n:Nat) (w:World) (hc:Caught w g3 g5 rb sp0) (hr:IsReader w rb v l dr sp p) (hs:dr+l.length<=1099511627776) (hn:n<=31) (hp:p+n<=8*(dr+l.length)) :
  Calls Tryz.prog 313 #[.int .i64 (n:Int),.pointer (some ⟨g3,0,none⟩),.pointer (some ⟨g5,0,none⟩)] w fun e w'=>e=.returned (.tuple #[.int .i64 (num (((bitsOf l).drop (p-8*dr)).take n):Int),.int .i64 0])/\IsReader w' rb v l dr sp (p+n)/\Touch (·=rb) w w':=by
 obtain⟨a3,a5,_,_⟩:=hc;have HR:=zh hr;have hX:num (((bitsOf l).drop (p-8*dr)).take n)<2147483648:=Nat.lt_of_lt_of_le (ZaB _) (Nat.pow_le_pow_right (by omega) (by rw [List.length_take];omega):2^_<=2^31);have HG:=zh (Zce rb v l dr sp p n w hr hs (by omega) hp);generalize num (((bitsOf l).drop (p-8*dr)).take n)=X at *;clear hr;go_enter Tryz.func313,Tryz.ntmps313;go_wp2_with fail;refine HG.out.mono ?_;rintro e w1 ⟨rfl,hr1,ht1⟩;have HR1:=zh hr1;have HT1:=zh ht1;clear hr1 ht1;go_wp2_with fail;go_ret2;exact⟨rfl,HR1.out,HT1.out⟩
theorem Zd6 (g3 g5 rb sp0:Nat) (v:Value) (l:List UInt8) (dr sp p n:Nat) (w:World) (hc:Caught w g3 g5 rb sp0) (hr:IsReader w rb v l dr sp p) (hs:dr+l.length<=1099511627776) (hn:n<=31) (hp:8*(dr+l.length)<p+n) (h1:8*dr<=sp0) (h2:sp0<=8*(dr+l.length)) :
  Calls Tryz.prog 313 #[.int .i64 (n:Int),.pointer (some ⟨g3,0,none⟩),.pointer (some ⟨g5,0,none⟩)] w fun e w'=>e=.returned (.tuple #[.int .i64 0,.int .i64 3])/\IsReader w' rb v l dr sp sp0/\Touch (·=rb) w w':=by
 obtain⟨a3,a5,_,_⟩:=hc;have HR:=zh hr;have HG:=zh (Zdu rb v l dr sp p n w hr hs (by omega) hp);clear hr;go_enter Tryz.func313,Tryz.ntmps313;go_wp2_with fail;refine HG.out.mono ?_;rintro e w1 ⟨rfl,m,hw1⟩;have HR1:Hid (IsReader w1 rb v l dr sp p):=zh (by rw [hw1];exact HR.out.drewN m);have HT1:Hid (Touch (·=rb) w w1):=zh (by rw [hw1];exact Zad _ _ m);have a3':w1.cell? ⟨g3,0,none⟩=some (.pointer (some ⟨rb,0,none⟩)):=by rw [hw1];exact a3
 have a5':w1.cell? ⟨g5,0,none⟩=some (.int .i64 (sp0:Int)):=by rw [hw1];exact a5
 clear hw1 a3 a5;go_wp2_with fail;refine(Zbc rb v l dr sp p sp0 w1 HR1.out hs h1 h2).mono ?_;rintro e w2 ⟨rfl,hr2,ht2⟩;have HR2:=zh hr2;have HT2:Hid (Touch (·=rb) w w2):=zh (HT1.out.trans ht2 (fun j hj=>Or.inl hj));clear hr2 ht2;go_wp2_with fail;go_ret2;exact⟨rfl,HR2.out,HT2.out⟩
def StepD (w w':World) (b rb N:Nat) (v:Value) (l:List UInt8) (dr sp p:Nat) (o:DO) (e:Ending):Prop:=
 e=.returned (.int .i64 o.err)/\IsDel w' b N o.ls o.now o.bad/\IsReader w' rb v l dr sp (p+o.used)/\Touch (fun k=>k=b\/k=rb) w w'
theorem Zho {w w':World} {b rb:Nat} (h:Touch (·=b) w w'):Touch (fun k=>k=b\/k=rb) w w':=h.mono (fun _ hk=>Or.inl hk)
theorem ZcJ {w w':World} {b rb:Nat} (h:Touch (·=rb) w w'):Touch (fun k=>k=b\/k=rb) w w':=h.mono (fun _ hk=>Or.inr hk)
theorem ZbH {w w1 w2:World} {b rb:Nat} (h:Touch (fun k=>k=b\/k=rb) w w1) (k:Touch (fun k=>k=b\/k=rb) w1 w2):Touch (fun k=>k=b\/k=rb) w w2:=h.trans k (fun _ hj=>Or.inl hj)
theorem Zom (b rb g3 g5 N:Nat) (ls:List Int) (v:Value) (l:List UInt8) (dr sp p:Nat) (w:World) (hD:IsDel w b N ls 0 false) (hR:IsReader w rb v l dr sp p) (hC:Caught w g3 g5 rb p) (hs:dr+l.length<=1099511627776)
  (hne:∀k,foot rb v k->k≠b) :
  Calls Tryz.prog 314 #[.pointer (some ⟨b,0,none⟩),.func (.func 313) #[] #[.pointer (some ⟨g3,0,none⟩),.pointer (some ⟨g5,0,none⟩)]] w fun e w'=>
   StepD w w' b rb N v l dr sp p (dstep ((bitsOf l).drop (p-8*dr)) ls 0 false) e:=by
 have HD:=zh hD;have HNE:=zh hne;have h1:=hR.2.2.2.1;have h2:=hR.2.2.2.2;have he:∀args w,(callFunc 313 args).run Tryz.prog w=.ok (.enter 313 args) w:=enters_of Tryz.func313 (by kernel_rfl) rfl;have hbr:Hid (b≠rb):=zh (fun e=>hne rb (Or.inl rfl) e.symm);have hql:((bitsOf l).drop (p-8*dr)).length=8*(dr+l.length)-p:=by rw [List.length_drop,Zan];omega
 by_cases h5:((bitsOf l).drop (p-8*dr)).length<5
 ·have HG:=zh (Zd6 g3 g5 rb p v l dr sp p 5 w hC hR hs (by omega) (by omega) h1 h2);have HO:=zh (ZhZ ((bitsOf l).drop (p-8*dr)) ls h5);clear hD hR hC hne h1 h2 hql h5;go_enter Tryz.func314,Tryz.ntmps314;go_wp2_with fail;refine HG.out.mono ?_;rintro e w1 ⟨rfl,hr1,ht1⟩
  have K:Hid (StepD w w1 b rb N v l dr sp p (dstep ((bitsOf l).drop (p-8*dr)) ls 0 false) (.returned (.int .i64 3))):=zh (by
   rw [HO.out];exact⟨rfl,HD.out.other ht1 hbr.out,hr1,ZcJ ht1⟩)
  clear hr1 ht1;go_wp2_with fail;go_ret;exact K.out
 ·have HG:=zh (Zhn g3 g5 rb p v l dr sp p 5 w hC hR hs (by omega) (by omega));have HO:=zh (Ze4 ((bitsOf l).drop (p-8*dr)) ls h5);obtain⟨X,hX⟩:∃X,num (((bitsOf l).drop (p-8*dr)).take 5)=X:=⟨_,rfl⟩
  rw [hX] at HG HO;clear hD hR hC hne h1 h2 hql h5 hX;go_enter Tryz.func314,Tryz.ntmps314;go_wp2_with fail;refine HG.out.mono ?_;rintro e w1 ⟨rfl,hr1,ht1⟩;have HR1:=zh hr1;have HT1:=zh ht1;have HD1:=zh (HD.out.other ht1 hbr.out);clear hr1 ht1;obtain⟨E,hE⟩:∃E,eOf (okLen (X:Int))=E:=⟨_,rfl⟩
  have HE:=zh hE;have HTL:=zh (Zfr b N ls 0 (X:Int) w1 HD1.out);rw [hE] at HTL;clear hE;go_wp2_with fail;refine HTL.out.mono ?_;rintro e w2 ⟨rfl,hd2,ht2⟩
  have K:Hid (StepD w w2 b rb N v l dr sp p (dstep ((bitsOf l).drop (p-8*dr)) ls 0 false) (.returned (.int .i64 E))):=zh (by
   rw [HO.out,<-HE.out];exact⟨rfl,hd2,HR1.out.other ht2 (fun k hk=>HNE.out k hk),ZbH (ZcJ HT1.out) (Zho ht2)⟩)
  clear hd2 ht2;go_wp2_with fail;go_ret;exact K.out
theorem ZeN {x:Bool} {t:List Bool}:num ((x::t).take 1)=bn x:=by cases x<;>rfl
theorem Zmu (b rb g3 g5 N:Nat) (ls:List Int) (now:Int) (v:Value) (l:List UInt8) (dr sp p:Nat) (w:World) (hD:IsDel w b N ls now false) (hR:IsReader w rb v l dr sp p) (hC:Caught w g3 g5 rb p) (hs:dr+l.length<=1099511627776)
  (hne:∀k,foot rb v k->k≠b) (hl:ls.length<N) (hn:1<=now/\now<=20) (hg:g3≠b/\g5≠b) :
  Calls Tryz.prog 315 #[.pointer (some ⟨b,0,none⟩),.func (.func 313) #[] #[.pointer (some ⟨g3,0,none⟩),.pointer (some ⟨g5,0,none⟩)]] w fun e w'=>
   StepD w w' b rb N v l dr sp p (dstep ((bitsOf l).drop (p-8*dr)) ls now false) e:=by
 have HD:=zh hD;have HNE:=zh hne;have HC:=zh hC;have hN:=hD.le.2;have h1:=hR.2.2.2.1;have h2:=hR.2.2.2.2;have he:∀args w,(callFunc 313 args).run Tryz.prog w=.ok (.enter 313 args) w:=enters_of Tryz.func313 (by kernel_rfl) rfl;have hbr:Hid (b≠rb):=zh (fun e=>hne rb (Or.inl rfl) e.symm);have hql:((bitsOf l).drop (p-8*dr)).length=8*(dr+l.length)-p:=by rw [List.length_drop,Zan];omega
 have hn0:now≠0:=by omega
 have hdd:(bitsOf l).drop (p+1-8*dr)=((bitsOf l).drop (p-8*dr)).drop 1:=by rw [List.drop_drop];congr 1;omega
 have HGS:=fun(h:8*(dr+l.length)<p+1)=>Zd6 g3 g5 rb p v l dr sp p 1 w hC hR hs (by omega) h h1 h2
 have HG:=fun(h:p+1<=8*(dr+l.length))=>Zhn g3 g5 rb p v l dr sp p 1 w hC hR hs (by omega) h
 obtain⟨q,hq⟩:∃q,(bitsOf l).drop (p-8*dr)=q:=⟨_,rfl⟩
 rw [hq] at hql hdd HG ⊢
 match q,hql,hdd,HG with
 | [],hql,hdd,HG=>
  have HG1:=zh (HGS (by simp only [List.length_nil] at hql;omega));clear hD hR hC hne h1 h2 hql hdd HGS HG hq;go_enter Tryz.func315,Tryz.ntmps315;go_wp2_with fail;refine HG1.out.mono ?_;rintro e w1 ⟨rfl,hr1,ht1⟩
  have K:Hid (StepD w w1 b rb N v l dr sp p (dstep [] ls now false) (.returned (.int .i64 3))):=zh (by
   rw [Zh0 ls hn0];exact⟨rfl,HD.out.other ht1 hbr.out,hr1,ZcJ ht1⟩)
  clear hr1 ht1;go_wp2_with fail;go_ret;exact K.out
 | [true],hql,hdd,HG=>
  have HG1:=HG (by simp only [List.length_cons,List.length_nil] at hql;omega);rw [ZeN] at HG1;have HG1':=zh HG1;have HLT:Hid (8*(dr+l.length)<p+1+1):=zh (by simp only [List.length_cons,List.length_nil] at hql;omega);have HB1:=zh h1;have HB2:=zh h2;clear hD hR hC hne h1 h2 hql hdd HGS HG HG1 hq;go_enter Tryz.func315,Tryz.ntmps315;go_wp2_with fail;refine HG1'.out.mono ?_;rintro e w1 ⟨rfl,hr1,ht1⟩;have HG2:=zh (Zd6 g3 g5 rb p v l dr sp (p+1) 1 w1 (HC.out.other ht1 HC.out.2.2.1 HC.out.2.2.2) hr1 hs (by omega) HLT.out HB1.out HB2.out);have HT1:=zh ht1;have HD1:=zh (HD.out.other ht1 hbr.out);clear hr1 ht1;have hb1:((bn true:Nat):Int)=1:=rfl;rw [hb1];clear hb1;go_wp2_with fail;refine HG2.out.mono ?_;rintro e w2 ⟨rfl,hr2,ht2⟩
  have K:Hid (StepD w w2 b rb N v l dr sp p (dstep [true] ls now false) (.returned (.int .i64 3))):=zh (by
   rw [Zh1 ls hn0];exact⟨rfl,HD1.out.other ht2 hbr.out,hr2,ZbH (ZcJ HT1.out) (ZcJ ht2)⟩)
  clear hr2 ht2;go_wp2_with fail;go_ret;exact K.out
 | false::t,hql,hdd,HG=>
  have HG1:=HG (by simp only [List.length_cons] at hql;omega);rw [ZeN] at HG1;have HG1':=zh HG1;clear hD hR hC hne h1 h2 hql hdd HGS HG HG1 hq;go_enter Tryz.func315,Tryz.ntmps315;go_wp2_with fail;refine HG1'.out.mono ?_;rintro e w1 ⟨rfl,hr1,ht1⟩;have HD1:=zh (HD.out.other ht1 hbr.out);have HR1:=zh hr1;have HT1:=zh ht1;clear hr1 ht1;have hb0:((bn false:Nat):Int)=0:=rfl;rw [hb0];clear hb0;obtain⟨c0,c1,c2,c3⟩:=HD1.out.cells;obtain⟨A,hA⟩:∃A,2+ls.length=A:=⟨_,rfl⟩
  obtain⟨k,hk⟩:∃k,ls.length=k:=⟨_,rfl⟩
  have cA:∃x,w1.cell? ⟨b,A,none⟩=some x:=by obtain⟨F,h,_⟩:=HD1.out;exact⟨_,(h.cell (i:=A) (by omega)).1⟩
  obtain⟨xA,cA⟩:=cA;have fA:w1.frozen? ⟨b,A,none⟩=false:=by obtain⟨F,h,_⟩:=HD1.out;exact(h.cell (i:=A) (by omega)).2
  have HF:Hid (∀m x,((w1.setCell ⟨b,A,none⟩ x).drewN m).cell? ⟨b,1,none⟩=some (.int .i64 (ls.length:Int))/\((w1.setCell ⟨b,A,none⟩ x).drewN m).frozen? ⟨b,1,none⟩=false):=zh (by
   intro m x;obtain⟨F,h,h2,_⟩:=HD1.out;have h3:=((h.set A x).drewN m).cell (i:=1) (by omega);rw [Zab _ _ (by omega),h2.read] at h3;exact h3)
  have HP:=zh (fun m X hX=>HD1.out.push hl A hA m X hX now);have hkN:k<258:=by omega
  have hki:(k:Int)<258:=by omega
  have hA2:2+k=A:=by omega
  rw [hk] at c1 HF HP;have HK:=zh hk;clear hk hA;go_wp2_with fail
  go_region
  have d1:((w1.setCell ⟨b,A,none⟩ (.int .i64 now)).drew).cell? ⟨b,1,none⟩=some (.int .i64 (k:Int)):=(HF.out 1 _).1;have d2:((w1.setCell ⟨b,A,none⟩ (.int .i64 now)).drew).frozen? ⟨b,1,none⟩=false:=(HF.out 1 _).2;have HPP:Hid (IsDel (((w1.setCell ⟨b,A,none⟩ (.int .i64 now)).drew).setCell ⟨b,1,none⟩ (.int .i64 ((k:Int)+1))) b N (ls++[now]) now false):=zh (HP.out 1 ((k:Int)+1) (by omega));have HTT:Hid (Touch (·=b) w1 ((w1.setCell ⟨b,A,none⟩ (.int .i64 now)).drew)):=zh ((Zaa (Touch.refl _ _)).trans (Zad _ _ 1) (fun j hj=>Or.inl hj));generalize ((w1.setCell ⟨b,A,none⟩ (.int .i64 now)).drew)=w5 at *;clear c0 c1 c2 c3 cA fA hA2;go_wp2_with fail;go_ret;rw [Zgi t ls hn0];exact⟨rfl,HPP.out,HR1.out.other (Zaa HTT.out) (fun k hk=>HNE.out k hk),ZbH (ZcJ HT1.out) (Zho (Zaa HTT.out))⟩
 | true::x::t,hql,hdd,HG=>
  have HG1:=HG (by simp only [List.length_cons] at hql;omega);rw [ZeN] at HG1;have HG1':=zh HG1;have HLT:Hid (p+1+1<=8*(dr+l.length)):=zh (by simp only [List.length_cons] at hql;omega);have hdd2:(bitsOf l).drop (p+1-8*dr)=x::t:=hdd;have HDD:=zh hdd2;clear hD hR hC hne h1 h2 hql hdd HGS HG HG1 hq hdd2;go_enter Tryz.func315,Tryz.ntmps315;go_wp2_with fail;refine HG1'.out.mono ?_;rintro e w1 ⟨rfl,hr1,ht1⟩;have HG2:=Zhn g3 g5 rb p v l dr sp (p+1) 1 w1 (HC.out.other ht1 HC.out.2.2.1 HC.out.2.2.2) hr1 hs (by omega) HLT.out;rw [HDD.out,ZeN] at HG2;have HG2':=zh HG2;have HT1:=zh ht1;have HD1:=zh (HD.out.other ht1 hbr.out);clear hr1 ht1 HG2;have hb1:((bn true:Nat):Int)=1:=rfl;rw [hb1];clear hb1;go_wp2_with fail;refine HG2'.out.mono ?_;rintro e w2 ⟨rfl,hr2,ht2⟩;have HR2:=zh hr2;have HT2:=zh (ZbH (ZcJ (b:=b) HT1.out) (ZcJ ht2));have HD2:=zh (HD1.out.other ht2 hbr.out);have c2:=HD2.out.cells.2.2.1;clear hr2 ht2 HT1 HD1;have HM:=zh (Zgj x t ls hn0);cases x with
  | false=>
   have hb2:((bn false:Nat):Int)=0:=rfl;rw [hb2];clear hb2;obtain⟨E,hE⟩:∃E,eOf (okLen (now+1))=E:=⟨_,rfl⟩
   have HTL:=zh (Zfr b N ls now (now+1) w2 HD2.out);have HE:=zh hE;rw [hE] at HTL;clear hE;go_wp2_with fail;refine HTL.out.mono ?_;rintro e w3 ⟨rfl,hd3,ht3⟩
   have K:Hid (StepD w w3 b rb N v l dr sp p (dstep (true::false::t) ls now false) (.returned (.int .i64 E))):=zh (by
    rw [HM.out,<-HE.out];exact⟨rfl,hd3,HR2.out.other ht3 (fun k hk=>HNE.out k hk),ZbH HT2.out (Zho ht3)⟩)
   clear hd3 ht3;go_wp2_with fail;go_ret;exact K.out
  | true=>
   have hb2:((bn true:Nat):Int)=1:=rfl;rw [hb2];clear hb2;obtain⟨E,hE⟩:∃E,eOf (okLen (now-1))=E:=⟨_,rfl⟩
   have HTL:=zh (Zfr b N ls now (now-1) w2 HD2.out);have HE:=zh hE;rw [hE] at HTL;clear hE;go_wp2_with fail;refine HTL.out.mono ?_;rintro e w3 ⟨rfl,hd3,ht3⟩
   have K:Hid (StepD w w3 b rb N v l dr sp p (dstep (true::true::t) ls now false) (.returned (.int .i64 E))):=zh (by
    rw [HM.out,<-HE.out];exact⟨rfl,hd3,HR2.out.other ht3 (fun k hk=>HNE.out k hk),ZbH HT2.out (Zho ht3)⟩)
   clear hd3 ht3;go_wp2_with fail;go_ret;exact K.out
theorem Zmv (b rb N:Nat) (ls:List Int) (now:Int) (bad:Bool) (v:Value) (l:List UInt8) (dr sp p:Nat) (w:World) (hD:IsDel w b N ls now bad) (hR:IsReader w rb v l dr sp p) (hs:dr+l.length<=1099511627776)
  (hne:∀k,foot rb v k->k≠b) (hl:ls.length<N) (hn:0<=now/\now<=20\/bad=true) :
  Calls Tryz.prog 305 #[.pointer (some ⟨b,0,none⟩),.pointer (some ⟨rb,0,none⟩)] w fun e w'=>StepD w w' b rb N v l dr sp p (dstep ((bitsOf l).drop (p-8*dr)) ls now bad) e:=by
 have hB:=(Below.refl w.heap.size w).alloc (Nat.le_refl _) (.cells #[.pointer (some ⟨rb,0,none⟩)] 40);have hT:=Touch.ofBelow (S:=fun k=>k=b\/k=rb) hB;have hD1:=hD.other (Touch.ofBelow (S:=fun _=>False) hB) (fun h=>h);have hR1:=hR.other (Touch.ofBelow (S:=fun _=>False) hB) (fun _ _ h=>h);have hc1:(w.alloc (.cells #[.pointer (some ⟨rb,0,none⟩)] 40)).cell? ⟨w.heap.size,0,none⟩=some (.pointer (some ⟨rb,0,none⟩)):=cell_of_row _ _ 0 _ _ _ (heap_alloc_new _ _);have HDN:=zh (Zfq b N ls now bad false _ hD1 ⟨fun e=>(by cases e),fun e=>by omega⟩);have HT:=zh hT;have HD1:=zh hD1;have HR1:=zh hR1;have HC1:=zh hc1;have hp8:=hR.2.2.2.1;have HNE:=zh hne;have hbl:=zh hD.lt;have hrl:=zh (hR.lt rb (Or.inl rfl));have hs1:Hid ((w.alloc (.cells #[.pointer (some ⟨rb,0,none⟩)] 40)).heap.size=w.heap.size+1):=zh (by simp);obtain⟨G,hG⟩:∃G,w.heap.size=G:=⟨_,rfl⟩
 have HGG:=zh hG;rw [hG] at hc1 HC1 hbl hrl hs1;clear hB hT hD1 hR1 hD hR hne;go_enter Tryz.func305,Tryz.ntmps305;go_wp2_with fail;refine HDN.out.mono ?_;rintro e w2 ⟨rfl,m,hw2⟩;have HT2:Hid (Touch (fun k=>k=b\/k=rb) w w2):=zh (by rw [hw2];exact HT.out.trans (Zad _ _ m) (fun j hj=>Or.inl hj));have HD2:Hid (IsDel w2 b N ls now bad):=zh (by rw [hw2];exact HD1.out.other (Zad (fun _=>False) _ m) (fun h=>h));have HR2:Hid (IsReader w2 rb v l dr sp p):=zh (by rw [hw2];exact HR1.out.drewN m);have HC2:w2.cell? ⟨G,0,none⟩=some (.pointer (some ⟨rb,0,none⟩)):=by rw [hw2];exact HC1.out
 have hs2:Hid (w2.heap.size=G+1):=zh (by rw [hw2];exact hs1.out);clear hw2 hs1 HC1 HR1 HD1 HT HDN hc1
 try rw [hG]
 clear hG;have c3:=HD2.out.cells.2.2.2;cases bad with
 | true=>
  go_wp2_with fail;go_ret;rw [Znl];exact⟨rfl,HD2.out,HR2.out,HT2.out⟩
 | false=>
  have hn2:0<=now/\now<=20:=hn.elim id (fun h=>by cases h);go_wp2_with fail;refine(ZcA rb v l dr sp p w2 HR2.out).mono ?_;rintro e w3 ⟨rfl,rfl⟩;have hB3:=(Below.refl w2.heap.size w2).alloc (Nat.le_refl _) (.cells #[.int .i64 (p:Int)] 3);have HT3:Hid (Touch (fun k=>k=b\/k=rb) w (w2.alloc (.cells #[.int .i64 (p:Int)] 3))):=zh (HT2.out.trans (Touch.ofBelow (S:=fun k=>k=b\/k=rb) hB3) (fun j hj=>Or.inl hj));have HD3:Hid (IsDel (w2.alloc (.cells #[.int .i64 (p:Int)] 3)) b N ls now false):=zh (HD2.out.other (Touch.ofBelow (S:=fun _=>False) hB3) (fun h=>h));have HR3:Hid (IsReader (w2.alloc (.cells #[.int .i64 (p:Int)] 3)) rb v l dr sp p):=zh (HR2.out.other (Touch.ofBelow (S:=fun _=>False) hB3) (fun _ _ h=>h))
  have HCA:Hid (Caught (w2.alloc (.cells #[.int .i64 (p:Int)] 3)) G (G+1) rb p):=zh ⟨by
   have h1:=hB3.block G (by rw [hs2.out];omega);rw [World.cell?_of_block (w:=w2) (a:=⟨G,0,none⟩) h1];exact HC2,by
   have h2:=heap_alloc_new w2 (.cells #[.int .i64 (p:Int)] 3);rw [hs2.out] at h2;exact cell_of_row _ _ 0 _ _ _ h2,by have:=hrl.out;omega,by have:=hrl.out;omega⟩
  have c4:=HD3.out.cells.2.2.1;have hsz:=hs2.out;clear hB3 HC2 c3;by_cases h0:now=0
  ·subst h0;have HF:=zh (Zom b rb G (G+1) N ls v l dr sp p _ HD3.out HR3.out HCA.out hs HNE.out);go_wp2_with fail
   try rw [hsz]
   refine HF.out.mono ?_;rintro e w5 ⟨rfl,k1,k2,k3⟩;have K:Hid (StepD w w5 b rb N v l dr sp p (dstep ((bitsOf l).drop (p-8*dr)) ls 0 false) (.returned (.int .i64 (dstep ((bitsOf l).drop (p-8*dr)) ls 0 false).err))):=zh ⟨rfl,k1,k2,ZbH HT3.out k3⟩;clear k1 k2 k3;generalize ho:dstep ((bitsOf l).drop (p-8*dr)) ls 0 false=o at *;have HO:=zh ho;clear ho;go_wp2_with fail;go_ret;rw [HO.out];exact K.out
  ·have h0b:(now==0)=false:=by rw [beq_eq_false_iff_ne];exact h0
   have HF:=zh (Zmu b rb G (G+1) N ls now v l dr sp p _ HD3.out HR3.out HCA.out hs HNE.out hl (by omega) ⟨by have:=hbl.out;omega,by have:=hbl.out;omega⟩);go_wp2_with fail
   try rw [hsz]
   refine HF.out.mono ?_;rintro e w5 ⟨rfl,k1,k2,k3⟩;have K:Hid (StepD w w5 b rb N v l dr sp p (dstep ((bitsOf l).drop (p-8*dr)) ls now false) (.returned (.int .i64 (dstep ((bitsOf l).drop (p-8*dr)) ls now false).err))):=zh ⟨rfl,k1,k2,ZbH HT3.out k3⟩;clear k1 k2 k3;generalize ho:dstep ((bitsOf l).drop (p-8*dr)) ls now false=o at *;have HO:=zh ho;clear ho;go_wp2_with fail;go_ret;rw [HO.out];exact K.out
def RdP (Q:List Bool) (N:Nat) (ls:List Int) (err:Int) (used:Nat):Prop:=
 match rd Q N with
 | .short=>ls=[]/\err=3/\used=0
 | .table=>ls=[]/\err=22/\used=0
 | .ok l n=>ls=l/\err=0/\used=n
theorem RdP.table {Q:List Bool} {N:Nat} (h:rd Q N=.table):RdP Q N [] 22 0:=by unfold RdP;rw [h];exact⟨rfl,rfl,rfl⟩
end
section
open Go.RowKit BitM HufM CanM CodM PkM
theorem Zon (n:Int) (r:Bool) (w:World) (hr:r=true↔3<=n/\n<=258):Calls Tryz.prog 235 #[.int .i64 n] w fun e w'=>e=.returned (.bool r)/\w'=w:=by
 by_cases h1:3<=n
 ·by_cases h2:n<=258
  ·obtain rfl:r=true:=hr.2 ⟨h1,h2⟩;clear hr;go_enter Tryz.func235,Tryz.ntmps235;go_wp2_with fail;go_ret;exact⟨rfl,rfl⟩
  ·obtain rfl:r=false:=by rw [Bool.eq_false_iff];intro h;exact h2 (hr.1 h).2
   clear hr;go_enter Tryz.func235,Tryz.ntmps235;go_wp2_with fail;go_ret;exact⟨rfl,rfl⟩
 ·obtain rfl:r=false:=by rw [Bool.eq_false_iff];intro h;exact h1 (hr.1 h).1
  clear hr;go_enter Tryz.func235,Tryz.ntmps235;go_wp2_with fail;go_ret;exact⟨rfl,rfl⟩
def ptr (b:Nat):Value:=.pointer (some ⟨b,0,none⟩)
def OwnP (w:World) (base:Nat) (v:Value) (bs:List Nat):Prop:=w.ownsRow base 149 1 v bs.length (bs.map ptr)
theorem OwnP.nil (w:World) (base:Nat):OwnP w base (.slice none 0 0) []:=World.ownsRow_nil _ _ _ _
theorem OwnP.slice {w:World} {base:Nat} {v:Value} {bs:List Nat} (h:OwnP w base v bs):∃a cap,v=.slice a bs.length cap:=Zax h
theorem OwnP.same {w w':World} {base:Nat} {v:Value} {bs:List Nat} (h:OwnP w base v bs) (he:∀k,v.ownBlock=some k->w'.heap[k]?=w.heap[k]?):OwnP w' base v bs:=Zah h he
theorem OwnP.lt {w:World} {base:Nat} {v:Value} {bs:List Nat} (h:OwnP w base v bs):∀k,v.ownBlock=some k->base<=k/\k<w.heap.size:=World.ownsRow.lt h
theorem OwnP.cell {w:World} {base:Nat} {v:Value} {bs:List Nat} (h:OwnP w base v bs) {i:Nat} (hi:i<bs.length):∃g cap,v=.slice (some ⟨g,0,none⟩) bs.length cap/\w.cell? ⟨g,i,none⟩=some (ptr (bs.getD i 0)):=by
 rcases h.2 with⟨rfl,h0⟩|⟨g,cap,cur,rfl,_,hg,_⟩
 ·omega
 ·refine⟨g,cap,rfl,?_⟩;have h2:=World.ownsRow.cells h (g:=g) rfl i (ptr (bs.getD i 0)) (by rw [List.getElem?_map,List.getElem?_eq_getElem hi,List.getD_eq_getElem?_getD,List.getElem?_eq_getElem hi];rfl);rw [Addr.add_lit,Nat.zero_add] at h2;exact h2
theorem Zsv:(Tryz.prog.info? 149).map (fun i=>(i.zero,i.size,i.bytes))=some (some (.pointer none),1,8):=by kernel_rfl
theorem Zoo {ops:Array Oper} {rest:List Oper} {o:Oper} {a:Act} {Q:Exit->Act->World->Prop} (W:World) (hgd:o.guard=none) (s x:Operand)
  (ho:o.op=.call { callee:=.builtin .append,args:=#[s,x],argTypes:=#[147,147] })
  (base:Nat) (v:Value) (bs:List Nat) (c:Nat) (hown:OwnP W base v bs) (hs:a.eval s=v) (hx:a.eval x=.slice (some ⟨W.heap.size,0,none⟩) 1 1)
  (hlen:bs.length+1<=1000000) (hb:base<=W.heap.size)
  (h:∀v' w',OwnP w' base v' (bs++[c])->Below base W w'->(∀k,k<W.heap.size->v.ownBlock≠some k->w'.heap[k]?=W.heap[k]?)->(∀k,v'.ownBlock=some k->v.ownBlock=some k\/W.heap.size<=k)->wpList Tryz.prog ops Q rest (a.put o.dst v') w') :
  wpList Tryz.prog ops Q (o::rest) a (W.alloc (.cells #[.pointer (some ⟨c,0,none⟩)] 149)):=by
 obtain⟨i0,hi,hz0,hz1,hz2⟩:=info_parts Zsv;refine Zas hgd s x 147 ho base 149 i0 (.pointer none) 1 8 Tryz.underlying147 hi hz0 hz1 hz2 rfl (by decide) v bs.length (bs.map ptr) (World.ownsRow.alloc hown _) hs ⟨W.heap.size,0,none⟩ 1 1 [ptr c] hx rfl ?_ ?_ ?_ ?_ ?_ ?_
 ·exact ZaD _ _ _ _ rfl
 ·intro u hu;simp at hu;subst hu;rfl
 ·unfold maxLen;omega
 ·omega
 ·simp;omega
 ·intro v' w' hown' hg hv;refine h v' w' ?_ (Below.grown ((Below.refl base W).alloc hb _) hg (by simp;omega) (fun j hj=>(World.ownsRow.lt hown j hj).1)) (fun k hk hne=>(hg.block k (by simp;omega) (fun e=>hne e.symm)).trans (Zam hk)) (fun k hk=>(hv k hk).imp id (fun h=>by simp at h;omega));unfold OwnP;rw [List.length_append,List.map_append];exact hown'
def Codes (w:World) (Pb:Nat->Prop) (cu:Value) (gs:List (List Int)):Prop:=
 ∃(bs:List Nat) (base:Nat),OwnP w base cu bs/\bs.length=gs.length/\base<=w.heap.size/\(∀k,cu.ownBlock=some k->Pb k)/\∀i,i<gs.length->IsCode w (bs.getD i 0) (gs.getD i [])/\Pb (bs.getD i 0)/\cu.ownBlock≠some (bs.getD i 0)/\bs.getD i 0<w.heap.size
theorem Codes.nil (w:World) (Pb:Nat->Prop):Codes w Pb (.slice none 0 0) []:=⟨[],0,OwnP.nil _ _,rfl,Nat.zero_le _,fun k hk=>(by cases hk),fun i hi=>absurd hi (Nat.not_lt_zero _)⟩
theorem Codes.other {w w':World} {Pb S:Nat->Prop} {cu:Value} {gs:List (List Int)} (h:Codes w Pb cu gs) (ht:Touch S w w') (hS:∀k,Pb k->¬S k):Codes w' Pb cu gs:=by
 obtain⟨bs,base,h1,h2,h3,h4,h5⟩:=h;refine⟨bs,base,h1.same (fun k hk=>ht.block k (h1.lt k hk).2 (hS k (h4 k hk))),h2,Nat.le_trans h3 ht.size,h4,fun i hi=>?_⟩;obtain⟨a1,a2,a3,a4⟩:=h5 i hi;exact⟨a1.other ht (hS _ a2),a2,a3,Nat.lt_of_lt_of_le a4 ht.size⟩
theorem Codes.slice {w:World} {Pb:Nat->Prop} {cu:Value} {gs:List (List Int)} (h:Codes w Pb cu gs):∃a cap,cu=.slice a gs.length cap:=by
 obtain⟨bs,base,h1,h2,_⟩:=h;obtain⟨a,c,e⟩:=h1.slice;exact⟨a,c,by rw [e,h2]⟩
def RowP (w:World) (Pb:Nat->Prop) (pu:Value) (zs:List Int):Prop:=IsInts w pu zs/\∀k,pu.ownBlock=some k->Pb k
theorem RowP.other {w w':World} {Pb S:Nat->Prop} {pu:Value} {zs:List Int} (h:RowP w Pb pu zs) (ht:Touch S w w') (hS:∀k,Pb k->¬S k):RowP w' Pb pu zs:=⟨h.1.other ht (fun k hk=>hS k (h.2 k hk)),h.2⟩
theorem RowP.mono {w:World} {Pb Pc:Nat->Prop} {pu:Value} {zs:List Int} (h:RowP w Pb pu zs) (hP:∀k,Pb k->Pc k):RowP w Pc pu zs:=⟨h.1,fun k hk=>hP k (h.2 k hk)⟩
structure CC (F:Nat->Value) (N:Nat) (nx:Value) (wr:Int) (hd:Value) (T:Nat) (pu tb cu:Value) (held cnt:Nat) (dn:Bool):Prop where
 c_n0:F 0=.int .i64 (N:Int)
 c_nx:F 1=nx
 c_wr:F 2=.int .i64 wr
 c_hd:F 3=hd
 c_T:F 4=.int .i64 (T:Int)
 c_pu:F 5=pu
 c_tb:F 6=tb
 c_cu:F 7=cu
 c_held:F 8=.int .i64 (held:Int)
 c_cnt:F 9=.int .i64 (cnt:Int)
 c_dn:F 10=.bool dn
theorem CC.s_nx {F:Nat->Value} {N:Nat} {nx:Value} {wr:Int} {hd:Value} {T:Nat} {pu tb cu:Value} {held cnt:Nat} {dn:Bool} (h:CC F N nx wr hd T pu tb cu held cnt dn) (x:Value):CC (upd F 1 x) N x wr hd T pu tb cu held cnt dn:=⟨(Zab _ _ (by omega)).trans h.c_n0,Zak _ _ _,(Zab _ _ (by omega)).trans h.c_wr,(Zab _ _ (by omega)).trans h.c_hd,(Zab _ _ (by omega)).trans h.c_T,(Zab _ _ (by omega)).trans h.c_pu,(Zab _ _ (by omega)).trans h.c_tb,(Zab _ _ (by omega)).trans h.c_cu,(Zab _ _ (by omega)).trans h.c_held,(Zab _ _ (by omega)).trans h.c_cnt,(Zab _ _ (by omega)).trans h.c_dn⟩
theorem CC.s_wr {F:Nat->Value} {N:Nat} {nx:Value} {wr:Int} {hd:Value} {T:Nat} {pu tb cu:Value} {held cnt:Nat} {dn:Bool} (h:CC F N nx wr hd T pu tb cu held cnt dn) (x:Int):CC (upd F 2 (.int .i64 x)) N nx x hd T pu tb cu held cnt dn:=⟨(Zab _ _ (by omega)).trans h.c_n0,(Zab _ _ (by omega)).trans h.c_nx,Zak _ _ _,(Zab _ _ (by omega)).trans h.c_hd,(Zab _ _ (by omega)).trans h.c_T,(Zab _ _ (by omega)).trans h.c_pu,(Zab _ _ (by omega)).trans h.c_tb,(Zab _ _ (by omega)).trans h.c_cu,(Zab _ _ (by omega)).trans h.c_held,(Zab _ _ (by omega)).trans h.c_cnt,(Zab _ _ (by omega)).trans h.c_dn⟩
theorem CC.s_hd {F:Nat->Value} {N:Nat} {nx:Value} {wr:Int} {hd:Value} {T:Nat} {pu tb cu:Value} {held cnt:Nat} {dn:Bool} (h:CC F N nx wr hd T pu tb cu held cnt dn) (x:Value):CC (upd F 3 x) N nx wr x T pu tb cu held cnt dn:=⟨(Zab _ _ (by omega)).trans h.c_n0,(Zab _ _ (by omega)).trans h.c_nx,(Zab _ _ (by omega)).trans h.c_wr,Zak _ _ _,(Zab _ _ (by omega)).trans h.c_T,(Zab _ _ (by omega)).trans h.c_pu,(Zab _ _ (by omega)).trans h.c_tb,(Zab _ _ (by omega)).trans h.c_cu,(Zab _ _ (by omega)).trans h.c_held,(Zab _ _ (by omega)).trans h.c_cnt,(Zab _ _ (by omega)).trans h.c_dn⟩
theorem CC.s_T {F:Nat->Value} {N:Nat} {nx:Value} {wr:Int} {hd:Value} {T:Nat} {pu tb cu:Value} {held cnt:Nat} {dn:Bool} (h:CC F N nx wr hd T pu tb cu held cnt dn) (x:Nat):CC (upd F 4 (.int .i64 (x:Int))) N nx wr hd x pu tb cu held cnt dn:=⟨(Zab _ _ (by omega)).trans h.c_n0,(Zab _ _ (by omega)).trans h.c_nx,(Zab _ _ (by omega)).trans h.c_wr,(Zab _ _ (by omega)).trans h.c_hd,Zak _ _ _,(Zab _ _ (by omega)).trans h.c_pu,(Zab _ _ (by omega)).trans h.c_tb,(Zab _ _ (by omega)).trans h.c_cu,(Zab _ _ (by omega)).trans h.c_held,(Zab _ _ (by omega)).trans h.c_cnt,(Zab _ _ (by omega)).trans h.c_dn⟩
theorem CC.s_pu {F:Nat->Value} {N:Nat} {nx:Value} {wr:Int} {hd:Value} {T:Nat} {pu tb cu:Value} {held cnt:Nat} {dn:Bool} (h:CC F N nx wr hd T pu tb cu held cnt dn) (x:Value):CC (upd F 5 x) N nx wr hd T x tb cu held cnt dn:=⟨(Zab _ _ (by omega)).trans h.c_n0,(Zab _ _ (by omega)).trans h.c_nx,(Zab _ _ (by omega)).trans h.c_wr,(Zab _ _ (by omega)).trans h.c_hd,(Zab _ _ (by omega)).trans h.c_T,Zak _ _ _,(Zab _ _ (by omega)).trans h.c_tb,(Zab _ _ (by omega)).trans h.c_cu,(Zab _ _ (by omega)).trans h.c_held,(Zab _ _ (by omega)).trans h.c_cnt,(Zab _ _ (by omega)).trans h.c_dn⟩
theorem CC.s_tb {F:Nat->Value} {N:Nat} {nx:Value} {wr:Int} {hd:Value} {T:Nat} {pu tb cu:Value} {held cnt:Nat} {dn:Bool} (h:CC F N nx wr hd T pu tb cu held cnt dn) (x:Value):CC (upd F 6 x) N nx wr hd T pu x cu held cnt dn:=⟨(Zab _ _ (by omega)).trans h.c_n0,(Zab _ _ (by omega)).trans h.c_nx,(Zab _ _ (by omega)).trans h.c_wr,(Zab _ _ (by omega)).trans h.c_hd,(Zab _ _ (by omega)).trans h.c_T,(Zab _ _ (by omega)).trans h.c_pu,Zak _ _ _,(Zab _ _ (by omega)).trans h.c_cu,(Zab _ _ (by omega)).trans h.c_held,(Zab _ _ (by omega)).trans h.c_cnt,(Zab _ _ (by omega)).trans h.c_dn⟩
theorem CC.s_cu {F:Nat->Value} {N:Nat} {nx:Value} {wr:Int} {hd:Value} {T:Nat} {pu tb cu:Value} {held cnt:Nat} {dn:Bool} (h:CC F N nx wr hd T pu tb cu held cnt dn) (x:Value):CC (upd F 7 x) N nx wr hd T pu tb x held cnt dn:=⟨(Zab _ _ (by omega)).trans h.c_n0,(Zab _ _ (by omega)).trans h.c_nx,(Zab _ _ (by omega)).trans h.c_wr,(Zab _ _ (by omega)).trans h.c_hd,(Zab _ _ (by omega)).trans h.c_T,(Zab _ _ (by omega)).trans h.c_pu,(Zab _ _ (by omega)).trans h.c_tb,Zak _ _ _,(Zab _ _ (by omega)).trans h.c_held,(Zab _ _ (by omega)).trans h.c_cnt,(Zab _ _ (by omega)).trans h.c_dn⟩
theorem CC.s_held {F:Nat->Value} {N:Nat} {nx:Value} {wr:Int} {hd:Value} {T:Nat} {pu tb cu:Value} {held cnt:Nat} {dn:Bool} (h:CC F N nx wr hd T pu tb cu held cnt dn) (x:Nat):CC (upd F 8 (.int .i64 (x:Int))) N nx wr hd T pu tb cu x cnt dn:=⟨(Zab _ _ (by omega)).trans h.c_n0,(Zab _ _ (by omega)).trans h.c_nx,(Zab _ _ (by omega)).trans h.c_wr,(Zab _ _ (by omega)).trans h.c_hd,(Zab _ _ (by omega)).trans h.c_T,(Zab _ _ (by omega)).trans h.c_pu,(Zab _ _ (by omega)).trans h.c_tb,(Zab _ _ (by omega)).trans h.c_cu,Zak _ _ _,(Zab _ _ (by omega)).trans h.c_cnt,(Zab _ _ (by omega)).trans h.c_dn⟩
theorem CC.s_cnt {F:Nat->Value} {N:Nat} {nx:Value} {wr:Int} {hd:Value} {T:Nat} {pu tb cu:Value} {held cnt:Nat} {dn:Bool} (h:CC F N nx wr hd T pu tb cu held cnt dn) (x:Nat):CC (upd F 9 (.int .i64 (x:Int))) N nx wr hd T pu tb cu held x dn:=⟨(Zab _ _ (by omega)).trans h.c_n0,(Zab _ _ (by omega)).trans h.c_nx,(Zab _ _ (by omega)).trans h.c_wr,(Zab _ _ (by omega)).trans h.c_hd,(Zab _ _ (by omega)).trans h.c_T,(Zab _ _ (by omega)).trans h.c_pu,(Zab _ _ (by omega)).trans h.c_tb,(Zab _ _ (by omega)).trans h.c_cu,(Zab _ _ (by omega)).trans h.c_held,Zak _ _ _,(Zab _ _ (by omega)).trans h.c_dn⟩
theorem CC.s_dn {F:Nat->Value} {N:Nat} {nx:Value} {wr:Int} {hd:Value} {T:Nat} {pu tb cu:Value} {held cnt:Nat} {dn:Bool} (h:CC F N nx wr hd T pu tb cu held cnt dn) (x:Bool):CC (upd F 10 (.bool x)) N nx wr hd T pu tb cu held cnt x:=⟨(Zab _ _ (by omega)).trans h.c_n0,(Zab _ _ (by omega)).trans h.c_nx,(Zab _ _ (by omega)).trans h.c_wr,(Zab _ _ (by omega)).trans h.c_hd,(Zab _ _ (by omega)).trans h.c_T,(Zab _ _ (by omega)).trans h.c_pu,(Zab _ _ (by omega)).trans h.c_tb,(Zab _ _ (by omega)).trans h.c_cu,(Zab _ _ (by omega)).trans h.c_held,(Zab _ _ (by omega)).trans h.c_cnt,Zak _ _ _⟩
def mth (f b:Nat):Value:=.func (.func f) #[.pointer (some ⟨b,0,none⟩)] #[]
def nils:Value:=.slice none 0 0
def IsCR (w:World) (b N:Nat) (O:Nat->Prop):CSt->Prop
 | .fields=>∃F h pv o,ObjF 11 178 w b F/\CC F N (mth 237 b) 0 (ptr h) 0 nils (.pointer none) nils 0 0 false/\IsPk w h pv 0 0 [] o false/\O b/\∀k,foot h pv k->O k/\k≠b
 | .pick t n ps o=>∃F h pv,ObjF 11 178 w b F/\CC F N (mth 265 b) 0 (ptr h) 0 nils (.pointer none) nils ps.length 0 false/\IsPk w h pv t n ps o false/\O b/\∀k,foot h pv k->O k/\k≠b
 | .len t ps gs ls now=>∃F Pb d pu cu,ObjF 11 178 w b F/\CC F N (mth 298 b) 0 (.pointer none) t pu (ptr d) cu (ps.length+gs.length*N) 0 false/\IsDel w d N ls now false/\RowP w Pb pu (toI ps)/\Codes w Pb cu gs/\(∀k,cu.ownBlock=some k->pu.ownBlock≠some k)/\O b/\O d/\d≠b/\¬Pb b/\¬Pb d/\∀k,Pb k->O k/\k<w.heap.size
 | .sym t ps gs cnt done=>∃F Pb pu cu,ObjF 11 178 w b F/\CC F N (mth 296 b) 0 (.pointer none) t pu (.pointer none) cu (ps.length+gs.length*N) cnt done/\RowP w Pb pu (toI ps)/\Codes w Pb cu gs/\O b/\¬Pb b/\∀k,Pb k->O k/\k<w.heap.size
def CellsC (w:World) (b:Nat) (s:CSt) (N:Nat):Prop:=
 (∃f,w.cell? ⟨b,1,none⟩=some (.func (.func f) #[.pointer (some ⟨b,0,none⟩)] #[]))/\w.cell? ⟨b,2,none⟩=some (.int .i64 0)/\w.cell? ⟨b,8,none⟩=some (.int .i64 ((s.held N:Nat):Int))/\w.cell? ⟨b,9,none⟩=some (.int .i64 (s.cnt:Int))/\w.cell? ⟨b,10,none⟩=some (.bool s.done)
theorem Zap {w:World} {b:Nat} {F:Nat->Value} {N:Nat} {nx:Value} {wr:Int} {hd:Value} {T:Nat} {pu tb cu:Value} {held cnt:Nat} {dn:Bool} (h:ObjF 11 178 w b F) (c:CC F N nx wr hd T pu tb cu held cnt dn) :
  w.cell? ⟨b,0,none⟩=some (.int .i64 (N:Int))/\w.cell? ⟨b,1,none⟩=some nx/\w.cell? ⟨b,2,none⟩=some (.int .i64 wr)/\w.cell? ⟨b,3,none⟩=some hd/\w.cell? ⟨b,4,none⟩=some (.int .i64 (T:Int))/\w.cell? ⟨b,5,none⟩=some pu/\w.cell? ⟨b,6,none⟩=some tb/\w.cell? ⟨b,7,none⟩=some cu/\w.cell? ⟨b,8,none⟩=some (.int .i64 (held:Int))/\w.cell? ⟨b,9,none⟩=some (.int .i64 (cnt:Int))/\w.cell? ⟨b,10,none⟩=some (.bool dn):=by
 refine⟨?_,?_,?_,?_,?_,?_,?_,?_,?_,?_,?_⟩
 ·rw [(h.cell (i:=0) (by omega)).1,c.c_n0]
 ·rw [(h.cell (i:=1) (by omega)).1,c.c_nx]
 ·rw [(h.cell (i:=2) (by omega)).1,c.c_wr]
 ·rw [(h.cell (i:=3) (by omega)).1,c.c_hd]
 ·rw [(h.cell (i:=4) (by omega)).1,c.c_T]
 ·rw [(h.cell (i:=5) (by omega)).1,c.c_pu]
 ·rw [(h.cell (i:=6) (by omega)).1,c.c_tb]
 ·rw [(h.cell (i:=7) (by omega)).1,c.c_cu]
 ·rw [(h.cell (i:=8) (by omega)).1,c.c_held]
 ·rw [(h.cell (i:=9) (by omega)).1,c.c_cnt]
 ·rw [(h.cell (i:=10) (by omega)).1,c.c_dn]
theorem IsCR.cells {w:World} {b N:Nat} {O:Nat->Prop} {s:CSt} (h:IsCR w b N O s):CellsC w b s N:=by
 cases s with
 | fields=>
  obtain⟨F,g,pv,o,h1,h2,_⟩:=h;obtain⟨_,a1,a2,_,_,_,_,_,a8,a9,a10⟩:=Zap h1 h2;exact⟨⟨_,a1⟩,a2,a8,a9,a10⟩
 | pick t n ps o=>
  obtain⟨F,g,pv,h1,h2,_⟩:=h;obtain⟨_,a1,a2,_,_,_,_,_,a8,a9,a10⟩:=Zap h1 h2;exact⟨⟨_,a1⟩,a2,a8,a9,a10⟩
 | len t ps gs ls now=>
  obtain⟨F,Pb,d,pu,cu,h1,h2,_⟩:=h;obtain⟨_,a1,a2,_,_,_,_,_,a8,a9,a10⟩:=Zap h1 h2;exact⟨⟨_,a1⟩,a2,a8,a9,a10⟩
 | sym t ps gs cnt done=>
  obtain⟨F,Pb,pu,cu,h1,h2,_⟩:=h;obtain⟨_,a1,a2,_,_,_,_,_,a8,a9,a10⟩:=Zap h1 h2;exact⟨⟨_,a1⟩,a2,a8,a9,a10⟩
theorem IsCR.other {w w':World} {b N:Nat} {O S:Nat->Prop} {s:CSt} (h:IsCR w b N O s) (ht:Touch S w w') (hS:∀k,O k->¬S k):IsCR w' b N O s:=by
 cases s with
 | fields=>
  obtain⟨F,g,pv,o,h1,h2,h3,h4,h5⟩:=h;exact⟨F,g,pv,o,h1.other ht (hS b h4),h2,h3.other ht (fun k hk=>hS k (h5 k hk).1),h4,h5⟩
 | pick t n ps o=>
  obtain⟨F,g,pv,h1,h2,h3,h4,h5⟩:=h;exact⟨F,g,pv,h1.other ht (hS b h4),h2,h3.other ht (fun k hk=>hS k (h5 k hk).1),h4,h5⟩
 | len t ps gs ls now=>
  obtain⟨F,Pb,d,pu,cu,h1,h2,h3,h4,h5,h6,h7,h8,h9,h10,h11,h12⟩:=h;exact⟨F,Pb,d,pu,cu,h1.other ht (hS b h7),h2,h3.other ht (hS d h8),h4.other ht (fun k hk=>hS k (h12 k hk).1),h5.other ht (fun k hk=>hS k (h12 k hk).1),h6,h7,h8,h9,h10,h11,fun k hk=>⟨(h12 k hk).1,Nat.lt_of_lt_of_le (h12 k hk).2 ht.size⟩⟩
 | sym t ps gs cnt done=>
  obtain⟨F,Pb,pu,cu,h1,h2,h4,h5,h7,h10,h12⟩:=h;exact⟨F,Pb,pu,cu,h1.other ht (hS b h7),h2,h4.other ht (fun k hk=>hS k (h12 k hk).1),h5.other ht (fun k hk=>hS k (h12 k hk).1),h7,h10,fun k hk=>⟨(h12 k hk).1,Nat.lt_of_lt_of_le (h12 k hk).2 ht.size⟩⟩
def IsCB (w:World) (b:Nat) (er:Int) (O:Nat->Prop):Prop:=∃F f N hd T pu tb cu held cnt,ObjF 11 178 w b F/\CC F N (mth f b) er hd T pu tb cu held cnt false/\O b
theorem Zop (w:World):Calls Tryz.prog 72 #[.pointer none] w fun e w'=>e=.returned (.bool false)/\w'=w:=by
 go_enter Tryz.func72,Tryz.ntmps72;go_wp2_with fail;go_ret;exact⟨rfl,rfl⟩
theorem Ziw (b:Nat) (dn:Bool) (w:World) (h:w.cell? ⟨b,10,none⟩=some (.bool dn)):Calls Tryz.prog 72 #[.pointer (some ⟨b,0,none⟩)] w fun e w'=>e=.returned (.bool dn)/\w'=w:=by
 go_enter Tryz.func72,Tryz.ntmps72;go_wp2_with fail;go_ret;exact⟨rfl,rfl⟩
def Zfs (x y:Value) (i:Nat):Value:=if i=0 then x else if i=1 then Value.nilFunc else if i=3 then y else if i=5 then .slice none 0 0 else if i=6 then .pointer none else if i=7 then .slice none 0 0 else if i=10 then .bool false else .int .i64 0
theorem Zsw (x:Int) (y:Option Addr):Tryz.prog.built 178 [(0,.int .i64 x),(3,.pointer y)]=some (cellsF 11 (Zfs (.int .i64 x) (.pointer y))):=by kernel_rfl
theorem ZaH {P:Program} {ops:Array Oper} {rest:List Oper} {o:Oper} {a:Act} {w:World} {Q:Exit->Act->World->Prop} (hg:o.guard=none) (t:TypeId) (n m:Nat) (y z:Operand) (ho:o.op=.build t #[(n,y),(m,z)]) (v u:Value) (hy:a.eval y=v) (hz:a.eval z=u) (Z:Array Value)
  (hb:P.built t [(n,v),(m,u)]=some Z) (h:wpList P ops Q rest (a.put o.dst (.agg Z)) w):wpList P ops Q (o::rest) a w:=by
 subst hy hz;refine wpList_build hg t #[(n,y),(m,z)] ho ?_ ?_
 ·simp [hb]
 ·simpa [hb] using h
theorem ZqC (N:Nat) (w:World) (h3:3<=N) (h258:N<=258) :
  Calls Tryz.prog 189 #[.int .i64 (N:Int)] w fun e w'=>∃b,e=.returned (.tuple #[.pointer (some ⟨b,0,none⟩),.int .i64 0])/\IsCR w' b N (fun k=>w.heap.size<=k/\k<w'.heap.size) .fields/\Below w.heap.size w w':=by
 have HN:=zh (Zon (N:Int) true w ⟨fun _=>by omega,fun _=>rfl⟩);go_enter Tryz.func189,Tryz.ntmps189;go_wp2_with fail;refine HN.out.mono ?_;rintro e w' ⟨rfl,rfl⟩;go_wp2_with fail;refine(Zqx w').mono ?_;rintro e w1 ⟨rfl,hp1,hb1⟩;have HP1:=zh hp1;have HB1:=zh hb1;have hb:=Zsw (N:Int) (some ⟨w'.heap.size,0,none⟩);have HO:Hid (ObjF 11 178 (w1.alloc (.cells (cellsF 11 (Zfs (.int .i64 (N:Int)) (ptr w'.heap.size))) 178)) w1.heap.size (Zfs (.int .i64 (N:Int)) (ptr w'.heap.size))):=zh (heap_alloc_new w1 _);have HCC:Hid (CC (Zfs (.int .i64 (N:Int)) (ptr w'.heap.size)) N Value.nilFunc 0 (ptr w'.heap.size) 0 nils (.pointer none) nils 0 0 false):=zh ⟨rfl,rfl,rfl,rfl,rfl,rfl,rfl,rfl,rfl,rfl,rfl⟩;have hB2:=(Below.refl w1.heap.size w1).alloc (Nat.le_refl _) (.cells (cellsF 11 (Zfs (.int .i64 (N:Int)) (ptr w'.heap.size))) 178);have HB2:=zh hB2;obtain⟨B,hB⟩:∃B,w1.heap.size=B:=⟨_,rfl⟩
 have HBE:=zh hB;rw [hB] at HO;have f1:=(HO.out.cell (i:=1) (by omega)).2;have c1:_:=(HO.out.cell (i:=1) (by omega)).1;rw [HCC.out.c_nx] at c1;change Tryz.prog.built 178 [(0,.int .i64 (N:Int)),(3,.pointer (some ⟨w'.heap.size,0,none⟩))]=some (cellsF 11 (Zfs (.int .i64 (N:Int)) (ptr w'.heap.size))) at hb;clear hp1 hb1 hB2;generalize cellsF 11 (Zfs (.int .i64 (N:Int)) (ptr w'.heap.size))=Z at *;go_wp2_with (refine ZaH rfl 178 0 3 _ _ rfl _ _ rfl rfl Z hb ?_)
 try simp only [hB]
 go_ret2;have HSET:(w1.alloc (.cells Z 178)).setCell ⟨B,1,none⟩ (mth 237 B)=w1.alloc (.cells (Z.setIfInBounds 1 (mth 237 B)) 178):=World.setCell_alloc_at Z _ B 1 _ HBE.out.symm;have hs1:=HB1.out.size;have hs2:=HB2.out.size;have hl2:=HO.out.lt;have hlp:=HP1.out.lt;have hT:Touch (·=B) (w1.alloc (.cells Z 178)) ((w1.alloc (.cells Z 178)).setCell ⟨B,1,none⟩ (mth 237 B)):=Zaa (Touch.refl _ _);have hne:∀k,foot w'.heap.size (.slice none 0 0) k->k<B:=fun k hk=>by have:=hlp k hk;have:=HBE.out;omega
 have key:IsCR ((w1.alloc (.cells Z 178)).setCell ⟨B,1,none⟩ (mth 237 B)) B N (fun k=>w'.heap.size<=k/\k<((w1.alloc (.cells Z 178)).setCell ⟨B,1,none⟩ (mth 237 B)).heap.size) .fields/\Below w'.heap.size w' ((w1.alloc (.cells Z 178)).setCell ⟨B,1,none⟩ (mth 237 B)):=by
  refine⟨⟨_,w'.heap.size,.slice none 0 0,_,HO.out.set 1 _,HCC.out.s_nx _,(HP1.out.below HB2.out).other hT (fun k hk e=>by have h1:=hne k hk;have h2:k=B:=e;omega),⟨by have:=HBE.out;omega,Nat.lt_of_lt_of_le hl2 hT.size⟩,fun k hk=>?_⟩,?_⟩
  ·have h1:=hne k hk;have h2:=hlp k hk;exact⟨⟨h2.1,by have:=hT.size;have:=HBE.out;omega⟩,by omega⟩
  ·exact(HB1.out.trans (HB2.out.mono HB1.out.size)).trans (hT.below (by omega) (fun i hi=>by have h2:i=B:=hi;have:=HBE.out;omega))
 rw [HSET] at key;exact⟨B,rfl,key.1,key.2⟩
theorem Zmw (b:Nat) (F:Nat->Value) (N:Nat) (nx hd:Value) (T:Nat) (a:Option Addr) (c:Nat) (pu tb:Value) (held cnt:Nat) (w:World) (h:ObjF 11 178 w b F) (hc:CC F N nx 0 hd T pu tb (.slice a T c) held cnt false) :
  Calls Tryz.prog 284 #[.pointer (some ⟨b,0,none⟩)] w fun e w'=>e=.returned (.tuple #[])/\(∃F',ObjF 11 178 w' b F'/\CC F' N (mth 296 b) 0 hd T pu (.pointer none) (.slice a T c) held cnt false)/\Touch (·=b) w w':=by
 obtain⟨c0,c1,c2,c3,c4,c5,c6,c7,c8,c9,c10⟩:=Zap h hc;have HO:=zh (fun m=>h.drewN m);have HC:=zh hc;have z1:((T:Int)==(T:Int))=true:=by simp
 clear h hc;go_enter Tryz.func284,Tryz.ntmps284;go_wp2_with fail
 go_quiet (fail)
 rename_i nq;have f6:=((HO.out nq).cell (i:=6) (by omega)).2;have d6:=((HO.out nq).cell (i:=6) (by omega)).1;have HO2:=zh ((HO.out nq).set 6 (.pointer none));have f1:=(HO2.out.cell (i:=1) (by omega)).2;have d1:=(HO2.out.cell (i:=1) (by omega)).1;have HT:Hid (Touch (·=b) w (w.drewN nq)):=zh (Zad _ _ nq);clear c0 c1 c2 c3 c4 c5 c6 c7 c8 c9 c10;clear HO;generalize w.drewN nq=w1 at *;go_wp2_with fail
 (try simp only [Exit.inBlock,Exit.then])
 refine bodyPost_ret (results_none rfl _ _ _) rfl ?_;exact⟨rfl,⟨_,HO2.out.set 1 _,(HC.out.s_tb _).s_nx _⟩,Zaa (Zaa HT.out)⟩
theorem ZgB (b:Nat) (F:Nat->Value) (N:Nat) (nx hd:Value) (T:Nat) (a:Option Addr) (m c:Nat) (pu tb:Value) (held cnt:Nat) (w:World) (h:ObjF 11 178 w b F) (hc:CC F N nx 0 hd T pu tb (.slice a m c) held cnt false) (hm:m≠T) (h3:3<=N) (h258:N<=258) :
  Calls Tryz.prog 284 #[.pointer (some ⟨b,0,none⟩)] w fun e w'=>e=.returned (.tuple #[])/\(∃F',ObjF 11 178 w' b F'/\CC F' N (mth 298 b) 0 hd T pu (ptr w.heap.size) (.slice a m c) held cnt false)/\IsDel w' w.heap.size N [] 0 false/\Touch (·=b) w w':=by
 obtain⟨c0,c1,c2,c3,c4,c5,c6,c7,c8,c9,c10⟩:=Zap h hc;have HO:=zh (fun m=>h.drewN m);have HC:=zh hc;have z1:((m:Int)==(T:Int))=false:=by rw [beq_eq_false_iff_ne];omega
 have hbl:=h.lt;clear h hc hm;go_enter Tryz.func284,Tryz.ntmps284;go_wp2_with fail
 go_quiet (fail)
 rename_i nq;have d0:(w.drewN nq).cell? ⟨b,0,none⟩=some (.int .i64 (N:Int)):=c0;have HON:=zh (HO.out nq);have HT:Hid (Touch (·=b) w (w.drewN nq)):=zh (Zad _ _ nq);have hsz:(w.drewN nq).heap.size=w.heap.size:=rfl;have HSZ:=zh hsz;clear c0 c1 c2 c3 c4 c5 c6 c7 c8 c9 c10 hsz;clear HO;generalize w.drewN nq=w1 at *;go_wp2_with fail;refine(ZqA N w1 h3 h258).mono ?_;rintro e w2 ⟨rfl,hd2,hb2⟩;rw [HSZ.out] at hd2 ⊢;have HD2:=zh hd2;have HO2:=zh (HON.out.below hb2 (by rw [HSZ.out];exact hbl));have HT2:Hid (Touch (·=b) w w2):=zh (HT.out.trans (Touch.ofBelow (S:=fun _=>False) hb2) (fun _ h=>absurd h id));have f6:=(HO2.out.cell (i:=6) (by omega)).2;have e6:=(HO2.out.cell (i:=6) (by omega)).1;have HO3:=zh (HO2.out.set 6 (ptr w.heap.size));have f1:=(HO3.out.cell (i:=1) (by omega)).2;have e1:=(HO3.out.cell (i:=1) (by omega)).1;obtain⟨D,hD⟩:∃D,w.heap.size=D:=⟨_,rfl⟩
 rw [hD] at HD2 HO3 f1 e1 ⊢;have hbD:D≠b:=by omega
 clear hd2 hb2;unfold ptr at f1 e1;go_wp2_with fail;go_end0;have hTf:Touch (·=b) w2 ((w2.setCell ⟨b,6,none⟩ (ptr D)).setCell ⟨b,1,none⟩ (mth 298 b)):=Zaa (Zaa (Touch.refl _ _));rw [hD];exact⟨rfl,⟨_,HO3.out.set 1 _,(HC.out.s_tb _).s_nx _⟩,HD2.out.other hTf (fun e=>hbD e),Zaa (Zaa HT2.out)⟩
end
end Go.Proofs.YtnachbjhhpnadaaGreatDoor
