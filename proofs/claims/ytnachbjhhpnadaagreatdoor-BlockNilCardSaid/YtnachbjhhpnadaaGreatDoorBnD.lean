import Derived.Test.YtnachbjhhpnadaaGreatDoorBcA
import Derived.Test.YtnachbjhhpnadaaGreatDoorBcB
import Derived.Test.YtnachbjhhpnadaaGreatDoorBcC
import Derived.Test.YtnachbjhhpnadaaGreatDoorBcD
import Derived.Test.YtnachbjhhpnadaaGreatDoorBcE
import Derived.Test.YtnachbjhhpnadaaGreatDoorBcF
import Derived.Test.YtnachbjhhpnadaaGreatDoorBcG
import Derived.Test.YtnachbjhhpnadaaGreatDoorBcI
import Derived.Test.YtnachbjhhpnadaaGreatDoorBcM
import Derived.Test.YtnachbjhhpnadaaGreatDoorBcP
import Derived.Test.YtnachbjhhpnadaaGreatDoorBnA
import Derived.Test.YtnachbjhhpnadaaGreatDoorBnC
import Derived.BigRegion
import Derived.Test.YtnachbjhhpnadaaGreatDoorCards
import Derived.Test.YtnachbjhhpnadaaGreatDoorTie
import Derived.LaidMore
import Derived.Stop.Joined
import Derived.Laws.OwnMore
import Derived.Laws.AppendOwnNone
import Derived.StillTailTactics
import Derived.BigQuiet
import Derived.Shelf.Abstract
import Derived.Laws.CopyRow
import Derived.Deep.Cut
import Derived.Lib.SliceRun
import Derived.IntWalk
import Derived.Deep.LoopGhost
import Derived.Laws.BitsAllLaws
import Derived.Deep.RegionHeld3
set_option linter.unusedVariables false
set_option linter.unusedSimpArgs false
set_option maxHeartbeats 8000000
set_option maxRecDepth 100000
namespace Go.Proofs.YtnachbjhhpnadaaGreatDoor
section
open Go.RowKit BwtM SrtM PkM
section
variable {B : Nat} {b bo bc ba n : Nat} {vk vw : Value} {kb Z : List Nat} {S : SS}
theorem Zwn {T:List UInt8} {ps:List Part} (h:∀q∈ps,Fits T.length q):ps.length<=costs ps:=by
 induction ps with
 | nil=>exact Nat.zero_le _
 | cons p ps ih=>
  have h1:=ih (fun q hq=>h q (List.mem_cons_of_mem _ hq))
  have h2:1<=p.cost:=by
   obtain⟨f1,f2,f3⟩:=h p (List.mem_cons_self ..);unfold Part.cost;split
   ·rename_i hb;have:=f3 hb;omega
   ·exact Zvb _
  unfold costs at h1 ⊢;rw [List.map_cons,List.sum_cons,List.length_cons];omega
theorem Zv0 {T:List UInt8} {K:Nat->Nat} {ps:List Part} {p:Part} {A:List Nat} {m R:Nat} (h:Srt T K S ps p A m R):ps.length<=R+3*T.length:=by
 have hl:=h.left;rw [ZiS] at hl;have h1:=Zwn (fun q hq=>h.fits q (List.mem_append_left _ hq));have hf:=h.fit;rcases h.top with⟨_,e1,e2,e3,_⟩|⟨hb,_⟩
 ·omega
 ·have hbd:=h.bounds hb;have hla:=(h.on hb).2.1;omega
theorem Zv1 {T:List UInt8} {K:Nat->Nat} {ps:List Part} {A:List Nat} {m R:Nat} (hT:T.length=n) (h0:0<n) (hz:S.laid=0/\S.first=0/\S.second=0) (hm:S.made=0) (h:(∃ps2 q,ps=ps2++[q]/\Srt T K S ps2 q A m R)\/(ps=[]/\Num T K S m R)):Due T K S n R:=by
 rcases h with⟨ps2,q,_,h⟩|⟨_,h⟩
 ·refine Or.inl ⟨ps2,q,A,m,h,fun hb=>?_⟩;have:=(h.fits q (by simp)).2.2 hb;omega
 ·exact Or.inr ⟨m,h,by omega⟩
theorem Zv2 (T:List UInt8) (K:Nat->Nat) (w:World) (m R k:Nat) (h:IsSo B w b bo bc ba vk vw n (kb++Z) S) (hK:KeyH T (bytesBy S.reach) K) (hkey:KeyV w vk kb bc n S.cls K) (hKb:∀i,i<n->K i<=1000000000000) (hN:Num T K S m R) (hmd:S.made<n) (hT:T.length=n) (h0:0<n) (hn:n<=900000) (hrc:S.reach<=2*n) (hkz:∀g∈kb,g∉Z)
  (hk1:1<=k) (hk:k<=9223372036854775807) (hb:B<=w.heap.size) :
  Calls Tryz.prog 211 #[.pointer (some ⟨b,0,none⟩),.int .i64 (k:Int)] w fun e w'=>SomeP B w w' b n T Z S.steps R k e:=by
 have hw:=h.wt;rw [hN.stk] at hw;obtain⟨wa,wc,hwe⟩:=hw.slice;have hwe:vw=.slice wa 0 wc:=hwe;subst hwe;have HC:=zh (Zvw T K w m R k h hK hkey hKb hN hmd hT h0 hn hrc hkz hk1 hk hb);obtain⟨_,_,_,_,_,d5,_⟩:=h.obj.cells;clear h hK hkey hN hw hrc hT hmd;go_enter Tryz.func211,Tryz.ntmps211;go_wp2_with fail;refine HC.out.mono ?_;rintro e w5 ⟨g,rfl,hg,hs,hB,hZ⟩;have HR:Hid (SomeP B w w5 b n T Z S.steps R k (.returned (.int .i64 (g:Int)))):=zh ⟨g,rfl,hg,hs,hB,hZ⟩;clear hg hs hB hZ;go_wp2_with fail;go_ret;exact HR.out
theorem ZuF {T:List UInt8} {K:Nat->Nat} {w w1 w':World} {R k g:Nat} {vw':Value} {S':SS} (hkz:∀g∈kb,g∉Z) (hK:KeyH T (bytesBy S.reach) K) (hkey:KeyV w1 vk kb bc n S.cls K) (hKb:∀i,i<n->K i<=1000000000000) (hrc:S.reach<=2*n) (hI:IsSo B w' b bo bc ba vk vw' n (kb++Z) S')
  (h1:S'.steps=S.steps) (h2:S'.reach=S.reach) (h3:S'.cls=S.cls) (hd:Due T K S' n (R-g)) (hg:1<=g/\g<=k/\g<=R) (hB:Below B w w') (hkb:KbSame w w' (kb++Z)) (hkb1:KbSame w1 w' (kb++Z)):SomeP B w w' b n T Z S.steps R k (.returned (.int .i64 (g:Int))):=
 ⟨g,rfl,hg,⟨bo,bc,ba,vk,vw',kb,S',hI,⟨h1,by rw [h2];exact hrc,hkz⟩,Or.inr ⟨K,by rw [h2];exact hK,by rw [h3];exact hkey.same (fun g hg=>hkb1 g (List.mem_append_left _ hg)),hKb,hd⟩⟩,hB,hkb.part⟩
theorem ZwD {A O:List Nat} {a lo g:Nat} (ha:a+g<=A.length) (ho:lo+a+g<=O.length) :
  (∀i,i<a->(A.take a++(O.drop (lo+a)).take g++A.drop (a+g)).getD i 0=A.getD i 0)/\∀i,a<=i->i<a+g->(A.take a++(O.drop (lo+a)).take g++A.drop (a+g)).getD i 0=O.getD (lo+i) 0:=by
 have l1:(A.take a).length=a:=by rw [List.length_take];omega
 have l2:((O.drop (lo+a)).take g).length=g:=by rw [List.length_take,List.length_drop];omega
 constructor
 ·intro i hi;rw [List.append_assoc,List.getD_eq_getElem?_getD,List.getElem?_append_left (by omega),List.getElem?_take_of_lt hi,List.getD_eq_getElem?_getD]
 ·intro i h1 h2;rw [List.append_assoc,Zgc (by omega),l1,List.getD_eq_getElem?_getD,List.getElem?_append_left (by omega),List.getElem?_take_of_lt (by omega),List.getElem?_drop,List.getD_eq_getElem?_getD];congr 2;omega
theorem Zv3 (T:List UInt8) (K:Nat->Nat) (w:World) (ps:List Part) (p:Part) (A:List Nat) (m R k:Nat) (h:IsSo B w b bo bc ba vk vw n (kb++Z) S) (hK:KeyH T (bytesBy S.reach) K) (hkey:KeyV w vk kb bc n S.cls K) (hKb:∀i,i<n->K i<=1000000000000) (hS:Srt T K S ps p A m R) (hsz:p.begun=true->S.first+S.second<p.hi-p.lo) (hT:T.length=n) (h0:0<n) (hn:n<=20000) (hrc:S.reach<=2*n) (hkz:∀g∈kb,g∉Z) (hR:R<=800000)
  (hk1:1<=k) (hk:k<=9223372036854775807) (hb:B<=w.heap.size) :
  Calls Tryz.prog 211 #[.pointer (some ⟨b,0,none⟩),.int .i64 (k:Int)] w fun e w'=>SomeP B w w' b n T Z S.steps R k e:=by
 have hdep:=Zv0 hS;have hfit:=hS.fit;rw [hT] at hdep hfit;obtain⟨f1,f2,f3,f4,f5⟩:=hfit;have H0:=zh h;have HS:=zh hS;have HKV:=zh hkey;have HK:=zh hK;have HSTK:=zh hS.stk;have HSZ:=zh hsz;have HHT:=zh hT;have hw:=h.wt;rw [hS.stk] at hw;obtain⟨g,cap,rfl,hBg,hgl,hcap,c0,c1,c2,fz2⟩:=hw.top;obtain⟨L,hL⟩:∃L,ps.length=L:=⟨_,rfl⟩
 rw [hL] at hcap c0 c1 c2 fz2 hdep H0;have HL:=zh hL;have hix:=fun W=>ZuX g L cap (by omega) W
 have hLi2:((L:Int)+1)-1=(L:Int):=by omega
 have hLw:IntKind.i64.wrap (L:Int)=(L:Int):=IntWalk.i64_in _ (by omega);have hLw2:IntKind.i64.wrap ((L:Int)+1-1)=(L:Int):=by rw [hLi2];exact hLw
 obtain⟨_,_,_,_,_,d5,_⟩:=H0.out.obj.cells;have hL0:(((L+1:Nat):Int)==0)=false:=by rw [beq_eq_false_iff_ne];omega
 have hL0':((L:Int)+1==0)=false:=by rw [beq_eq_false_iff_ne];omega
 have HRC:=zh hrc;have HKZ:=zh hkz;have HKB:=zh hKb;have HHB:=zh hb;have HRR:=zh hR;have HBS:=zh h.base.1;have hfi:=hS.fits p (by simp);rw [hT] at hfi;have HFI:=zh hfi;clear h hK hkey hS hw hrc hT hL hKb hfi hkz;go_enter Tryz.func211,Tryz.ntmps211;go_wp2_with fail;have hgl2:g<w.drew.heap.size:=hgl;have hgb5:b<w.drew.heap.size:=H0.out.obj.lt;have hSS:(fun W:World=>W.cell? ⟨b,5,none⟩=some (.slice (some ⟨g,0,none⟩) (L+1) cap)/\W.cell? ⟨g,L*3,none⟩=some (.int .i64 (p.lo:Int))/\W.cell? ⟨g,L*3+1,none⟩=some (.int .i64 (p.hi:Int))/\W.cell? ⟨g,L*3+2,none⟩=some (.bool p.begun)) w.drew:=⟨d5,c0,c1,c2⟩
 have hSX:(fun W:World=>W.cell? ⟨b,5,none⟩=some (.slice (some ⟨g,0,none⟩) (L+1) cap)/\W.cell? ⟨g,L*3,none⟩=some (.int .i64 (p.lo:Int))/\W.cell? ⟨g,L*3+1,none⟩=some (.int .i64 (p.hi:Int))/\W.cell? ⟨g,L*3+2,none⟩=some (.bool p.begun)) (w.drew.alloc (.cells #[.int .i64 0,.int .i64 0,.bool false] 308)):=
  ⟨(World.cell?_alloc_some w.drew _ _ (by rw [hSS.1];rfl)).trans hSS.1,(World.cell?_alloc_some w.drew _ _ (by rw [hSS.2.1];rfl)).trans hSS.2.1,(World.cell?_alloc_some w.drew _ _ (by rw [hSS.2.2.1];rfl)).trans hSS.2.2.1,(World.cell?_alloc_some w.drew _ _ (by rw [hSS.2.2.2];rfl)).trans hSS.2.2.2⟩
 refine Zdg 13 (fun W:World=>W.cell? ⟨b,5,none⟩=some (.slice (some ⟨g,0,none⟩) (L+1) cap)/\W.cell? ⟨g,L*3,none⟩=some (.int .i64 (p.lo:Int))/\W.cell? ⟨g,L*3+1,none⟩=some (.int .i64 (p.hi:Int))/\W.cell? ⟨g,L*3+2,none⟩=some (.bool p.begun)) (by kernel_rfl) ?_;refine Zag (i:=0) rfl (by kernel_rfl) (by kernel_rfl) (by kernel_rfl) (by kernel_rfl) (fun _ _ _ h=>h) (v:=?_) (Or.inl ⟨by rfl,?_⟩) hSS ?_;rotate_left
 ·rintro W ⟨k5,kp0,kp1,kp2⟩
  go_simp
  try with_reducible rfl
 try simp only [Act.put,List.setIfInBounds_toArray,List.set_cons_zero,List.set_cons_succ]
 refine Zag (i:=1) rfl (by kernel_rfl) (by kernel_rfl) (by kernel_rfl) (by kernel_rfl) (fun _ _ _ h=>h) (v:=?_) (Or.inl ⟨by rfl,?_⟩) hSS ?_;rotate_left
 ·rintro W ⟨k5,kp0,kp1,kp2⟩
  go_simp
  try with_reducible rfl
 try simp only [Act.put,List.setIfInBounds_toArray,List.set_cons_zero,List.set_cons_succ]
 refine Zag (i:=2) rfl (by kernel_rfl) (by kernel_rfl) (by kernel_rfl) (by kernel_rfl) (fun _ _ _ h=>h) (v:=?_) (Or.inl ⟨by rfl,?_⟩) hSS ?_;rotate_left
 ·rintro W ⟨k5,kp0,kp1,kp2⟩
  go_simp
  try with_reducible rfl
 try simp only [Act.put,List.setIfInBounds_toArray,List.set_cons_zero,List.set_cons_succ]
 refine Zag (i:=3) rfl (by kernel_rfl) (by kernel_rfl) (by kernel_rfl) (by kernel_rfl) (fun _ _ _ h=>h) (v:=?_) (Or.inl ⟨by rfl,?_⟩) hSS ?_;rotate_left
 ·rintro W ⟨k5,kp0,kp1,kp2⟩
  go_simp
  try with_reducible rfl
 try simp only [Act.put,List.setIfInBounds_toArray,List.set_cons_zero,List.set_cons_succ]
 refine Zag (i:=4) rfl (by kernel_rfl) (by kernel_rfl) (by kernel_rfl) (by kernel_rfl) (fun _ _ _ h=>h) (v:=?_) (Or.inl ⟨by rfl,?_⟩) hSS ?_;rotate_left
 ·rintro W ⟨k5,kp0,kp1,kp2⟩
  go_simp
  try with_reducible rfl
 try simp only [Act.put,List.setIfInBounds_toArray,List.set_cons_zero,List.set_cons_succ]
 refine Zag (i:=5) rfl (by kernel_rfl) (by kernel_rfl) (by kernel_rfl) (by kernel_rfl) (fun _ _ _ h=>h) (v:=?_) (Or.inl ⟨by rfl,?_⟩) hSS ?_;rotate_left
 ·rintro W ⟨k5,kp0,kp1,kp2⟩
  go_simp
  try with_reducible rfl
 try simp only [Act.put,List.setIfInBounds_toArray,List.set_cons_zero,List.set_cons_succ]
 refine Zag (i:=6) rfl (by kernel_rfl) (by kernel_rfl) (by kernel_rfl) (by kernel_rfl) (fun _ _ _ h=>h) (v:=?_) (Or.inl ⟨by rfl,?_⟩) hSS ?_;rotate_left
 ·rintro W ⟨k5,kp0,kp1,kp2⟩
  go_simp
  try with_reducible rfl
 try simp only [Act.put,List.setIfInBounds_toArray,List.set_cons_zero,List.set_cons_succ]
 refine Zag (i:=7) rfl (by kernel_rfl) (by kernel_rfl) (by kernel_rfl) (by kernel_rfl) (fun _ _ _ h=>h) (v:=?_) (Or.inl ⟨by rfl,?_⟩) hSS ?_;rotate_left
 ·rintro W ⟨k5,kp0,kp1,kp2⟩
  go_simp
  try with_reducible rfl
 try simp only [Act.put,List.setIfInBounds_toArray,List.set_cons_zero,List.set_cons_succ]
 refine Zag (i:=8) rfl (by kernel_rfl) (by kernel_rfl) (by kernel_rfl) (by kernel_rfl) (fun _ _ _ h=>h) (v:=?_) (Or.inl ⟨by rfl,?_⟩) hSS ?_;rotate_left
 ·rintro W ⟨k5,kp0,kp1,kp2⟩
  go_simp
  try with_reducible rfl
 try simp only [Act.put,List.setIfInBounds_toArray,List.set_cons_zero,List.set_cons_succ]
 refine Zag (i:=9) rfl (by kernel_rfl) (by kernel_rfl) (by kernel_rfl) (by kernel_rfl) (fun _ _ _ h=>h) (v:=?_) (Or.inl ⟨by rfl,?_⟩) hSS ?_;rotate_left
 ·rintro W ⟨k5,kp0,kp1,kp2⟩
  go_simp
  try with_reducible rfl
 try simp only [Act.put,List.setIfInBounds_toArray,List.set_cons_zero,List.set_cons_succ]
 refine Zag (i:=10) rfl (by kernel_rfl) (by kernel_rfl) (by kernel_rfl) (by kernel_rfl) (fun _ _ _ h=>h) (v:=?_) (Or.inl ⟨by rfl,?_⟩) hSS ?_;rotate_left
 ·rintro W ⟨k5,kp0,kp1,kp2⟩
  go_simp
  try with_reducible rfl
 try simp only [Act.put,List.setIfInBounds_toArray,List.set_cons_zero,List.set_cons_succ]
 refine Zag (i:=11) rfl (by kernel_rfl) (by kernel_rfl) (by kernel_rfl) (by kernel_rfl) (fun _ _ _ h=>h) (v:=?_) (Or.inl ⟨by rfl,?_⟩) hSS ?_;rotate_left
 ·rintro W ⟨k5,kp0,kp1,kp2⟩
  go_simp
  try with_reducible rfl
 try simp only [Act.put,List.setIfInBounds_toArray,List.set_cons_zero,List.set_cons_succ]
 refine Zao (rs:=[12]) (by kernel_rfl) (by simp) ?_;intro i hi;simp only [List.mem_cons,List.not_mem_nil,or_false] at hi;subst hi;refine ZaJ rfl ?_;intro KC hKC
 go_simp
 refine hKC _ _ ⟨fun _=>hSX,?_⟩
 try simp only [Act.put,List.setIfInBounds_toArray,List.set_cons_zero,List.set_cons_succ]
 clear hKC;refine Zao (rs:=[13]) (by kernel_rfl) (by simp) ?_;intro i hi;simp only [List.mem_cons,List.not_mem_nil,or_false] at hi;subst hi;refine ZaJ rfl ?_;intro KC hKC;rw [if_pos (by rfl)];refine wp_store_row 308 _ _ rfl w.heap.size #[.int .i64 (p.lo:Int),.int .i64 (p.hi:Int),.bool p.begun] (by rfl) (by rfl) 308 #[.int .i64 0,.int .i64 0,.bool false] (heap_alloc_new w.drew _) pinfo rfl (by kernel_rfl) ?_;refine hKC _ _ ⟨fun h=>absurd rfl h,?_⟩;refine Zdf (by kernel_rfl) ?_ _
 try simp only [Act.put,List.setIfInBounds_toArray,List.set_cons_zero,List.set_cons_succ]
 have hS0:(w.alloc (.cells #[.int .i64 0,.int .i64 0,.bool false] 308)).drew.heap.size=w.heap.size+1:=by simp
 have HG1:Hid (((w.alloc (.cells #[.int .i64 0,.int .i64 0,.bool false] 308)).drew.setRow w.heap.size #[.int .i64 (p.lo:Int),.int .i64 (p.hi:Int),.bool p.begun]).heap[w.heap.size]?=some (.cells #[.int .i64 (p.lo:Int),.int .i64 (p.hi:Int),.bool p.begun] 308 (0,0))):=zh (setRow_heap _ _ _ _ _ _ (heap_alloc_new w.drew _))
 have HB1:Hid (Below w.heap.size w ((w.alloc (.cells #[.int .i64 0,.int .i64 0,.bool false] 308)).drew.setRow w.heap.size #[.int .i64 (p.lo:Int),.int .i64 (p.hi:Int),.bool p.begun])):=zh (
  ⟨rfl,rfl,rfl,by rw [Zaw,hS0];omega,fun k hk=>(setRow_other _ _ k _ (by omega)).trans (Zam (w:=w.drew) hk)⟩)
 have HS1:Hid (w.heap.size<((w.alloc (.cells #[.int .i64 0,.int .i64 0,.bool false] 308)).drew.setRow w.heap.size #[.int .i64 (p.lo:Int),.int .i64 (p.hi:Int),.bool p.begun]).heap.size):=zh (by rw [Zaw,hS0];omega);clear hS0 hSX hSS hKC;generalize (w.alloc (.cells #[.int .i64 0,.int .i64 0,.bool false] 308)).drew.setRow w.heap.size #[.int .i64 (p.lo:Int),.int .i64 (p.hi:Int),.bool p.begun]=w1 at *;obtain⟨pb,hpb⟩:∃pb,w.heap.size=pb:=⟨_,rfl⟩
 have HPB:=zh hpb;rw [hpb] at HG1 HS1 ⊢;clear hpb;have H1:=zh (H0.out.below HB1.out);have hbw1:B<=w1.heap.size:=Nat.le_trans hb HB1.out.size;have HBB1:Hid (Below B w w1):=zh (HB1.out.mono hb);have HK1:Hid (KbSame w w1 (kb++Z)):=zh (fun x hx=>HB1.out.block x (H0.out.kap x hx).1);have HKV1:=zh (HKV.out.same (fun g hg=>HK1.out g (List.mem_append_left _ hg)));clear d5 c0 c1 c2 fz2 hgl2 hgb5;obtain⟨bg,hbg⟩:∃bg,p.begun=bg:=⟨_,rfl⟩
 rw [hbg] at HG1 ⊢;have g0:w1.cell? ⟨pb,0,none⟩=some (.int .i64 (p.lo:Int)):=by rw [cell_of_row _ _ 0 _ _ _ HG1.out];rfl
 have g1:w1.cell? ⟨pb,1,none⟩=some (.int .i64 (p.hi:Int)):=by rw [cell_of_row _ _ 1 _ _ _ HG1.out];rfl
 have g2:w1.cell? ⟨pb,2,none⟩=some (.bool bg):=by rw [cell_of_row _ _ 2 _ _ _ HG1.out];rfl
 have hu:=Tryz.underlying308;have hpi:=pinfo;have HBG:=zh hbg;have hg:=HG1.out;cases bg with
 | false=>
  by_cases hsm:p.hi-p.lo<2
  ·have HC:=zh (Zve w1 ps p H1.out HSTK.out (by have:=HL.out;omega) (by have:=HFI.out;omega) (by omega) hsm hbw1);rw [hbg] at HC;have HM:=zh (HS.out.small hbg hsm (S':=popS S ps) rfl ⟨rfl,rfl,rfl⟩ rfl rfl rfl);clear hbg;go_wp2_with (refine wpList_load_row rfl 308 _ rfl pb rfl 308 #[.int .i64 (p.lo:Int),.int .i64 (p.hi:Int),.bool false] (0,0) _ hg hu rfl hpi ?_);refine HC.out.mono ?_;rintro e w5 ⟨rfl,vw5,hI5,hB5,hK5⟩;have HR:Hid (SomeP B w w5 b n T Z S.steps R k (.returned (.int .i64 ((1:Nat):Int)))):=zh (ZuF HKZ.out HK.out HKV.out HKB.out HRC.out hI5 rfl rfl rfl (Zv1 HHT.out h0 ⟨rfl,rfl,rfl⟩ HS.out.made HM.out.2) ⟨Nat.le_refl _,hk1,HM.out.1⟩ (HBB1.out.trans hB5) (HK1.out.trans hK5) (HK1.out.trans hK5));clear hI5 hB5 hK5;go_wp2_with fail;go_ret;exact HR.out
  ·have HC:=zh (ZvH w1 ps p H1.out HSTK.out (by have:=HL.out;omega) (by have:=HFI.out;omega) (by omega) (by omega) hbw1);rw [hbg] at HC;have HM:=zh (HS.out.halves hbg (by omega) (S':=halvesS S ps p) rfl ⟨rfl,rfl,rfl⟩ rfl rfl rfl);clear hbg;go_wp2_with (refine wpList_load_row rfl 308 _ rfl pb rfl 308 #[.int .i64 (p.lo:Int),.int .i64 (p.hi:Int),.bool false] (0,0) _ hg hu rfl hpi ?_);refine HC.out.mono ?_;rintro e w5 ⟨rfl,vw5,hI5,hB5,hK5⟩;have HR:Hid (SomeP B w w5 b n T Z S.steps R k (.returned (.int .i64 ((1:Nat):Int)))):=zh (ZuF HKZ.out HK.out HKV.out HKB.out HRC.out hI5 rfl rfl rfl (Or.inl ⟨_,_,A,m,HM.out.2,fun e=>by cases e⟩) ⟨Nat.le_refl _,hk1,HM.out.1⟩ (HBB1.out.trans hB5) (HK1.out.trans hK5) (HK1.out.trans hK5));clear hI5 hB5 hK5;go_wp2_with fail;go_ret;exact HR.out
 | true=>
  have hfi:=HFI.out;have hbig:p.lo+2<=p.hi:=hfi.2.2 hbg;obtain⟨o1,o2,o3,o4,o5⟩:=HS.out.on hbg;have HBD:=zh (HS.out.bounds hbg);have hmn:p.mid<n:=by omega
  obtain⟨g1',hg1'⟩:∃g1',g1'=min k (p.mid-p.lo-S.laid):=⟨_,rfl⟩
  have HGE:=zh hg1';have hgs:g1'<=k/\S.laid+g1'<=p.mid-p.lo/\(g1'<k->S.laid+g1'=p.mid-p.lo):=by omega
  have H1p:Hid (IsSo B w1 b bo bc ba vk (.slice (some ⟨g,0,none⟩) (L+1) cap) n ((kb++Z)++[pb]) S):=zh (H1.out.keyed _ (fun x hx=>by
   rcases List.mem_append.1 hx with hx|hx
   ·exact H1.out.kap x hx
   ·rw [List.mem_singleton] at hx;subst hx;have l1:=H0.out.obj.lt;have l2:=H0.out.ro.lt;have l3:=H0.out.rc.lt;have l4:=H0.out.ra.lt;have e:=HPB.out;exact⟨HS1.out,by omega,by omega,by omega,by omega,fun e2=>by have:=(H0.out.wt.lt x e2).2;omega⟩))
  have HKVp:=zh ((HKV1.out.more Z).more [pb]);have HC:=zh (Zwj w1 p k g1' H1p.out (by omega) hmn f3 (by omega) hk hg1' hbw1);have hasd:=ZwD (A:=S.asd) (O:=S.ord) (a:=S.laid) (lo:=p.lo) (g:=g1') (by rw [H1.out.la];omega) (by rw [H1.out.lo];omega);have HM:=zh (HS.out.lay hbg g1' hgs.2.1 (S':=layS S p.lo g1') rfl ⟨rfl,rfl,rfl⟩ rfl rfl rfl hasd.1 hasd.2);rw [hbg] at HC;have hgk:=hgs.1;have HGS:=zh hgs;obtain⟨k2,hk2⟩:∃k2,k-g1'=k2:=⟨_,rfl⟩
  have HK2:=zh hk2;have hk2i:(k:Int)-(g1':Int)=(k2:Int):=by omega
  have hk2w:IntKind.i64.wrap (k2:Int)=(k2:Int):=IntWalk.i64_in _ (by omega);have HF:=zh (And.intro f1 (And.intro f2 (And.intro f3 hbig)));have hszm:p.hi-p.lo<=20000:=by omega
  clear hbg o1 o2 o3 o4 o5 hasd hgs hg1' hk2 hfi f1 f2 f3 f4 f5 hmn hbig;go_wp2_with (refine wpList_load_row rfl 308 _ rfl pb rfl 308 #[.int .i64 (p.lo:Int),.int .i64 (p.hi:Int),.bool true] (0,0) _ hg hu rfl hpi ?_);refine HC.out.mono ?_;rintro e w2 ⟨rfl,hI2,hB2,hK2s⟩;have H2:=zh hI2;have HB2:=zh (HBB1.out.trans hB2);have HK2s:=zh hK2s;have HG2:Hid (w2.heap[pb]?=some (.cells #[.int .i64 (p.lo:Int),.int .i64 (p.hi:Int),.bool true] 308 (0,0))):=zh ((hK2s pb (by simp)).trans HG1.out)
  have HC2:=zh (Zwk T K w2 ps p A m (R-g1') k2 hI2 HM.out.2 HBG.out (fun h=>by
   show S.laid+g1'=_;have:=HGS.out.2.2;have:=HK2.out;omega) (HKVp.out.same hK2s) HKB.out HHT.out (by omega) (by omega) (Nat.le_trans hb (Nat.le_trans HB2.out.size (Nat.le_refl _))))
  obtain⟨sz,hsz2⟩:∃sz,p.hi-p.lo=sz:=⟨_,rfl⟩
  have HSZE:=zh hsz2;have hszm2:sz<=20000:=by omega
  obtain⟨j,hj⟩:∃j,min k2 (sz-(S.first+S.second))=j:=⟨_,rfl⟩
  have HJ:=zh hj;rw [HBG.out,hsz2,show min k2 (sz-((layS S p.lo g1').first+(layS S p.lo g1').second))=j from hj] at HC2;have hjsz:j<=sz:=by omega
  obtain⟨gt,hgt⟩:∃gt,g1'+j=gt:=⟨_,rfl⟩
  have hgti:(g1':Int)+(j:Int)=(gt:Int):=by omega
  have HGT:=zh hgt;have hgtw:IntKind.i64.wrap (gt:Int)=(gt:Int):=IntWalk.i64_in _ (by have:=HFI.out;have:=HGS.out;omega);have HSIZ:=zh (fun W=>ZuD p.lo p.hi true W (by have:=HF.out;omega) (by have:=HF.out;omega));rw [hsz2] at HSIZ;clear hj hgt hsz2;clear hI2 hB2 hK2s HC hg g0 g1 g2;have hg:=HG2.out;go_wp2_with (refine wpList_load_row rfl 308 _ rfl pb rfl 308 #[.int .i64 (p.lo:Int),.int .i64 (p.hi:Int),.bool true] (0,0) _ hg hu rfl hpi ?_);refine HC2.out.mono ?_;rintro e w3 ⟨rfl,S3,hI3,hS3,hsm,hsum,hjR,hB3,hK3⟩;have HI3:=zh hI3;have HS3:=zh hS3;have HSM:=zh hsm;have HB3:=zh (HB2.out.trans hB3);have HK3:=zh (HK2s.out.trans hK3);have HJR:=zh hjR;have HG3:Hid (w3.heap[pb]?=some (.cells #[.int .i64 (p.lo:Int),.int .i64 (p.hi:Int),.bool true] 308 (0,0))):=zh ((hK3 pb (by simp)).trans HG2.out);obtain⟨fi,hfi⟩:∃fi,S3.first=fi:=⟨_,rfl⟩
  obtain⟨se,hse⟩:∃se,S3.second=se:=⟨_,rfl⟩
  obtain⟨_,_,_,_,_,_,_,d7,d8,_⟩:=hI3.obj.cells;rw [hfi] at d7;rw [hse] at d8;have hbd:=hS3.bounds HBG.out;rw [hfi,hse] at hbd hsum;obtain⟨fs,hfs⟩:∃fs,fi+se=fs:=⟨_,rfl⟩
  have hfsm:fi<=20000/\se<=20000:=by have:=HF.out;omega
  have hfsi:(fi:Int)+(se:Int)=(fs:Int):=by omega
  have hfsw:IntKind.i64.wrap (fs:Int)=(fs:Int):=IntWalk.i64_in _ (by omega);have HFS:Hid (S3.first+S3.second=fs):=zh (by rw [hfi,hse];exact hfs);have HSUM:Hid (fs=S.first+S.second+j):=zh (by rw [<-hfs];exact hsum);have hpl:pb<w3.heap.size:=(Array.getElem?_eq_some_iff.1 HG3.out).1
  have hGT1:Hid (1<=gt/\gt<=k/\gt<=R):=zh (by
   have a1:=HGT.out;have a2:=HJ.out;have a3:=HSZ.out HBG.out;have a4:=HGS.out;have a5:=HK2.out;have a6:=HSZE.out;have a7:=HM.out.1;have a8:=HJR.out;have a9:=HGE.out;have a10:=HF.out;have a11:=HBD.out;have a12:=(HS.out.on HBG.out).2.1;have a13:=(HS.out.on HBG.out).2.2.1;omega)
  have q7:∀sb:Beneath w3.heap.size w3,sb.val.cell? ⟨b,7,none⟩=some (.int .i64 (fi:Int)):=fun sb=>Beneath.cell d7 HI3.out.obj.lt sb
  have q8:∀sb:Beneath w3.heap.size w3,sb.val.cell? ⟨b,8,none⟩=some (.int .i64 (se:Int)):=fun sb=>Beneath.cell d8 HI3.out.obj.lt sb
  have p0:∀sb:Beneath w3.heap.size w3,sb.val.cell? ⟨pb,0,none⟩=some (.int .i64 (p.lo:Int)):=fun sb=>Beneath.cell (by rw [cell_of_row _ _ 0 _ _ _ HG3.out];rfl) hpl sb
  have p1:∀sb:Beneath w3.heap.size w3,sb.val.cell? ⟨pb,1,none⟩=some (.int .i64 (p.hi:Int)):=fun sb=>Beneath.cell (by rw [cell_of_row _ _ 1 _ _ _ HG3.out];rfl) hpl sb
  have p2:∀sb:Beneath w3.heap.size w3,sb.val.cell? ⟨pb,2,none⟩=some (.bool true):=fun sb=>Beneath.cell (by rw [cell_of_row _ _ 2 _ _ _ HG3.out];rfl) hpl sb
  clear hI3 hS3 hsm hsum hjR hB3 hK3 hfi hse d7 d8 hbd hfs HC2 hg;by_cases hfe:fs=sz
  ·have hE1:((fs:Int)==(sz:Int))=true:=by rw [beq_iff_eq];omega
   go_wp2_with fail;refine ZaF w3.heap.size w3 (Below.refl _ _) (by kernel_rfl) (by kernel_rfl) ?_
   repeat (go_big_quiet_step (first
    | (go_at_call 250;rename_i sb;exact Calls.beneath sb (Nat.le_refl _) (HSIZ.out _))))
   refine wpQuiet_nil ?_;rintro _ ⟨sb,rfl⟩;have HI4:=zh (HI3.out.below sb.is);have HB4:Hid (Below B w sb.val):=zh (HB3.out.trans (sb.is.mono (Nat.le_trans hb HB3.out.size)));have HK4:Hid (KbSame w1 sb.val (kb++Z++[pb])):=zh (HK3.out.trans (fun x hx=>sb.is.block x (HI3.out.kap x hx).1));clear q7 q8 p0 p1 p2;generalize sb.val=w4 at *;go_wp2_with fail;refine(ZuW w4 ps p HI4.out (by rw [HSM.out.ps];exact HSTK.out) (by have:=HL.out;omega)).mono ?_;rintro e w5 ⟨rfl,vw5,hI5,hT5⟩
   have HR:Hid (SomeP B w w5 b n T Z S.steps R k (.returned (.int .i64 (gt:Int)))):=zh (by
    have hk5:KbSame w4 w5 (kb++Z++[pb]):=fun x hx=>hT5.block x (HI4.out.kap x hx).1 (HI4.out.kap x hx).2.1
    have hk6:=HK4.out.trans hk5;have hk7:KbSame w1 w5 (kb++Z):=fun x hx=>hk6 x (List.mem_append_left _ hx)
    have hB5:Below B w w5:=HB4.out.trans (hT5.below (Nat.le_trans hb HB4.out.size) (fun x hx=>by have e:x=b:=hx;have:=HBS.out;omega));have hI6:=hI5.keyed (kb++Z) (fun x hx=>hI5.kap x (List.mem_append_left _ hx));have hw:=HS3.out.whole HBG.out (S':=popS S3 ps) (by rw [HFS.out,HSZE.out];exact hfe) rfl ⟨rfl,rfl,rfl⟩ rfl rfl rfl
    have hdue:Due T K (popS S3 ps) n (R-gt):=by
     rw [show R-gt=R-g1'-j by have:=HGT.out;omega];exact Zv1 HHT.out h0 ⟨rfl,rfl,rfl⟩ (by show S3.made=0;rw [HSM.out.made];exact HS.out.made) hw
    exact ZuF HKZ.out HK.out HKV1.out HKB.out HRC.out hI6 (by show S3.steps=_;rw [HSM.out.steps];rfl) (by show S3.reach=_;rw [HSM.out.reach];rfl) (by show S3.cls=_;rw [HSM.out.cls];rfl) hdue hGT1.out hB5 (HK1.out.trans hk7) hk7)
   clear hI5 hT5;go_wp2_with fail;go_ret;exact HR.out
  ·have hE1:((fs:Int)==(sz:Int))=false:=by rw [beq_eq_false_iff_ne];omega
   go_wp2_with fail;refine ZaF w3.heap.size w3 (Below.refl _ _) (by kernel_rfl) (by kernel_rfl) ?_
   repeat (go_big_quiet_step (first
    | (go_at_call 250;rename_i sb;exact Calls.beneath sb (Nat.le_refl _) (HSIZ.out _))))
   refine wpQuiet_nil ?_;rintro _ ⟨sb,rfl⟩
   have HR:Hid (SomeP B w sb.val b n T Z S.steps R k (.returned (.int .i64 (gt:Int)))):=zh (by
    have hk6:KbSame w1 sb.val (kb++Z++[pb]):=HK3.out.trans (fun x hx=>sb.is.block x (HI3.out.kap x hx).1);have hk7:KbSame w1 sb.val (kb++Z):=fun x hx=>hk6 x (List.mem_append_left _ hx)
    have hB5:Below B w sb.val:=HB3.out.trans (sb.is.mono (Nat.le_trans hb HB3.out.size));have hI5:=HI3.out.below sb.is;have hI6:=hI5.keyed (kb++Z) (fun x hx=>hI5.kap x (List.mem_append_left _ hx));have hs:=HS3.out;refine ZuF HKZ.out HK.out HKV1.out HKB.out HRC.out hI6 (by rw [HSM.out.steps];rfl) (by rw [HSM.out.reach];rfl) (by rw [HSM.out.cls];rfl) (Or.inl ⟨ps,p,A,m,by rw [<-HGT.out,show R-(g1'+j)=R-g1'-j by omega];exact hs,fun _=>?_⟩) hGT1.out hB5 (HK1.out.trans hk7) hk7;have a1:=hs.bounds HBG.out;have a2:=HF.out;have a3:=hs.fit;have a4:=HFS.out;have a5:=HSZE.out;omega)
   clear q7 q8 p0 p1 p2;generalize sb.val=w4 at *;go_wp2_with fail;go_ret;exact HR.out
end
end
section
open Go.RowKit BwtM SrtM PkM
section
variable {B : Nat} {b n : Nat} {Z : List Nat}
theorem Due.pos0 {T:List UInt8} {K:Nat->Nat} {S:SS} {R:Nat} (h:Due T K S n R) (hT:T.length=n):0<R:=by
 rcases Nat.eq_zero_or_pos n with h0|h0
 ·rcases h with⟨ps,p,A,m,h,hp⟩|⟨m,h,hm⟩
  ·have hl:=h.left;rw [ZiS] at hl;have hf:=h.fits p (by simp);have hfit:=h.fit;rcases h.top with⟨e0,e1,e2,e3,_⟩|⟨hb,_⟩
   ·have:1<=p.cost:=by
     unfold Part.cost;rw [e0];exact Zvb _
    omega
   ·have:=hf.2.2 hb;omega
  ·omega
 ·exact h.pos hT h0
theorem SoSt.done {T:List UInt8} {w:World} {st R:Nat} (h:SoSt B w b n T Z st R) (hT:T.length=n):Calls Tryz.prog 154 #[.pointer (some ⟨b,0,none⟩)] w fun e w'=>e=.returned (.bool (R==0))/\w'=w:=by
 obtain⟨bo,bc,ba,vk,vw,kb,S,h1,h2,h3⟩:=h;rcases h3 with⟨rfl,_,rfl⟩|⟨K,k1,⟨F,caps,rfl,_⟩,k3,hd⟩
 ·exact Zo0 w h1.obj
 ·have hp:=hd.pos0 hT;have e:(R==0)=false:=by rw [beq_eq_false_iff_ne];omega
  rw [e];exact Zwi F caps w h1.obj
theorem SoSt.zlt {T:List UInt8} {w:World} {st R:Nat} (h:SoSt B w b n T Z st R):∀g∈Z,g<w.heap.size/\g≠b:=by
 obtain⟨bo,bc,ba,vk,vw,kb,S,h1,h2,h3⟩:=h;exact fun g hg=>⟨(h1.kap g (List.mem_append_right _ hg)).1,(h1.kap g (List.mem_append_right _ hg)).2.1⟩
theorem SoSt.someSteps {T:List UInt8} {w:World} {st R k:Nat} (h:SoSt B w b n T Z st R) (hT:T.length=n) (h0:0<n) (hn:n<=20000) (hR:R<=800000) (hR0:0<R) (hk1:1<=k) (hk:k<=9223372036854775807) (hb:B<=w.heap.size) :
  Calls Tryz.prog 211 #[.pointer (some ⟨b,0,none⟩),.int .i64 (k:Int)] w fun e w'=>SomeP B w w' b n T Z st R k e:=by
 obtain⟨bo,bc,ba,vk,vw,kb,S,h1,⟨rfl,hrc,hkz⟩,h3⟩:=h;rcases h3 with⟨_,_,e⟩|⟨K,k1,k2,k3,hd⟩
 ·omega
 ·rcases hd with⟨ps,p,A,m,hs,hsz⟩|⟨m,hN,hmd⟩
  ·exact Zv3 T K w ps p A m R k h1 k1 k2 k3 hs hsz hT h0 hn hrc hkz hR hk1 hk hb
  ·exact Zv2 T K w m R k h1 k1 k2 k3 hN hmd hT h0 (by omega) hrc hkz hk1 hk hb
theorem SoSt.count {T:List UInt8} {w:World} {st R:Nat} (h:SoSt B w b n T Z st R):w.cell? ⟨b,10,none⟩=some (.int .i64 (st:Int))/\w.frozen? ⟨b,10,none⟩=false/\∀x:Nat,SoSt B (w.setCell ⟨b,10,none⟩ (.int .i64 (x:Int))) b n T Z x R/\Below B w (w.setCell ⟨b,10,none⟩ (.int .i64 (x:Int)))/\KbSame w (w.setCell ⟨b,10,none⟩ (.int .i64 (x:Int))) Z:=by
 obtain⟨bo,bc,ba,vk,vw,kb,S,h1,⟨rfl,hrc,hkz⟩,h3⟩:=h;obtain⟨_,_,_,_,_,_,_,_,_,_,d10⟩:=h1.obj.cells;refine⟨d10,h1.obj.frozen 10 (by omega),fun x=>?_⟩;have t:Touch (·=b) w (w.setCell ⟨b,10,none⟩ (.int .i64 (x:Int))):=Zaa (Touch.refl _ _);have hks:KbSame w (w.setCell ⟨b,10,none⟩ (.int .i64 (x:Int))) (kb++Z):=fun g hg=>t.block g (h1.kap g hg).1 (h1.kap g hg).2.1
 have h4:=h1.own t (h1.obj.set10 x) rfl rfl rfl rfl;refine⟨⟨bo,bc,ba,vk,vw,kb,_,h4,⟨rfl,hrc,hkz⟩,?_⟩,(Below.refl B w).setCell (p:=⟨b,10,none⟩) h1.base.1 _,hks.part⟩;rcases h3 with h3|⟨K,k1,k2,k3,hd⟩
 ·exact Or.inl h3
 ·refine Or.inr ⟨K,k1,k2.same (fun g hg=>hks g (List.mem_append_left _ hg)),k3,?_⟩;rcases hd with⟨ps,p,A,m,hs,hsz⟩|⟨m,hN,hmd⟩
  ·exact Or.inl ⟨ps,p,A,m,⟨hs.stk,hs.made,hs.perm,hs.goal,hs.rem,hs.fits,hs.top,hs.left⟩,hsz⟩
  ·exact Or.inr ⟨m,⟨hN.stk,hN.zero,hN.ord,hN.num,hN.made,hN.rem,hN.left⟩,hmd⟩
def StepSP (B:Nat) (w w':World) (b n:Nat) (T:List UInt8) (Z:List Nat) (st R g:Nat) (e:Ending):Prop:=
 e=.returned (.int .i64 (g:Int))/\SoSt B w' b n T Z (st+g) (R-g)/\Below B w w'/\KbSame w w' Z
theorem Zv4 (T:List UInt8) (w:World) (st R k:Nat) (h:SoSt B w b n T Z st R) (hT:T.length=n) (h0:0<n\/R=0) (hn:n<=20000) (hR:R<=800000) (hst:st<=1000000) (hk:k<=9223372036854775807) (hb:B<=w.heap.size) :
  Calls Tryz.prog 153 #[.pointer (some ⟨b,0,none⟩),.int .i64 (k:Int)] w fun e w'=>StepSP B w w' b n T Z st R (min k R) e:=by
 have H:=zh h;have HT:=zh hT;have HB0:Hid (Below B w w):=zh (Below.refl _ _);clear h hT;go_enter Tryz.func153,Tryz.ntmps153;go_wp2_with fail
 go_loopw [5] (fun vg wr=>∃(j:Nat),vg=.int .i64 (j:Int)/\j<=k/\j<=R/\SoSt B wr b n T Z st (R-j)/\Below B w wr/\KbSame w wr Z) (fun vg _=>R-(intOf vg).toNat)
 case atStart=>exact⟨0,rfl,by omega,by omega,H.out,HB0.out,KbSame.refl _ _⟩
 case round=>
  obtain⟨j,rfl,hjk,hjR,hS,hB,hZ⟩:=hrel;have HS:=zh hS;have HB:=zh hB;have HZ:=zh hZ;have HD:=zh (hS.done HT.out);clear hS hB hZ;by_cases hjl:j<k
  ·have hji:(j:Int)<(k:Int):=by omega
   by_cases hd:R-j=0
   ·have e:(R-j==0)=true:=by rw [beq_iff_eq];exact hd
    rw [e] at HD;have HJM:Hid (min k R=j):=zh (by omega);obtain⟨d10,f10,hset⟩:=HS.out.count
    have HF:Hid (∀x:Nat,x=st+j->StepSP B w (wr.setCell ⟨b,10,none⟩ (.int .i64 (x:Int))) b n T Z st R (min k R) (.returned (.int .i64 (j:Int)))):=zh (fun x hx=>by
     subst hx;rw [HJM.out];obtain⟨h1,h2,h3⟩:=hset (st+j);exact⟨rfl,h1,HB.out.trans h2,HZ.out.trans h3⟩)
    obtain⟨sj,hsj⟩:∃sj,st+j=sj:=⟨_,rfl⟩
    have hsji:(st:Int)+(j:Int)=(sj:Int):=by omega
    have hsjw:IntKind.i64.wrap (sj:Int)=(sj:Int):=IntWalk.i64_in _ (by omega);have HR:=zh (HF.out sj hsj.symm);clear HF hset hsj;go_wp2_with fail;refine HD.out.mono ?_;rintro e w2 ⟨rfl,rfl⟩;go_wp2_with fail;go_ret;exact HR.out
   ·have e:(R-j==0)=false:=by rw [beq_eq_false_iff_ne];exact hd
    rw [e] at HD;obtain⟨k2,hk2⟩:∃k2,k-j=k2:=⟨_,rfl⟩
    have hk2i:(k:Int)-(j:Int)=(k2:Int):=by omega
    have hk2w:IntKind.i64.wrap (k2:Int)=(k2:Int):=IntWalk.i64_in _ (by omega);have HC:=zh (HS.out.someSteps (k:=k2) HT.out (by omega) hn (by omega) (by omega) (by omega) (by omega) (Nat.le_trans hb HB.out.size));go_wp2_with fail;refine HD.out.mono ?_;rintro e w2 ⟨rfl,rfl⟩;go_wp2_with fail;refine HC.out.mono ?_;rintro e w3 ⟨g,rfl,⟨g1,g2,g3⟩,hS3,hB3,hZ3⟩;have HS3:Hid (SoSt B w3 b n T Z st (R-(j+g))):=zh (by rw [show R-(j+g)=R-j-g by omega];exact hS3);have HB3:=zh (HB.out.trans hB3);have HZ3:=zh (HZ.out.trans hZ3);obtain⟨jg,hjg⟩:∃jg,j+g=jg:=⟨_,rfl⟩
    have hjgi:(j:Int)+(g:Int)=(jg:Int):=by omega
    have hjgw:IntKind.i64.wrap (jg:Int)=(jg:Int):=IntWalk.i64_in _ (by omega);have hjgb:jg<=k/\jg<=R/\j<jg:=by omega
    rw [hjg] at HS3;clear hS3 hB3 hZ3 hjg;go_wp2_with fail;go_roundw
    case rel=>exact⟨jg,rfl,hjgb.1,hjgb.2.1,HS3.out,HB3.out,HZ3.out⟩
    case measure=>simp [intOf];omega
  ·have hji:¬(j:Int)<(k:Int):=by omega
   have HJM:Hid (min k R=j):=zh (by omega);obtain⟨d10,f10,hset⟩:=HS.out.count
   have HF:Hid (∀x:Nat,x=st+j->StepSP B w (wr.setCell ⟨b,10,none⟩ (.int .i64 (x:Int))) b n T Z st R (min k R) (.returned (.int .i64 (j:Int)))):=zh (fun x hx=>by
    subst hx;rw [HJM.out];obtain⟨h1,h2,h3⟩:=hset (st+j);exact⟨rfl,h1,HB.out.trans h2,HZ.out.trans h3⟩)
   obtain⟨sj,hsj⟩:∃sj,st+j=sj:=⟨_,rfl⟩
   have hsji:(st:Int)+(j:Int)=(sj:Int):=by omega
   have hsjw:IntKind.i64.wrap (sj:Int)=(sj:Int):=IntWalk.i64_in _ (by omega);have HR:=zh (HF.out sj hsj.symm);clear HF hset hsj;go_wp2_with fail;go_ret;exact HR.out
end
end
section
open Go.RowKit BwtM SrtM PkM
theorem StepsOf.le {T:List UInt8} {R b:Nat} (h:StepsOf T R) (hb:T.length<=2^b):R<=T.length*(4+3*b)*(b+2):=by
 rcases h with⟨h1,rfl⟩|⟨h1,m,h2,rfl⟩
 ·exact Nat.zero_le _
 ·obtain⟨k,hk,hr⟩:=ZvB T b hb;rw [h2.one hr];exact Zwg (by omega) hb hk
def NewP (w w':World) (n:Nat) (T:List UInt8) (e:Ending):Prop:=
 ∃b R,e=.returned (.tuple #[.pointer (some ⟨b,0,none⟩),.int .i64 0])/\SoSt w.heap.size w' b n T [] 0 R/\StepsOf T R/\Below w.heap.size w w'
theorem Zut {w w':World} {b bo bc ba n:Nat} {T:List UInt8} (hT:T.length=n) (h:IsSo w.heap.size w' b bo bc ba .nilFunc (.slice none 0 0) n [] (zeroS n n)) (hn:n<2) (hB:Below w.heap.size w w'):NewP w w' n T (.returned (.tuple #[.pointer (some ⟨b,0,none⟩),.int .i64 0])):=by
 refine⟨b,0,rfl,⟨bo,bc,ba,_,_,[],_,h,⟨rfl,Nat.zero_le _,fun g hg=>(by cases hg)⟩,Or.inl ⟨rfl,?_,rfl⟩⟩,Or.inl ⟨by omega,rfl⟩,hB⟩;rw [ZsN,<-hT];refine⟨List.Perm.refl _,?_⟩;rcases(by omega:T.length=0\/T.length=1) with e|e
 ·rw [e];exact List.Pairwise.nil
 ·rw [e];exact List.pairwise_singleton _ _
theorem ZuI {w w5 w':World} {b bo bc ba n g:Nat} {s:ByteArray} {vw:Value} (hT:s.size=n) (hn:2<=n) (hn2:n<=900000) (ht:Txt w5 g s) (hk:KbSame w5 w' [g])
  (h:IsSo w.heap.size w' b bo bc ba (.func (.func 245) #[] #[.pointer (some ⟨g,0,none⟩)]) vw n [g] (passSS (zeroS n n) 0 [⟨0,n,false⟩])) (hB:Below w.heap.size w w'):NewP w w' n s.data.toList (.returned (.tuple #[.pointer (some ⟨b,0,none⟩),.int .i64 0])):=by
 have hl:s.data.toList.length=n:=hT;obtain⟨m,hm,hr⟩:=ZvB s.data.toList 20 (by rw [hl];omega);refine⟨b,each n*(m+1),rfl,⟨bo,bc,ba,_,vw,[g],_,h,⟨rfl,Nat.zero_le _,fun g hg hz=>(by cases hz)⟩,Or.inr ⟨bt s.data.toList,KeyH.first _,(ZvZ s w5 g bc n _ ht (by omega) hT.symm).same hk,fun i _=>?_,Or.inl ⟨[],⟨0,n,false⟩,List.range n,m,?_,fun e=>by cases e⟩⟩⟩,Or.inr ⟨by omega,m,hr,by rw [hl]⟩,hB⟩
 ·have:=ZwI s.data.toList i;omega
 ·have:=Srt.start s.data.toList (S:=passSS (zeroS n n) 0 [⟨0,n,false⟩]) (m:=m) (by rw [hl];rfl) ⟨rfl,rfl,rfl⟩ rfl rfl (by rw [hl];exact ZsN n) hr;rw [hl] at this;exact this
theorem Zwo (s:ByteArray) (n:Nat) (w:World) (hn:s.size=n) (hs:n<=900000):Calls Tryz.prog 151 #[.string s] w fun e w'=>NewP w w' n s.data.toList e:=by
 have h1:¬(n:Int)>900000:=by omega
 have hmk:=Za2 n (by omega);have HN:=zh hn;go_enter Tryz.func151,Tryz.ntmps151;go_wp2_with fail
 go_region
 ·have HI0:=zh (ZgH w n (w.heap.size) (w.heap.size+1) (w.heap.size+1+1) (by omega) (by omega) (by omega) (by omega));generalize ((((w.alloc (.cells (madeCells #[.int .i64 0] n) 3)).alloc (.cells (madeCells #[.int .i64 0] n) 3)).alloc (.cells (madeCells #[.int .i64 0] n) 3)).alloc (.cells #[.slice (some ⟨w.heap.size,0,none⟩) n n,.slice (some ⟨w.heap.size+1,0,none⟩) n n,.slice (some ⟨w.heap.size+1+1,0,none⟩) n n,.int .i64 0,.nilFunc,.slice none 0 0,.int .i64 0,.int .i64 0,.int .i64 0,.int .i64 0,.int .i64 0] 276)).drew=w4 at *;obtain⟨d0,_⟩:=HI0.out.1.obj.cells;clear hmk;go_wp2_with fail
  go_loopw [25,6] (fun vg _ wr=>∃(j:Nat),vg=.int .i64 (j:Int)/\j<=n/\IsSo w.heap.size wr (w.heap.size+1+1+1) (w.heap.size) (w.heap.size+1) (w.heap.size+1+1) .nilFunc (.slice none 0 0) n [] (zeroS n j)/\Below w.heap.size w wr) (fun vg _ _=>n-(intOf vg).toNat)
  case atStart=>exact⟨0,rfl,Nat.zero_le _,HI0.out.1,HI0.out.2⟩
  case round=>
   clear d0 HI0;obtain⟨j,rfl,hj,hI,hB⟩:=hrel;have HI:=zh hI;have HB:=zh hB;obtain⟨d0,_⟩:=hI.obj.cells;clear hI hB;by_cases hjn:j<n
   ·have hji:(j:Int)<(n:Int):=by omega
    have cO:=(HI.out.ro.cell (i:=j) (by rw [toI_length,HI.out.lo];exact hjn)).1;have fO:=(HI.out.ro.cell (i:=j) (by rw [toI_length,HI.out.lo];exact hjn)).2.1;have HF:=zh (ZcW HI.out hjn);have HB2:=zh (HB.out.trans HF.out.2);go_wp2_with fail;go_roundw
    case rel=>exact⟨j+1,by go_num,by omega,HF.out.1,HB2.out⟩
    case measure=>simp [intOf];omega
   ·have hji:¬(j:Int)<(n:Int):=by omega
    have hjE:j=n:=by omega
    by_cases hn2:n<2
    ·have h2i:¬(n:Int)>=2:=by omega
     have HR:Hid (NewP w wr n s.data.toList (.returned (.tuple #[.pointer (some ⟨w.heap.size+1+1+1,0,none⟩),.int .i64 0]))):=zh (Zut HN.out (hjE▸HI.out) hn2 HB.out);go_wp2_with fail;go_ret2;exact HR.out
    ·have h2i:(n:Int)>=2:=by omega
     go_wp2_with fail;refine(Zup s wr).mono ?_;rintro e w5 ⟨rfl,hT,hB5,hZ5⟩;have HT5:=zh hT;have HB5:=zh (HB.out.trans (hB5.mono HB.out.size))
     have H5:=zh ((HI.out.below hB5).keyed [wr.heap.size] (fun x hx=>by
      rw [List.mem_singleton] at hx;subst hx;have l1:=HI.out.obj.lt;have l2:=HI.out.ro.lt;have l3:=HI.out.rc.lt;have l4:=HI.out.ra.lt;exact⟨by omega,by omega,by omega,by omega,by omega,fun e=>by cases e⟩))
     have HPS:Hid ((zeroS n j).ps=[]):=zh rfl;have HLT:Hid (w.heap.size<=w5.heap.size):=zh HB5.out.size;clear hT hB5 hZ5;go_wp2_with fail;refine(Zuo w5 0 _ _ H5.out HPS.out HLT.out (by omega)).mono ?_;rintro e w6 ⟨rfl,vw6,hI6,hB6,hK6⟩;have HR:Hid (NewP w w6 n s.data.toList (.returned (.tuple #[.pointer (some ⟨w.heap.size+1+1+1,0,none⟩),.int .i64 0]))):=zh (ZuI HN.out (by omega) hs HT5.out hK6 (hjE▸hI6) (HB5.out.trans hB6));clear hI6 hB6 hK6;go_wp2_with fail;go_ret2;exact HR.out
 ·have HI0:=zh (ZgH w n (w.heap.size) (w.heap.size+1+1) (w.heap.size+1) (by omega) (by omega) (by omega) (by omega));generalize ((((w.alloc (.cells (madeCells #[.int .i64 0] n) 3)).alloc (.cells (madeCells #[.int .i64 0] n) 3)).alloc (.cells (madeCells #[.int .i64 0] n) 3)).alloc (.cells #[.slice (some ⟨w.heap.size,0,none⟩) n n,.slice (some ⟨w.heap.size+1+1,0,none⟩) n n,.slice (some ⟨w.heap.size+1,0,none⟩) n n,.int .i64 0,.nilFunc,.slice none 0 0,.int .i64 0,.int .i64 0,.int .i64 0,.int .i64 0,.int .i64 0] 276)).drew=w4 at *;obtain⟨d0,_⟩:=HI0.out.1.obj.cells;clear hmk;go_wp2_with fail
  go_loopw [25,6] (fun vg _ wr=>∃(j:Nat),vg=.int .i64 (j:Int)/\j<=n/\IsSo w.heap.size wr (w.heap.size+1+1+1) (w.heap.size) (w.heap.size+1+1) (w.heap.size+1) .nilFunc (.slice none 0 0) n [] (zeroS n j)/\Below w.heap.size w wr) (fun vg _ _=>n-(intOf vg).toNat)
  case atStart=>exact⟨0,rfl,Nat.zero_le _,HI0.out.1,HI0.out.2⟩
  case round=>
   clear d0 HI0;obtain⟨j,rfl,hj,hI,hB⟩:=hrel;have HI:=zh hI;have HB:=zh hB;obtain⟨d0,_⟩:=hI.obj.cells;clear hI hB;by_cases hjn:j<n
   ·have hji:(j:Int)<(n:Int):=by omega
    have cO:=(HI.out.ro.cell (i:=j) (by rw [toI_length,HI.out.lo];exact hjn)).1;have fO:=(HI.out.ro.cell (i:=j) (by rw [toI_length,HI.out.lo];exact hjn)).2.1;have HF:=zh (ZcW HI.out hjn);have HB2:=zh (HB.out.trans HF.out.2);go_wp2_with fail;go_roundw
    case rel=>exact⟨j+1,by go_num,by omega,HF.out.1,HB2.out⟩
    case measure=>simp [intOf];omega
   ·have hji:¬(j:Int)<(n:Int):=by omega
    have hjE:j=n:=by omega
    by_cases hn2:n<2
    ·have h2i:¬(n:Int)>=2:=by omega
     have HR:Hid (NewP w wr n s.data.toList (.returned (.tuple #[.pointer (some ⟨w.heap.size+1+1+1,0,none⟩),.int .i64 0]))):=zh (Zut HN.out (hjE▸HI.out) hn2 HB.out);go_wp2_with fail;go_ret2;exact HR.out
    ·have h2i:(n:Int)>=2:=by omega
     go_wp2_with fail;refine(Zup s wr).mono ?_;rintro e w5 ⟨rfl,hT,hB5,hZ5⟩;have HT5:=zh hT;have HB5:=zh (HB.out.trans (hB5.mono HB.out.size))
     have H5:=zh ((HI.out.below hB5).keyed [wr.heap.size] (fun x hx=>by
      rw [List.mem_singleton] at hx;subst hx;have l1:=HI.out.obj.lt;have l2:=HI.out.ro.lt;have l3:=HI.out.rc.lt;have l4:=HI.out.ra.lt;exact⟨by omega,by omega,by omega,by omega,by omega,fun e=>by cases e⟩))
     have HPS:Hid ((zeroS n j).ps=[]):=zh rfl;have HLT:Hid (w.heap.size<=w5.heap.size):=zh HB5.out.size;clear hT hB5 hZ5;go_wp2_with fail;refine(Zuo w5 0 _ _ H5.out HPS.out HLT.out (by omega)).mono ?_;rintro e w6 ⟨rfl,vw6,hI6,hB6,hK6⟩;have HR:Hid (NewP w w6 n s.data.toList (.returned (.tuple #[.pointer (some ⟨w.heap.size+1+1+1,0,none⟩),.int .i64 0]))):=zh (ZuI HN.out (by omega) hs HT5.out hK6 (hjE▸hI6) (HB5.out.trans hB6));clear hI6 hB6 hK6;go_wp2_with fail;go_ret2;exact HR.out
 ·have HI0:=zh (ZgH w n (w.heap.size+1) (w.heap.size) (w.heap.size+1+1) (by omega) (by omega) (by omega) (by omega));generalize ((((w.alloc (.cells (madeCells #[.int .i64 0] n) 3)).alloc (.cells (madeCells #[.int .i64 0] n) 3)).alloc (.cells (madeCells #[.int .i64 0] n) 3)).alloc (.cells #[.slice (some ⟨w.heap.size+1,0,none⟩) n n,.slice (some ⟨w.heap.size,0,none⟩) n n,.slice (some ⟨w.heap.size+1+1,0,none⟩) n n,.int .i64 0,.nilFunc,.slice none 0 0,.int .i64 0,.int .i64 0,.int .i64 0,.int .i64 0,.int .i64 0] 276)).drew=w4 at *;obtain⟨d0,_⟩:=HI0.out.1.obj.cells;clear hmk;go_wp2_with fail
  go_loopw [25,6] (fun vg _ wr=>∃(j:Nat),vg=.int .i64 (j:Int)/\j<=n/\IsSo w.heap.size wr (w.heap.size+1+1+1) (w.heap.size+1) (w.heap.size) (w.heap.size+1+1) .nilFunc (.slice none 0 0) n [] (zeroS n j)/\Below w.heap.size w wr) (fun vg _ _=>n-(intOf vg).toNat)
  case atStart=>exact⟨0,rfl,Nat.zero_le _,HI0.out.1,HI0.out.2⟩
  case round=>
   clear d0 HI0;obtain⟨j,rfl,hj,hI,hB⟩:=hrel;have HI:=zh hI;have HB:=zh hB;obtain⟨d0,_⟩:=hI.obj.cells;clear hI hB;by_cases hjn:j<n
   ·have hji:(j:Int)<(n:Int):=by omega
    have cO:=(HI.out.ro.cell (i:=j) (by rw [toI_length,HI.out.lo];exact hjn)).1;have fO:=(HI.out.ro.cell (i:=j) (by rw [toI_length,HI.out.lo];exact hjn)).2.1;have HF:=zh (ZcW HI.out hjn);have HB2:=zh (HB.out.trans HF.out.2);go_wp2_with fail;go_roundw
    case rel=>exact⟨j+1,by go_num,by omega,HF.out.1,HB2.out⟩
    case measure=>simp [intOf];omega
   ·have hji:¬(j:Int)<(n:Int):=by omega
    have hjE:j=n:=by omega
    by_cases hn2:n<2
    ·have h2i:¬(n:Int)>=2:=by omega
     have HR:Hid (NewP w wr n s.data.toList (.returned (.tuple #[.pointer (some ⟨w.heap.size+1+1+1,0,none⟩),.int .i64 0]))):=zh (Zut HN.out (hjE▸HI.out) hn2 HB.out);go_wp2_with fail;go_ret2;exact HR.out
    ·have h2i:(n:Int)>=2:=by omega
     go_wp2_with fail;refine(Zup s wr).mono ?_;rintro e w5 ⟨rfl,hT,hB5,hZ5⟩;have HT5:=zh hT;have HB5:=zh (HB.out.trans (hB5.mono HB.out.size))
     have H5:=zh ((HI.out.below hB5).keyed [wr.heap.size] (fun x hx=>by
      rw [List.mem_singleton] at hx;subst hx;have l1:=HI.out.obj.lt;have l2:=HI.out.ro.lt;have l3:=HI.out.rc.lt;have l4:=HI.out.ra.lt;exact⟨by omega,by omega,by omega,by omega,by omega,fun e=>by cases e⟩))
     have HPS:Hid ((zeroS n j).ps=[]):=zh rfl;have HLT:Hid (w.heap.size<=w5.heap.size):=zh HB5.out.size;clear hT hB5 hZ5;go_wp2_with fail;refine(Zuo w5 0 _ _ H5.out HPS.out HLT.out (by omega)).mono ?_;rintro e w6 ⟨rfl,vw6,hI6,hB6,hK6⟩;have HR:Hid (NewP w w6 n s.data.toList (.returned (.tuple #[.pointer (some ⟨w.heap.size+1+1+1,0,none⟩),.int .i64 0]))):=zh (ZuI HN.out (by omega) hs HT5.out hK6 (hjE▸hI6) (HB5.out.trans hB6));clear hI6 hB6 hK6;go_wp2_with fail;go_ret2;exact HR.out
 ·have HI0:=zh (ZgH w n (w.heap.size+1+1) (w.heap.size) (w.heap.size+1) (by omega) (by omega) (by omega) (by omega));generalize ((((w.alloc (.cells (madeCells #[.int .i64 0] n) 3)).alloc (.cells (madeCells #[.int .i64 0] n) 3)).alloc (.cells (madeCells #[.int .i64 0] n) 3)).alloc (.cells #[.slice (some ⟨w.heap.size+1+1,0,none⟩) n n,.slice (some ⟨w.heap.size,0,none⟩) n n,.slice (some ⟨w.heap.size+1,0,none⟩) n n,.int .i64 0,.nilFunc,.slice none 0 0,.int .i64 0,.int .i64 0,.int .i64 0,.int .i64 0,.int .i64 0] 276)).drew=w4 at *;obtain⟨d0,_⟩:=HI0.out.1.obj.cells;clear hmk;go_wp2_with fail
  go_loopw [25,6] (fun vg _ wr=>∃(j:Nat),vg=.int .i64 (j:Int)/\j<=n/\IsSo w.heap.size wr (w.heap.size+1+1+1) (w.heap.size+1+1) (w.heap.size) (w.heap.size+1) .nilFunc (.slice none 0 0) n [] (zeroS n j)/\Below w.heap.size w wr) (fun vg _ _=>n-(intOf vg).toNat)
  case atStart=>exact⟨0,rfl,Nat.zero_le _,HI0.out.1,HI0.out.2⟩
  case round=>
   clear d0 HI0;obtain⟨j,rfl,hj,hI,hB⟩:=hrel;have HI:=zh hI;have HB:=zh hB;obtain⟨d0,_⟩:=hI.obj.cells;clear hI hB;by_cases hjn:j<n
   ·have hji:(j:Int)<(n:Int):=by omega
    have cO:=(HI.out.ro.cell (i:=j) (by rw [toI_length,HI.out.lo];exact hjn)).1;have fO:=(HI.out.ro.cell (i:=j) (by rw [toI_length,HI.out.lo];exact hjn)).2.1;have HF:=zh (ZcW HI.out hjn);have HB2:=zh (HB.out.trans HF.out.2);go_wp2_with fail;go_roundw
    case rel=>exact⟨j+1,by go_num,by omega,HF.out.1,HB2.out⟩
    case measure=>simp [intOf];omega
   ·have hji:¬(j:Int)<(n:Int):=by omega
    have hjE:j=n:=by omega
    by_cases hn2:n<2
    ·have h2i:¬(n:Int)>=2:=by omega
     have HR:Hid (NewP w wr n s.data.toList (.returned (.tuple #[.pointer (some ⟨w.heap.size+1+1+1,0,none⟩),.int .i64 0]))):=zh (Zut HN.out (hjE▸HI.out) hn2 HB.out);go_wp2_with fail;go_ret2;exact HR.out
    ·have h2i:(n:Int)>=2:=by omega
     go_wp2_with fail;refine(Zup s wr).mono ?_;rintro e w5 ⟨rfl,hT,hB5,hZ5⟩;have HT5:=zh hT;have HB5:=zh (HB.out.trans (hB5.mono HB.out.size))
     have H5:=zh ((HI.out.below hB5).keyed [wr.heap.size] (fun x hx=>by
      rw [List.mem_singleton] at hx;subst hx;have l1:=HI.out.obj.lt;have l2:=HI.out.ro.lt;have l3:=HI.out.rc.lt;have l4:=HI.out.ra.lt;exact⟨by omega,by omega,by omega,by omega,by omega,fun e=>by cases e⟩))
     have HPS:Hid ((zeroS n j).ps=[]):=zh rfl;have HLT:Hid (w.heap.size<=w5.heap.size):=zh HB5.out.size;clear hT hB5 hZ5;go_wp2_with fail;refine(Zuo w5 0 _ _ H5.out HPS.out HLT.out (by omega)).mono ?_;rintro e w6 ⟨rfl,vw6,hI6,hB6,hK6⟩;have HR:Hid (NewP w w6 n s.data.toList (.returned (.tuple #[.pointer (some ⟨w.heap.size+1+1+1,0,none⟩),.int .i64 0]))):=zh (ZuI HN.out (by omega) hs HT5.out hK6 (hjE▸hI6) (HB5.out.trans hB6));clear hI6 hB6 hK6;go_wp2_with fail;go_ret2;exact HR.out
 ·have HI0:=zh (ZgH w n (w.heap.size+1) (w.heap.size+1+1) (w.heap.size) (by omega) (by omega) (by omega) (by omega));generalize ((((w.alloc (.cells (madeCells #[.int .i64 0] n) 3)).alloc (.cells (madeCells #[.int .i64 0] n) 3)).alloc (.cells (madeCells #[.int .i64 0] n) 3)).alloc (.cells #[.slice (some ⟨w.heap.size+1,0,none⟩) n n,.slice (some ⟨w.heap.size+1+1,0,none⟩) n n,.slice (some ⟨w.heap.size,0,none⟩) n n,.int .i64 0,.nilFunc,.slice none 0 0,.int .i64 0,.int .i64 0,.int .i64 0,.int .i64 0,.int .i64 0] 276)).drew=w4 at *;obtain⟨d0,_⟩:=HI0.out.1.obj.cells;clear hmk;go_wp2_with fail
  go_loopw [25,6] (fun vg _ wr=>∃(j:Nat),vg=.int .i64 (j:Int)/\j<=n/\IsSo w.heap.size wr (w.heap.size+1+1+1) (w.heap.size+1) (w.heap.size+1+1) (w.heap.size) .nilFunc (.slice none 0 0) n [] (zeroS n j)/\Below w.heap.size w wr) (fun vg _ _=>n-(intOf vg).toNat)
  case atStart=>exact⟨0,rfl,Nat.zero_le _,HI0.out.1,HI0.out.2⟩
  case round=>
   clear d0 HI0;obtain⟨j,rfl,hj,hI,hB⟩:=hrel;have HI:=zh hI;have HB:=zh hB;obtain⟨d0,_⟩:=hI.obj.cells;clear hI hB;by_cases hjn:j<n
   ·have hji:(j:Int)<(n:Int):=by omega
    have cO:=(HI.out.ro.cell (i:=j) (by rw [toI_length,HI.out.lo];exact hjn)).1;have fO:=(HI.out.ro.cell (i:=j) (by rw [toI_length,HI.out.lo];exact hjn)).2.1;have HF:=zh (ZcW HI.out hjn);have HB2:=zh (HB.out.trans HF.out.2);go_wp2_with fail;go_roundw
    case rel=>exact⟨j+1,by go_num,by omega,HF.out.1,HB2.out⟩
    case measure=>simp [intOf];omega
   ·have hji:¬(j:Int)<(n:Int):=by omega
    have hjE:j=n:=by omega
    by_cases hn2:n<2
    ·have h2i:¬(n:Int)>=2:=by omega
     have HR:Hid (NewP w wr n s.data.toList (.returned (.tuple #[.pointer (some ⟨w.heap.size+1+1+1,0,none⟩),.int .i64 0]))):=zh (Zut HN.out (hjE▸HI.out) hn2 HB.out);go_wp2_with fail;go_ret2;exact HR.out
    ·have h2i:(n:Int)>=2:=by omega
     go_wp2_with fail;refine(Zup s wr).mono ?_;rintro e w5 ⟨rfl,hT,hB5,hZ5⟩;have HT5:=zh hT;have HB5:=zh (HB.out.trans (hB5.mono HB.out.size))
     have H5:=zh ((HI.out.below hB5).keyed [wr.heap.size] (fun x hx=>by
      rw [List.mem_singleton] at hx;subst hx;have l1:=HI.out.obj.lt;have l2:=HI.out.ro.lt;have l3:=HI.out.rc.lt;have l4:=HI.out.ra.lt;exact⟨by omega,by omega,by omega,by omega,by omega,fun e=>by cases e⟩))
     have HPS:Hid ((zeroS n j).ps=[]):=zh rfl;have HLT:Hid (w.heap.size<=w5.heap.size):=zh HB5.out.size;clear hT hB5 hZ5;go_wp2_with fail;refine(Zuo w5 0 _ _ H5.out HPS.out HLT.out (by omega)).mono ?_;rintro e w6 ⟨rfl,vw6,hI6,hB6,hK6⟩;have HR:Hid (NewP w w6 n s.data.toList (.returned (.tuple #[.pointer (some ⟨w.heap.size+1+1+1,0,none⟩),.int .i64 0]))):=zh (ZuI HN.out (by omega) hs HT5.out hK6 (hjE▸hI6) (HB5.out.trans hB6));clear hI6 hB6 hK6;go_wp2_with fail;go_ret2;exact HR.out
 ·have HI0:=zh (ZgH w n (w.heap.size+1+1) (w.heap.size+1) (w.heap.size) (by omega) (by omega) (by omega) (by omega));generalize ((((w.alloc (.cells (madeCells #[.int .i64 0] n) 3)).alloc (.cells (madeCells #[.int .i64 0] n) 3)).alloc (.cells (madeCells #[.int .i64 0] n) 3)).alloc (.cells #[.slice (some ⟨w.heap.size+1+1,0,none⟩) n n,.slice (some ⟨w.heap.size+1,0,none⟩) n n,.slice (some ⟨w.heap.size,0,none⟩) n n,.int .i64 0,.nilFunc,.slice none 0 0,.int .i64 0,.int .i64 0,.int .i64 0,.int .i64 0,.int .i64 0] 276)).drew=w4 at *;obtain⟨d0,_⟩:=HI0.out.1.obj.cells;clear hmk;go_wp2_with fail
  go_loopw [25,6] (fun vg _ wr=>∃(j:Nat),vg=.int .i64 (j:Int)/\j<=n/\IsSo w.heap.size wr (w.heap.size+1+1+1) (w.heap.size+1+1) (w.heap.size+1) (w.heap.size) .nilFunc (.slice none 0 0) n [] (zeroS n j)/\Below w.heap.size w wr) (fun vg _ _=>n-(intOf vg).toNat)
  case atStart=>exact⟨0,rfl,Nat.zero_le _,HI0.out.1,HI0.out.2⟩
  case round=>
   clear d0 HI0;obtain⟨j,rfl,hj,hI,hB⟩:=hrel;have HI:=zh hI;have HB:=zh hB;obtain⟨d0,_⟩:=hI.obj.cells;clear hI hB;by_cases hjn:j<n
   ·have hji:(j:Int)<(n:Int):=by omega
    have cO:=(HI.out.ro.cell (i:=j) (by rw [toI_length,HI.out.lo];exact hjn)).1;have fO:=(HI.out.ro.cell (i:=j) (by rw [toI_length,HI.out.lo];exact hjn)).2.1;have HF:=zh (ZcW HI.out hjn);have HB2:=zh (HB.out.trans HF.out.2);go_wp2_with fail;go_roundw
    case rel=>exact⟨j+1,by go_num,by omega,HF.out.1,HB2.out⟩
    case measure=>simp [intOf];omega
   ·have hji:¬(j:Int)<(n:Int):=by omega
    have hjE:j=n:=by omega
    by_cases hn2:n<2
    ·have h2i:¬(n:Int)>=2:=by omega
     have HR:Hid (NewP w wr n s.data.toList (.returned (.tuple #[.pointer (some ⟨w.heap.size+1+1+1,0,none⟩),.int .i64 0]))):=zh (Zut HN.out (hjE▸HI.out) hn2 HB.out);go_wp2_with fail;go_ret2;exact HR.out
    ·have h2i:(n:Int)>=2:=by omega
     go_wp2_with fail;refine(Zup s wr).mono ?_;rintro e w5 ⟨rfl,hT,hB5,hZ5⟩;have HT5:=zh hT;have HB5:=zh (HB.out.trans (hB5.mono HB.out.size))
     have H5:=zh ((HI.out.below hB5).keyed [wr.heap.size] (fun x hx=>by
      rw [List.mem_singleton] at hx;subst hx;have l1:=HI.out.obj.lt;have l2:=HI.out.ro.lt;have l3:=HI.out.rc.lt;have l4:=HI.out.ra.lt;exact⟨by omega,by omega,by omega,by omega,by omega,fun e=>by cases e⟩))
     have HPS:Hid ((zeroS n j).ps=[]):=zh rfl;have HLT:Hid (w.heap.size<=w5.heap.size):=zh HB5.out.size;clear hT hB5 hZ5;go_wp2_with fail;refine(Zuo w5 0 _ _ H5.out HPS.out HLT.out (by omega)).mono ?_;rintro e w6 ⟨rfl,vw6,hI6,hB6,hK6⟩;have HR:Hid (NewP w w6 n s.data.toList (.returned (.tuple #[.pointer (some ⟨w.heap.size+1+1+1,0,none⟩),.int .i64 0]))):=zh (ZuI HN.out (by omega) hs HT5.out hK6 (hjE▸hI6) (HB5.out.trans hB6));clear hI6 hB6 hK6;go_wp2_with fail;go_ret2;exact HR.out
end
section
open Go.ChangeShapes Go.WideShapes Go.RowKit
theorem ZdN {H:Type} {enc:TypeId×Value->H} {P:Program} {w:World} {base:Nat} {sp:Nat->Bool} {held:Bool} {fuel:Nat} {t:TypeId} {k:IntKind} {cs:List Value} {y:DataW H×List MemPlace} {n:Int}
  (ht:P.underlying t=some (.int k)) (h:DataW.trod enc P w base sp held fuel t cs=some y) (hy:y.1=.lit (.int k n)):cs=[.int k n]:=by
 obtain⟨m,rfl,e,_⟩:=DataW.trod_int ht h;rw [e] at hy;simp at hy;rw [hy]
theorem ZcL {H:Type} {enc:TypeId×Value->H} {P:Program} {w:World} {base:Nat} {sp:Nat->Bool} {held:Bool} {fuel n:Nat} {t e:TypeId} {k:IntKind} {cs:List Value} {ps:List MemPlace} {ns:List Int}
  (ht:P.underlying t=some (.array n e)) (he:P.underlying e=some (.int k)) (hc:P.cellsOf e=1) (hct:P.cellsOf t=ns.length)
  (h:DataW.trod enc P w base sp held fuel t cs=some (.agg (ns.map fun x=>.lit (.int k x)),ps)):cs=ns.map fun x=>.int k x:=by
 obtain⟨xs,m,hx0,hx,hl,hn,hel⟩:=DataW.trod_array ht h;simp only [Prod.mk.injEq,DataW.agg.injEq] at hx
 have hlen:xs.length=ns.length:=by
  have:=congrArg List.length hx.1;simpa using this.symm
 apply List.ext_getElem?;intro j;by_cases hj:j<ns.length
 ·have h1:=hel j (by omega);have hxj:xs[j]?=some (xs[j]'(by omega)):=List.getElem?_eq_getElem _;rw [hxj,hc] at h1;have hnj:ns[j]?=some ns[j]:=List.getElem?_eq_getElem hj
  have h2:=ZdN (n:=ns[j]) he h1 (by
   have:=congrArg (fun l=>l[j]?) hx.1;simp only [List.getElem?_map,hnj,hxj,Option.map_some,Option.some.injEq] at this;exact this.symm)
  have h3:=congrArg (fun l=>l[0]?) h2;rw [List.getElem?_map,hnj];simpa using h3
 ·rw [List.getElem?_eq_none (by omega),List.getElem?_eq_none (by simp;omega)]
theorem bounds_of_laid {W : World} (h : laidMetH Tryz.prog [("baler/tables.bounds", Rows.laid_baler_tables_bounds)] W) : Bnds W := by
 rw [MakeChecks.laidMetH_plain _ _ _ (by kernel_rfl)] at h;obtain⟨ps,⟨g0,t0,cs0,f0,p0,q0,hg0,ht0,hv0,hd0,_,_⟩,_,_⟩:=h;have e0:some g0=some 1:=hg0.symm.trans (by kernel_rfl);obtain rfl:g0=1:=Option.some.inj e0;have e1:some t0=some 325:=ht0.symm.trans (by kernel_rfl);obtain rfl:t0=325:=Option.some.inj e1;have hc:=ZcL (ns:=[200,600,1200,2400]) Tryz.underlying325 Tryz.underlying3 (by kernel_rfl) (by kernel_rfl) hd0;simp only [World.var?,hg0,Option.bind_some] at hv0;split at hv0
 ·rename_i cs t fr hh
  have hcs:cs=ZbG:=by
   have:cs=cs0:=by simpa using hv0
   rw [this];apply Array.toList_inj.1;exact hc
  exact⟨t,fr,by rw [<-hcs];exact hh⟩
 ·cases hv0
end
section
open Go.RowKit
section
variable {w w' : World} {t : Nat} {room : Int} {begun : Bool} {sum origin : Int} {list places : Value} {fr ot : Int} {wrong : Int} {done : Bool}
theorem Zt7 (w:World) (row:Option Addr) (a:Option Addr) (L cap H:Nat) (h:IsBk w t room begun sum origin list (.pointer row) places fr ot (.slice a L cap) wrong done)
  (HC:∀W,Below w.heap.size w W->Calls Tryz.prog 75 #[.pointer row] W fun e w'=>e=.returned (.int .i64 (H:Int))/\Below W.heap.size W w') (hb:H+L<=1000000000000) :
  Calls Tryz.prog 33 #[.pointer (some ⟨t,0,none⟩)] w fun e w'=>e=.returned (.int .i64 ((H+L:Nat):Int))/\Below w.heap.size w w':=by
 have hlt:=h.lt;have c5:∀sb:Beneath w.heap.size w,sb.val.cell? ⟨t,5,none⟩=some (.pointer row):=fun sb=>Beneath.cell (h.cell 5) hlt sb
 have c9:∀sb:Beneath w.heap.size w,sb.val.cell? ⟨t,9,none⟩=some (.slice a L cap):=fun sb=>Beneath.cell (h.cell 9) hlt sb
 have HC:=zh HC;obtain⟨K,hK⟩:∃K,H+L=K:=⟨_,rfl⟩
 have hs:(H:Int)+(L:Int)=(K:Int):=by omega
 have hw:IntKind.i64.wrap (K:Int)=(K:Int):=IntWalk.i64_in _ (by omega);rw [hK];clear h hlt hK;go_enter Tryz.func33,Tryz.ntmps33;go_wp2_with fail;refine ZaF w.heap.size w (Below.refl _ _) (by kernel_rfl) (by kernel_rfl) ?_
 repeat (go_big_quiet_step (first
  | (go_at_call 75;rename_i sb;exact Calls.beneath sb (Nat.le_refl _) (HC.out _ sb.is))))
 refine wpQuiet_nil ?_;rintro _ ⟨sb,rfl⟩;have HB:=zh sb.is;clear c5 c9;generalize sb.val=W6 at *;go_wp2_with fail;go_ret;exact⟨rfl,HB.out⟩
end
end
end Go.Proofs.YtnachbjhhpnadaaGreatDoor
