import Derived.Test.YtnachbjhhpnadaaGreatDoorBcC
import Derived.Test.YtnachbjhhpnadaaGreatDoorBcG
import Derived.Test.YtnachbjhhpnadaaGreatDoorBcJ
import Derived.Test.YtnachbjhhpnadaaGreatDoorBcK
import Derived.Deep.Cut
set_option linter.unusedVariables false
set_option linter.unusedSimpArgs false
set_option maxHeartbeats 8000000
set_option maxRecDepth 100000
namespace Go.Proofs.YtnachbjhhpnadaaGreatDoor
section
open Go.RowKit BitM HufM CanM CodM TabM FreqM
def May14 (zs:List Int) (n:Int):Prop:=3<=n/\n<=258/\1<=zs.length/\Syms zs n/\∀i,i<zs.length->(zs.getD i 0=n-1↔i+1=zs.length)
theorem May14.idx {zs:List Int} {n:Int} (h:May14 zs n):IdxP zs (n-1) ((zs.length:Int)-1):=by
 obtain⟨_,_,h1,_,h5⟩:=h;refine Or.inl ⟨zs.length-1,by omega,by omega,(h5 _ (by omega)).2 (by omega),fun j hj e=>?_⟩;have:=(h5 j (by omega)).1 e;omega
theorem Zix:(Tryz.prog.info? 144).map (·.size)=some 2:=by kernel_rfl
theorem Zmx (a:Option Addr) (len c:Nat) (zs:List Int) (N:Nat) (w:World) (hI:IsInts w (.slice a len c) zs) (hlen:zs.length=len) (hz:len<=1000) (hc:len<=c) (hc2:c<=9223372036854775807) (hB:Bnds w) (hm:May14 zs (N:Int)) :
  Calls Tryz.prog 108 #[.slice a len c,.int .i64 (N:Int)] w fun e w'=>∃(vL vP:Value),e=.returned (.tuple #[.agg #[vL,vP],.int .i64 0])/\(∀W:World,(∀k,w.heap.size<=k->k<w'.heap.size->W.heap[k]?=w'.heap[k]?)->w'.heap.size<=W.heap.size->IsRR W vL (rnd zs N 4)/\IsInts W vP (picksM zs (rnd zs N 3) (ng zs.length)))/\Below w.heap.size w w':=by
 have h0:=Zog w;have hB1:=(Below.refl w.heap.size w).alloc (Nat.le_refl _) (.cells #[.slice none 0 0,.slice none 0 0] 144);have HB1:=zh hB1;have hs1:(w.alloc (.cells #[.slice none 0 0,.slice none 0 0] 144)).heap.size=w.heap.size+1:=by simp
 have HS1:=zh hs1;have hi:=Zix;have h3:3<=N:=by have:=hm.1;omega
 have h258:N<=258:=by have:=hm.2.1;omega
 have h1:1<=len:=by have:=hm.2.2.1;omega
 have HIX:=Zgz _ zs ((N:Int)-1) ((zs.length:Int)-1) _ (hI.below hB1) hm.idx (by omega);have HOF:=zh (Zqs a len c zs N _ (hI.below hB1) hlen hz hc hc2 (hB.below hB1) hm.2.2.2.1 h1 h3 h258);rw [hlen] at HIX;have HIXH:=zh HIX;have hne:(((len:Int)-1) != (len:Int)-1)=false:=by simp
 have hne2:(((len:Int)-1)==(len:Int)-1)=true:=by simp
 clear hB1 hs1 hI hB hm HIX;go_enter Tryz.func108,Tryz.ntmps108;go_wp2_with fail;generalize hw1:w.alloc (.cells #[.slice none 0 0,.slice none 0 0] 144)=w1 at *;clear hw1;refine HIXH.out.mono ?_;rintro e w2 ⟨rfl,rfl⟩;go_wp2_with fail;refine HOF.out.mono ?_;rintro e w3 ⟨vL,vP,rfl,hk,hb3⟩;have hg3:w3.heap[w.heap.size]?=some (.cells #[.slice none 0 0,.slice none 0 0] 144 (0,0)):=(hb3.block _ (by rw [HS1.out];omega)).trans h0;have HB3:=zh (HB1.out.trans (hb3.mono HB1.out.size));obtain⟨⟨aL,cL,rfl,_⟩,⟨aP,cP,rfl,_⟩⟩:=hk w3 (fun _ _ _=>rfl) (Nat.le_refl _);obtain⟨M1,hM1⟩:∃M,(rnd zs N 4).length=M:=⟨_,rfl⟩
 obtain⟨M2,hM2⟩:∃M,(picksM zs (rnd zs N 3) (ng zs.length)).length=M:=⟨_,rfl⟩
 rw [hM1,hM2] at hk ⊢
 have HK:Hid (∀W:World,(∀k,w.heap.size<=k->k<(w3.setRow w.heap.size #[.slice aL M1 cL,.slice aP M2 cP]).heap.size->W.heap[k]?=(w3.setRow w.heap.size #[.slice aL M1 cL,.slice aP M2 cP]).heap[k]?)->(w3.setRow w.heap.size #[.slice aL M1 cL,.slice aP M2 cP]).heap.size<=W.heap.size->IsRR W (.slice aL M1 cL) (rnd zs N 4)/\IsInts W (.slice aP M2 cP) (picksM zs (rnd zs N 3) (ng zs.length))):=zh (fun W hW hs=>hk W (fun k hk hk2=>by
  have h5:=HS1.out;exact(hW k (by omega) (by rw [Zaw];exact hk2)).trans (setRow_other w3 w.heap.size k _ (by omega))) (by rw [Zaw] at hs;exact hs))
 clear hk hb3 h0 hM1 hM2 HOF HIXH;go_wp2_with (refine wpList_store_row rfl 144 _ _ rfl w.heap.size #[.slice aL M1 cL,.slice aP M2 cP] rfl rfl 144 _ hg3 hi rfl (Zgx _ _ _ _ _ _) ?_);exact bodyPost_ret (v:=.tuple #[.agg #[.slice aL M1 cL,.slice aP M2 cP],.int .i64 0]) (Zgy rfl _ _ ⟨w.heap.size,0,none⟩ _ _ rfl rfl (Zof _ _ _ _ (setRow_heap _ _ _ _ _ _ hg3))) rfl ⟨_,_,rfl,HK.out,Zae HB3.out (Nat.le_refl _) _⟩
end
section
open Go.RowKit TabM FreqM HufM
theorem Zft {zs:List Int} {N:Nat} (h3:3<=N) (h258:N<=258) (hz:zs.length<=2000000) (i:Nat) {p:Nat} (hp:p<(rnd zs N (i+1)).length):(rw_ (rnd zs N (i+1)) p).length=N/\WholeP (rw_ (rnd zs N (i+1)) p):=by
 have e:rw_ (rnd zs N (i+1)) p=lensF (counts (took zs (rnd zs N i) p (ng zs.length)) N):=by
  unfold rw_;rw [List.getD_eq_getElem?_getD,List.getElem?_eq_getElem hp];simp only [rnd,roundM,List.getElem_map,List.getElem_range,Option.getD_some]
 rw [e];have h1:=Zcg (Zld (zs:=took zs (rnd zs N i) p (ng zs.length)) h3 h258 (by have:=ZcE zs (rnd zs N i) p (ng zs.length);omega));rw [Zaq] at h1;exact⟨h1.1,h1.2.1,h1.2.2⟩
end
section
open Go.RowKit BitM HufM CanM CodM TabM FreqM
noncomputable def pks (zs:List Int) (N:Nat):List Nat:=(List.range (ng zs.length)).map fun i=>pickM (grp zs i) (rnd zs N 3)
theorem Zdd (zs:List Int) (N:Nat):(pks zs N).length=ng zs.length:=by simp [pks]
theorem Zoq (zs:List Int) (N:Nat):picksM zs (rnd zs N 3) (ng zs.length)=PkM.toI (pks zs N):=by
 unfold picksM PkM.toI pks;rw [List.map_map];rfl
theorem Ziy {zs:List Int} {N:Nat}:∀x∈pks zs N,x<(rnd zs N 4).length:=by
 intro x hx;unfold pks at hx;obtain⟨i,_,rfl⟩:=List.mem_map.1 hx;have h1:=Zc9 (zs.length:Int);have h2:=Zlb (grp zs i) (rows:=rnd zs N 3) (by rw [Zd0];omega);rw [Zd0] at h2 ⊢;exact h2
theorem May14.pk {zs:List Int} {N:Nat} (h:May14 zs (N:Int)) (hz:zs.length<=1000):PkM.May (pks zs N) (rnd zs N 4).length:=by
 have h1:=Zc9 (zs.length:Int);have h2:=h.2.2.1;refine⟨by rw [Zd0];omega,by rw [Zd0];omega,?_,?_,Ziy⟩
 ·rw [Zdd];unfold ng;omega
 ·rw [Zdd];unfold ng;omega
theorem May14.whs {zs:List Int} {N:Nat} (h:May14 zs (N:Int)) (hz:zs.length<=1000):Whs N (rnd zs N 4):=by
 intro g hg;obtain⟨p,hp,rfl⟩:=List.getElem_of_mem hg;have:=Zft (zs:=zs) (N:=N) (by have:=h.1;omega) (by have:=h.2.1;omega) (by omega) 3 hp;unfold rw_ at this;rw [List.getD_eq_getElem?_getD,List.getElem?_eq_getElem hp] at this;exact this
theorem Zor {zs:List Int} {N k:Nat} (hk:k<ng zs.length):(pks zs N).getD k 0<(rnd zs N 4).length:=by
 refine Ziy _ ?_;rw [List.getD_eq_getElem?_getD,List.getElem?_eq_getElem (by rw [Zdd];exact hk)];exact List.getElem_mem _
theorem May14.tbs {zs:List Int} {N:Nat} (h:May14 zs (N:Int)) (hz:zs.length<=1000):Tbs N (rnd zs N 4) (pks zs N) zs.length:=by
 intro n hn;have h1:n / 50<ng zs.length:=by unfold ng;omega
 refine⟨by rw [Zdd];exact h1,?_⟩;have h2:=Zor (N:=N) h1;unfold CodM.tb;rw [List.getD_eq_getElem?_getD (l:=rnd zs N 4),List.getElem?_eq_getElem h2];exact h.whs hz _ (List.getElem_mem h2)
theorem May14.endp {zs:List Int} {N:Nat} (h:May14 zs (N:Int)):EndP N zs:=⟨h.2.2.2.1,h.2.2.2.2⟩
theorem May14.costs {zs:List Int} {N:Nat} (h:May14 zs (N:Int)) (hz:zs.length<=1000):CostsOk zs (rnd zs N 4) (PkM.toI (pks zs N)):=by
 have h3:3<=N:=by have:=h.1;omega
 have h258:N<=258:=by have:=h.2.1;omega
 refine⟨by rw [PkM.toI_length,Zdd],fun i hi=>?_⟩;rw [PkM.toI_length,Zdd] at hi;have h2:=Zor (N:=N) hi;obtain⟨k1,k2⟩:(rw_ (rnd zs N 4) ((pks zs N).getD _ 0)).length=N/\WholeP (rw_ (rnd zs N 4) ((pks zs N).getD _ 0)):=Zft (zs:=zs) (N:=N) h3 h258 (by omega) 3 h2;unfold PkOk;rw [PkM.toI_getD,Int.toNat_natCast];refine⟨by omega,by omega,?_,fun x hx=>?_⟩
 ·rw [k1];exact Zdz h.2.2.2.1 i
 ·have:=k2.1 x hx;omega
theorem May14.total {zs:List Int} {N:Nat} (h:May14 zs (N:Int)) (hz:zs.length<=1000):∀k,k<=ng zs.length->tcC zs (rnd zs N 4) (PkM.toI (pks zs N)) k=((symT (rnd zs N 4) (pks zs N) 0 (zs.take (50*k))).length:Int)
 | 0,_=>by
  rw [tcC,Nat.mul_zero,List.take_zero];rfl
 | k+1,hk=>by
  have h3:3<=N:=by have:=h.1;omega
  have h258:N<=258:=by have:=h.2.1;omega
  have ih:=h.total hz k (by omega);have hk1:50*k<zs.length:=by unfold ng at hk;omega
  have hk2:k<ng zs.length:=by omega
  have h2:=Zor (N:=N) hk2;obtain⟨k1,k2⟩:(rw_ (rnd zs N 4) ((pks zs N).getD _ 0)).length=N/\WholeP (rw_ (rnd zs N 4) ((pks zs N).getD _ 0)):=Zft (zs:=zs) (N:=N) h3 h258 (by omega) 3 h2;have hS:=Zdz h.2.2.2.1 k;have hgl:=ZcB zs k;have hcb:=Zg8 (N:=N) hS k1 (fun z hz=>by have:=k2.1 z hz;omega)
  have hg:=Zlg (rnd zs N 4) (pks zs N) k (grp zs k) (50*k) (Nat.le_refl _) (by omega) (fun x hx=>by
   have hx2:=hS x hx;have:=k2.1 _ (FreqM.getD_mem (rw_ (rnd zs N 4) ((pks zs N).getD k 0)) x.toNat (by omega));unfold rw_ at this;omega)
  have hle:=Zda (h.tbs hz) (zs.take (50*k)) 0 (fun x hx=>h.2.2.2.1 x (List.mem_of_mem_take hx)) (by rw [List.length_take];omega);rw [List.length_take] at hle;unfold rw_ at hcb;rw [tcC,ih];unfold gc;rw [PkM.toI_getD,Int.toNat_natCast];unfold rw_;have e1:cap (costS (grp zs k) ((rnd zs N 4).getD ((pks zs N).getD k 0) []))=costS (grp zs k) ((rnd zs N 4).getD ((pks zs N).getD k 0) []):=Zgo _ (by omega);rw [e1,Zgo _ (by omega),<-hg,FreqM.take_next,Zhc,List.length_append,List.length_take,Nat.min_eq_left (by omega),Nat.zero_add];omega
theorem May14.cost {zs:List Int} {N:Nat} (h:May14 zs (N:Int)) (hz:zs.length<=1000) {n err:Int} (hp:CostsP zs (rnd zs N 4) (PkM.toI (pks zs N)) n err):n=((symB (rnd zs N 4) (pks zs N) zs zs.length).length:Int)/\err=0/\(symB (rnd zs N 4) (pks zs N) zs zs.length).length<=20000:=by
 have hle:=Zda (h.tbs hz) zs 0 h.2.2.2.1 (by omega);rcases hp with⟨_,h1,h2⟩|⟨h1,_⟩
 ·refine⟨?_,h2,?_⟩
  ·rw [h1,PkM.toI_length,Zdd,h.total hz _ (Nat.le_refl _)];unfold symB;rw [List.take_of_length_le (by unfold ng;omega),List.take_length]
  ·unfold symB;rw [List.take_length];omega
 ·exact absurd (h.costs hz) h1
end
section
open Go.RowKit DelM BitM
end
section
open Go.RowKit BitM HufM CanM CodM TabM FreqM
structure ChB (w w2:World) (B:Nat) (vL vP:Value) (gs:List (List Int)) (ps:List Int):Prop where
 bel:Below w.heap.size w w2
 lo:w.heap.size<=B
 box:w2.heap[B]?=some (.cells #[vL,vP] 144 (0,0))
 rows:∀W,Touch (·<w.heap.size) w2 W->IsRR W vL gs/\IsInts W vP ps
theorem ChB.of {w w1:World} {vL vP:Value} {gs:List (List Int)} {ps:List Int} (hb:Below w.heap.size w w1)
  (hk:∀W:World,(∀k,w.heap.size<=k->k<w1.heap.size->W.heap[k]?=w1.heap[k]?)->w1.heap.size<=W.heap.size->IsRR W vL gs/\IsInts W vP ps) :
  ChB w (w1.alloc (.cells #[vL,vP] 144)) w1.heap.size vL vP gs ps:=by
 have hs:(w1.alloc (.cells #[vL,vP] 144)).heap.size=w1.heap.size+1:=by simp
 refine⟨hb.alloc hb.size _,hb.size,heap_alloc_new w1 _,fun W hW=>hk W (fun k h1 h2=>?_) (by have:=hW.size;omega)⟩;rw [hW.block k (by omega) (by omega)];exact Zam h2
theorem ChB.cells {w w2 W:World} {B:Nat} {vL vP:Value} {gs:List (List Int)} {ps:List Int} (h:ChB w w2 B vL vP gs ps) (hW:Touch (·<w.heap.size) w2 W):W.cell? ⟨B,0,none⟩=some vL/\W.cell? ⟨B,1,none⟩=some vP/\W.heap[B]?=some (.cells #[vL,vP] 144 (0,0)):=by
 have h1:=h.lo;have hg:W.heap[B]?=some (.cells #[vL,vP] 144 (0,0)):=(hW.block B (Array.getElem?_eq_some_iff.1 h.box).1 (by omega)).trans h.box;refine⟨?_,?_,hg⟩
 ·rw [cell_of_row _ _ _ _ _ _ hg];rfl
 ·rw [cell_of_row _ _ _ _ _ _ hg];rfl
end
section
open Go.RowKit PkM BitM
def WroteB (w:World) (g:Nat) (v:Value) (tk:Nat) (q:List Bool) (B:Nat) (w':World):Prop:=
 ∃v1,IsWriter w' g v1 q tk/\Touch (foot g v) w w'/\(∀k,v1.ownBlock=some k->v.ownBlock=some k\/w.heap.size<=k)/\v1.ownBlock≠some B/\g≠B/\B<w'.heap.size/\w.heap.size<=B
theorem WroteB.put {w w':World} {g:Nat} {v:Value} {tk:Nat} {q:List Bool} {B:Nat} (h:WroteB w g v tk q B w') (X n:Nat) (hn:n<=32) (hX:X<2^n) (hq:q.length<=1099511627776) :
  Calls Tryz.prog 47 #[.pointer (some ⟨g,0,none⟩),.int .u32 (X:Int),.int .i64 (n:Int)] w' fun e w2=>e=.returned (.int .i64 0)/\WroteB w g v tk (q++field X n) B w2/\Touch (fun k=>k≠B) w' w2:=by
 obtain⟨v1,h1,h2,h3,h4,h5,h6,h7⟩:=h;refine(ZdX g v1 q tk X n w' h1 hn hX hq).mono ?_;rintro e w2 ⟨rfl,v2,k1,k2,k3⟩;refine⟨rfl,⟨v2,k1,h2.trans k2 (fun j hj=>?_),fun k hk=>?_,fun hb=>?_,h5,Nat.lt_of_lt_of_le h6 k2.size,h7⟩,k2.mono (fun k hk=>?_)⟩
 ·rcases hj with hj|hj
  ·exact Or.inl (Or.inl hj)
  ·rcases h3 j hj with h|h
   ·exact Or.inl (Or.inr h)
   ·exact Or.inr h
 ·rcases k3 k hk with h|h
  ·exact h3 k h
  ·exact Or.inr (Nat.le_trans h2.size h)
 ·rcases k3 B hb with h|h
  ·exact h4 h
  ·omega
 ·rcases hk with rfl|hk
  ·exact h5
  ·rintro rfl;exact h4 hk
theorem WroteB.box {w w' w2:World} {g:Nat} {v:Value} {tk:Nat} {q:List Bool} {B:Nat} (h:WroteB w g v tk q B w') (ht:Touch (·=B) w' w2):WroteB w g v tk q B w2:=by
 obtain⟨v1,h1,h2,h3,h4,h5,h6,h7⟩:=h;refine⟨v1,h1.other ht (fun k hk hh=>?_),h2.trans ht (fun i hi=>Or.inr (by have:i=B:=hi;omega)),h3,h4,h5,Nat.lt_of_lt_of_le h6 ht.size,h7⟩;have hh:k=B:=hh;subst hh;rcases hk with h|h
 ·exact h5 h.symm
 ·exact h4 h
theorem WroteB.out {w w':World} {g:Nat} {v:Value} {tk:Nat} {q:List Bool} {B:Nat} (h:WroteB w g v tk q B w'):Wrote w g v tk q w':=by
 obtain⟨v1,h1,h2,h3,_⟩:=h;exact⟨v1,h1,h2,h3⟩
theorem Wrote.beside {w w' w2:World} {g:Nat} {v:Value} {tk:Nat} {q:List Bool} (h:Wrote w g v tk q w') (hb:Below w'.heap.size w' w2) (B:Nat) (hB:w'.heap.size<=B) (hB2:B<w2.heap.size) (hg:∀k,foot g v k->k<w.heap.size):WroteB w g v tk q B w2:=by
 obtain⟨v1,h1,h2,h3⟩:=h;have hs:=h2.size;have hlt:=fun k hk=>(h1.lt k hk).1
 have hg2:=hg g (Or.inl rfl);refine⟨v1,h1.other (Touch.ofBelow (S:=fun _=>False) hb) (fun _ _ h=>h),h2.trans (Touch.ofBelow (S:=fun _=>False) hb) (fun _ hi=>absurd hi id),h3,fun hh=>?_,by omega,hB2,by omega⟩;have:=hlt B (Or.inr hh);omega
theorem Zmy (g:Nat) (v l:Value) (ps:List Nat) (t:Nat) (q:List Bool) (tk:Nat) (w:World) (hw:IsWriter w g v q tk) (hst:∀w',Touch (foot g v) w w'->IsInts w' l (toI ps)) (hm:May ps t) (hq:q.length<=1099511000000) :
  Calls Tryz.prog 109 #[.pointer (some ⟨g,0,none⟩),l,.int .i64 (t:Int)] w fun e w'=>e=.returned (.int .i64 0)/\Wrote w g v tk (q++allB ps t) w':=by
 have hv:=hst w (Touch.refl _ _);have HV:=zh hv;have HST:=zh hst;have HM:=zh hm;have HW0:=zh hw;have HS:=zh (Wrote.start hw);have hlz:=toI_length ps;have HMAY:=zh (Zqt l (toI ps) (t:Int) true w hv ⟨fun _=>hm.int,fun _=>rfl⟩ (by have:=hm.2.2.2.1;omega));have hn1:=hm.2.2.1;have hn2:=hm.2.2.2.1;have ht2:=hm.1;have ht6:=hm.2.1;obtain⟨ad,cap,rfl,_⟩:=hv;obtain⟨N,hN⟩:∃N,ps.length=N:=⟨_,rfl⟩
 have HALL:Hid (allB ps t=field t 3++field N 15++encK ps N):=zh (by unfold allB;rw [hN,encK_all ps N (by omega)]);rw [hlz] at HMAY HST ⊢;rw [hN] at hn1 hn2 hlz HMAY HST ⊢;have HZ:=zh hlz;have HN:=zh hN;have HP1:=zh (fun W (hh:Wrote w g v tk q W)=>hh.put t 3 (by omega) (show t<8 by omega) (by omega));have HP2:=zh (fun W (hh:Wrote w g v tk (q++field t 3) W)=>hh.put N 15 (by omega) (show N<32768 by omega) (by rw [List.length_append,Zac];omega));have hc1:IntKind.u32.wrap (t:Int)=(t:Int):=by simp [IntKind.wrap,IntKind.bits,IntKind.signed];omega
 have hc2:IntKind.u32.wrap (N:Int)=(N:Int):=by simp [IntKind.wrap,IntKind.bits,IntKind.signed];omega
 clear hst hm hw hlz hN;go_enter Tryz.func109,Tryz.ntmps109;go_wp2_with fail;refine HMAY.out.mono ?_;rintro e w' ⟨rfl,rfl⟩;go_wp2_with fail;refine(HP1.out _ HS.out).mono ?_;rintro e w1 ⟨rfl,hW1⟩;have HW1:=zh hW1;clear hW1 HP1;go_wp2_with fail;refine(HP2.out _ HW1.out).mono ?_;rintro e w2 ⟨rfl,hW2⟩;have HW2:=zh hW2;clear hW2 HP2 HW1;go_wp2_with fail;refine(Zfl w2).mono ?_;rintro e w3 ⟨rfl,hb3⟩;have hg1:=heap_alloc_new w3 (.cells #[.int .i64 0,.int .i64 0,.int .i64 0,.int .i64 0,.int .i64 0,.int .i64 0] 221);have HBX:Hid (LstAt 6 221 (boxed w3) w3.heap.size 0 (ordF O6) O6):=zh (Zit w3);have HWB:Hid (WroteB w' g v tk (q++field t 3++field N 15) w3.heap.size (boxed w3)):=zh (HW2.out.beside (hb3.trans ((ZjS w3).mono hb3.size)) _ hb3.size (Zit w3).1.lt (fun k hk=>(HW0.out.lt k hk).1));clear hb3;go_wp2_with (refine wpList_store_row rfl 221 _ _ rfl w3.heap.size (ordA O6) rfl rfl 221 _ hg1 Ziu Zqw (Zhk O6) ?_);change Code.wp _ _ _ _ (boxed w3);obtain⟨B,hB⟩:∃B,w3.heap.size=B:=⟨_,rfl⟩
 rw [hB] at HBX HWB;simp only [hB];clear hg1 hB;generalize boxed w3=w4 at *;obtain⟨Q0,hQ0⟩:∃Q0,q++field t 3++field N 15=Q0:=⟨_,rfl⟩
 have HQ0:=zh hQ0;have hQ0l:Q0.length<=1099511100000:=by rw [<-hQ0,List.length_append,List.length_append,Zac,Zac];omega
 rw [hQ0] at HWB;clear hQ0
 go_loopw [28] (fun vk wr=>∃k:Nat,vk=.int .i64 (k:Int)/\k<=N/\WroteB w' g v tk (Q0++encK ps k) B wr/\∃F,LstAt 6 221 wr B 0 F (ordK ps k)) (fun vk _=>N-(intOf vk).toNat)
 case atStart=>exact⟨0,rfl,by omega,by rw [show encK ps 0=[] from rfl,List.append_nil];exact HWB.out,_,HBX.out⟩
 case round=>
  clear HBX HWB;obtain⟨k,rfl,hk,hW,F,hL⟩:=hrel;have HW:=zh hW;have HL:=zh hL;clear hW hL;have hkl:=encK_len ps HM.out.2.1 HM.out.2.2.2.2 k (by rw [HN.out];exact hk);by_cases hlk:k<N
  ·have hki:(k:Int)<(N:Int):=by omega
   have hkp:k<ps.length:=by rw [HN.out];exact hlk
   have HVk:=zh (HST.out wr HW.out.out.touch);obtain⟨b1,o1,k1,he1,c1⟩:=HVk.out.cell (k:=k) (by rw [HZ.out];exact hlk);rw [HZ.out] at he1;simp only [Value.slice.injEq] at he1;obtain⟨rfl,_,rfl⟩:=he1;rw [toI_getD] at c1
   have hpm:ps.getD k 0<t:=by
    rw [List.getD_eq_getElem?_getD,List.getElem?_eq_getElem hkp];exact HM.out.2.2.2.2 _ (List.getElem_mem _)
   have hO:=ZeG ps HM.out.2.1 HM.out.2.2.2.2 k (by omega);have hpo:ps.getD k 0∈ordK ps k:=List.mem_of_mem_take ((hO.1.2 _).1 hpm);have hIl:=(hO.1.place HM.out.2.1 hpm).1;have HEN:=zh (Ze2 ps hkp);have HON:=zh (Ze3 ps hkp);have HPL:=zh (Zmq 6 221 B 0 (ps.getD k 0) F (ordK ps k) wr HL.out hpo);obtain⟨I,hI⟩:∃I,(ordK ps k).idxOf (ps.getD k 0)=I:=⟨_,rfl⟩
   rw [hI] at HEN HON HPL hIl;obtain⟨x,hx⟩:∃x,ps.getD k 0=x:=⟨_,rfl⟩
   rw [hx] at c1 HPL;obtain⟨Q,hQ⟩:∃Q,Q0++encK ps k=Q:=⟨_,rfl⟩
   have HQ:=zh hQ;have hQl:Q.length<=1099511400000:=by rw [<-hQ,List.length_append];omega
   rw [hQ] at HW;clear hpm hO hpo hI hx HVk hkp hQ hkl;go_wp2_with fail;refine HPL.out.mono ?_;rintro e w5 ⟨rfl,⟨F2,hL2,_⟩,hT2⟩;have HL2:=zh hL2;have HW5:=zh (HW.out.box hT2);clear hL2 hT2 HW HL HPL;go_wp2_with fail;obtain⟨wa,rfl⟩:∃wa:World,wa=wr:=⟨_,rfl⟩
   go_loopw [34] (fun vj wr2=>∃j:Nat,j<=I/\vj=.int .i64 (j:Int)/\WroteB w' g v tk (Q++List.replicate j true) B wr2/\LstAt 6 221 wr2 B 0 F2 (tch (ordK ps k) I)) (fun vj _=>I-(intOf vj).toNat)
   case atStart=>exact⟨0,by omega,rfl,by rw [List.replicate_zero,List.append_nil];exact HW5.out,HL2.out⟩
   case round=>
    clear HW5 HL2;obtain⟨j,hj,rfl,hWj,hLj⟩:=hrel;have HWj:=zh hWj;have HLj:=zh hLj;clear hWj hLj;have hl2:(Q++List.replicate j true).length<=1099511627776:=by rw [List.length_append,List.length_replicate];omega
    by_cases hlt:j<I
    ·have hlti:(j:Int)<(I:Int):=by omega
     have HPP:=zh (HWj.out.put 1 1 (by omega) (by decide) hl2);clear hl2;go_wp2_with fail;refine HPP.out.mono ?_;rintro e w6 ⟨rfl,hW6,hT6⟩;have HW6:Hid (WroteB w' g v tk (Q++List.replicate (j+1) true) B w6):=zh (by rw [List.replicate_succ',<-List.append_assoc];exact hW6);have HL6:Hid (LstAt 6 221 w6 B 0 F2 (tch (ordK ps k) I)):=zh ⟨HLj.out.1.other hT6 (fun h=>h rfl),HLj.out.2⟩;clear hW6 hT6;go_wp2_with fail;go_roundw
     case rel=>exact⟨j+1,by omega,by go_num,HW6.out,HL6.out⟩
     case measure=>simp [intOf];omega
    ·have hlti:¬(j:Int)<(I:Int):=by omega
     obtain rfl:j=I:=by omega
     have HPP:=zh (HWj.out.put 0 1 (by omega) (by decide) hl2);clear hl2;go_wp2_with fail;refine HPP.out.mono ?_;rintro e w6 ⟨rfl,hW6,hT6⟩;have HW6:Hid (WroteB w' g v tk (Q0++encK ps (k+1)) B w6):=zh (by rw [HEN.out,<-List.append_assoc,HQ.out,<-List.append_assoc];exact hW6);have HL6:Hid (LstAt 6 221 w6 B 0 F2 (ordK ps (k+1))):=zh (by rw [HON.out];exact⟨HLj.out.1.other hT6 (fun h=>h rfl),HLj.out.2⟩);clear hW6 hT6;go_wp2_with fail;go_roundw
     case rel=>exact⟨k+1,by go_num,by omega,HW6.out,F2,HL6.out⟩
     case measure=>simp [intOf];omega
  ·have hki:¬(k:Int)<(N:Int):=by omega
   obtain rfl:k=N:=by omega
   go_wp2_with fail;go_ret;exact⟨rfl,by rw [HALL.out,<-List.append_assoc,<-List.append_assoc,HQ0.out];exact HW.out.out⟩
end
section
open Go.RowKit BitM HufM CanM CodM PkM
def OutC (kf:Int->Int) (w w':World) (b rb N:Nat) (O:Nat->Prop) (v:Value) (l:List UInt8) (dr sp p:Nat) (Q q r:List Bool) (most a:Nat) (L:List Int) (s:CSt) (e:Ending):Prop:=
 ∃(x er:Int) (used:Nat) (O':Nat->Prop),e=.returned (.tuple #[.int .i64 x,.int .i64 er])/\IsReader w' rb v l dr sp (p+used)/\Touch (fun k=>O k\/k=rb) w w'/\(∀k,O' k->O k\/w.heap.size<=k)/\used<=q.length /\
  ((er=0/\1<=used/\∃s',IsCR w' b N O' s'/\((x=-1/\s'.done=false/\RtC Q N most (a+used) L s'/\s'.cnt=L.length) \/
    (∃i:Nat,i<N/\x=(i:Int)/\s'.cnt=L.length+1/\s'.done=decide (i+1=N)/\(L.length=most->rdC Q N most=.err 2 [])/\(L.length<most->RtC Q N most (a+used) (L++[(i:Int)]) s')))) \/
   (er≠0/\er≠3/\x=0/\IsCB w' b (kf er) O'/\rdC Q N most=.err er L) \/
   (er=3/\used=0/\x=0/\IsCR w' b N O' s/\(r=[]->rdC Q N most=.err 3 L)))
theorem Zbj {w w1 w2:World} {O:Nat->Prop} {rb:Nat} (h:Touch (fun k=>O k\/k=rb) w w1) (k:Touch (fun k=>O k\/k=rb) w1 w2):Touch (fun k=>O k\/k=rb) w w2:=h.trans k (fun _ hj=>Or.inl hj)
theorem cd_b {w w':World} {O:Nat->Prop} {b rb:Nat} (h:Touch (·=b) w w') (hO:O b):Touch (fun k=>O k\/k=rb) w w':=h.mono (fun k hk=>Or.inl (by rw [show k=b from hk];exact hO))
theorem Ztw {w w':World} {O:Nat->Prop} {g rb:Nat} {pv:Value} (h:Touch (fun k=>foot g pv k\/k=rb) w w') (hO:∀k,foot g pv k->O k):Touch (fun k=>O k\/k=rb) w w':=h.mono (fun k hk=>hk.imp (hO k) id)
theorem ZjV (b rb N:Nat) (O:Nat->Prop) (v:Value) (l:List UInt8) (dr sp p:Nat) (w:World) (Q r:List Bool) (most:Nat) (hC:IsCR w b N O .fields) (hR:IsReader w rb v l dr sp p) (hs:dr+l.length<=1099511627776)
  (hne:∀k,foot rb v k->¬O k) (hq:Q.drop 0=(bitsOf l).drop (p-8*dr)++r) :
  Calls Tryz.prog 237 #[.pointer (some ⟨b,0,none⟩),.pointer (some ⟨rb,0,none⟩)] w fun e w'=>OutC (fun _=>0) w w' b rb N O v l dr sp p Q ((bitsOf l).drop (p-8*dr)) r most 0 [] .fields e:=by
 obtain⟨F,g,pv,o,hO,hCC,hP,hOb,hft⟩:=hC;have HNE:=zh hne;have HFT:=zh hft;have HOB:=zh hOb;have HCC:=zh hCC;obtain⟨c0,c1,c2,c3,c4,c5,c6,c7,c8,c9,c10⟩:=Zap hO hCC;have HO:=zh hO;have HST:=ZgA g rb pv 0 0 [] o false v l dr sp p w hP hR hs (fun k hk hh=>hne k hk (hft k hh).1) (Or.inl rfl);have HDS:=RtC.fields (N:=N) (most:=most) o hq;have hps:=Zic ((bitsOf l).drop (p-8*dr)) 0 [] o;generalize hod:pstep ((bitsOf l).drop (p-8*dr)) 0 0 [] o false=D at *;have HSTH:=zh HST;have HDSH:=zh HDS;have HPS:=zh hps;have hrb:Hid (¬O rb):=zh (hne rb (Or.inl rfl));unfold ptr at c3;clear hne hft hOb hCC hO hP hR HST HDS hps hod hq c0 c1 c2 c4 c5 c6 c7 c8 c9 c10;go_enter Tryz.func237,Tryz.ntmps237;go_wp2_with fail;refine HSTH.out.mono ?_;rintro e w1 ⟨pv1,rfl,hp1,hr1,ht1,hf1⟩
 have hO1:=HO.out.other ht1 (by
  rintro(e|e)
  ·exact(HFT.out b e).2 rfl
  ·exact hrb.out (e▸HOB.out))
 have HO1:=zh hO1;have HR1:=zh hr1;have HT1:=zh (Ztw (O:=O) ht1 (fun k hk=>(HFT.out k hk).1))
 have hnew:∀k,foot g pv1 k->foot g pv k\/w.heap.size<=k:=fun k hk=>by
  rcases hk with rfl|hk
  ·exact Or.inl (Or.inl rfl)
  ·exact(hf1 k hk).imp Or.inr id
 have hbw:b<w.heap.size:=HO.out.lt
 have HNW:Hid (∀k,foot g pv1 k->(O k\/w.heap.size<=k)/\k≠b):=zh (fun k hk=>by
  rcases hnew k hk with h|h
  ·exact⟨Or.inl (HFT.out k h).1,(HFT.out k h).2⟩
  ·exact⟨Or.inr h,by omega⟩)
 have HP1:=zh hp1;clear hp1 hr1 ht1 hf1 hnew HSTH c3;rcases HDSH.out with⟨e1,e2,e3,e4,e5⟩|⟨e1,e3,e4⟩|⟨e1,e2⟩
 ·have d1:=(HO1.out.cell (i:=1) (by omega)).1;have f1:=(HO1.out.cell (i:=1) (by omega)).2;have HE4:=zh e4;have HE3:=zh e3;have HE5:=zh e5;rw [e2] at HP1;rw [e1];clear e1 e2 e3 e4 e5 HDSH hO1;go_wp2_with fail;go_ret2;have hT:Touch (·=b) w1 (w1.setCell ⟨b,1,none⟩ (mth 265 b)):=Zaa (Touch.refl _ _);refine⟨-1,0,D.used,fun k=>k=b\/foot g pv1 k,rfl,HR1.out.other hT (fun k hk e=>HNE.out k hk (by rw [show k=b from e];exact HOB.out)),Zbj HT1.out (cd_b hT HOB.out),fun k hk=>?_,HE4.out,Or.inl ⟨rfl,HE3.out,.pick D.t D.n D.ps D.o,⟨_,g,pv1,HO1.out.set 1 _,?_,HP1.out.other hT (fun k hk e=>(HNW.out k hk).2 e),Or.inl rfl,fun k hk=>⟨Or.inr hk,(HNW.out k hk).2⟩⟩,Or.inl ⟨rfl,rfl,by rw [Nat.zero_add];exact HE5.out,rfl⟩⟩⟩
  ·rcases hk with rfl|hk
   ·exact Or.inl HOB.out
   ·exact(HNW.out k hk).1
  ·have h1:=HCC.out.s_nx (mth 265 b);rw [HPS.out];exact h1
 ·have HE4:=zh e4;have HE3:=zh e3;rw [e1];clear e1 e3 e4 HDSH hO1;go_wp2_with fail;go_ret2;exact⟨0,25,D.used,fun k=>k=b,rfl,HR1.out,HT1.out,fun k hk=>Or.inl (by rw [hk];exact HOB.out),HE3.out,Or.inr (Or.inl ⟨by decide,by decide,rfl,⟨F,_,_,_,_,_,_,_,_,_,HO1.out,HCC.out,rfl⟩,HE4.out⟩)⟩
 ·have HE2:=zh e2;subst e1;clear e2 HDSH hO1;go_wp2_with fail;go_ret2;refine⟨0,3,0,fun k=>k=b\/foot g pv1 k,rfl,HR1.out,HT1.out,fun k hk=>?_,Nat.zero_le _,Or.inr (Or.inr ⟨rfl,rfl,rfl,⟨F,g,pv1,o,HO1.out,HCC.out,HP1.out,Or.inl rfl,fun k hk=>⟨Or.inr hk,(HNW.out k hk).2⟩⟩,HE2.out⟩)⟩;rcases hk with rfl|hk
  ·exact Or.inl HOB.out
  ·exact(HNW.out k hk).1
end
section
open Go.RowKit BitM HufM CanM CodM
theorem Zbs {α:Type} (l:List α) (x d:α) {i:Nat} (h:i<l.length):(l++[x]).getD i d=l.getD i d:=by
 rw [List.getD_eq_getElem?_getD,List.getElem?_append_left h,List.getD_eq_getElem?_getD]
theorem Zbt {α:Type} (l:List α) (x d:α) {i:Nat} (h:i=l.length):(l++[x]).getD i d=x:=by
 subst h;rw [List.getD_eq_getElem?_getD,List.getElem?_append_right (Nat.le_refl _),Nat.sub_self];rfl
theorem Zeo {W w':World} {Pb:Nat->Prop} {cu v':Value} {bs:List Nat} {base cb:Nat} {gs:List (List Int)} {ls:List Int} (hown:OwnP w' base v' (bs++[cb])) (hlen:bs.length=gs.length) (hb:base<=w'.heap.size) (hsz:W.heap.size<=w'.heap.size)
  (hfr:∀k,v'.ownBlock=some k->cu.ownBlock=some k\/W.heap.size<=k) (hcs:∀i,i<gs.length->IsCode w' (bs.getD i 0) (gs.getD i [])/\Pb (bs.getD i 0)/\cu.ownBlock≠some (bs.getD i 0)/\bs.getD i 0<W.heap.size)
  (hc:IsCode w' cb ls) (hcb:cb<W.heap.size) (hcb2:cu.ownBlock≠some cb):Codes w' (fun k=>Pb k\/k=cb\/v'.ownBlock=some k) v' (gs++[ls]):=by
 refine⟨bs++[cb],base,hown,by rw [List.length_append,List.length_append,hlen];rfl,hb,fun k hk=>Or.inr (Or.inr hk),fun i hi=>?_⟩;rw [List.length_append] at hi;have hi2:i<gs.length+1:=hi;by_cases h:i<gs.length
 ·rw [Zbs bs cb 0 (by omega),Zbs gs ls [] h];obtain⟨a1,a2,a3,a4⟩:=hcs i h;refine⟨a1,Or.inl a2,fun e=>?_,Nat.lt_of_lt_of_le a4 hsz⟩;rcases hfr _ e with e2|e2
  ·exact a3 e2
  ·omega
 ·rw [Zbt bs cb 0 (by omega),Zbt gs ls [] (by omega)];refine⟨hc,Or.inr (Or.inl rfl),fun e=>?_,Nat.lt_of_lt_of_le hcb hsz⟩;rcases hfr _ e with e2|e2
  ·exact hcb2 e2
  ·omega
theorem ZjW (b rb N t:Nat) (ps:List Nat) (gs:List (List Int)) (ls:List Int) (now:Int) (O:Nat->Prop) (v:Value) (l:List UInt8) (dr sp p:Nat) (w:World) (Q r:List Bool) (most a:Nat) (L:List Int) (hC:IsCR w b N O (.len t ps gs ls now)) (hR:IsReader w rb v l dr sp p) (hs:dr+l.length<=1099511627776)
  (hne:∀k,foot rb v k->¬O k) (hq:Q.drop a=(bitsOf l).drop (p-8*dr)++r) (hrt:RtC Q N most a L (.len t ps gs ls now)) (h3:3<=N) (h258:N<=258) :
  Calls Tryz.prog 298 #[.pointer (some ⟨b,0,none⟩),.pointer (some ⟨rb,0,none⟩)] w fun e w'=>OutC (fun _=>0) w w' b rb N O v l dr sp p Q ((bitsOf l).drop (p-8*dr)) r most a L (.len t ps gs ls now) e:=by
 obtain⟨F,Pb,d,pu,cu,hO,hCC,hD,hRP,hCD,hsep,hOb,hOd,hdb,hPb,hPd,hPO⟩:=hC;have HNE:=zh hne;have HOB:=zh hOb;have HOD:=zh hOd;have HCC:=zh hCC;have HRP:=zh hRP;have HCD:=zh hCD;have HSEP:=zh hsep;have HPB:=zh hPb;have HPD:=zh hPd;have HPO:=zh hPO;obtain⟨c0,c1,c2,c3,c4,c5,c6,c7,c8,c9,c10⟩:=Zap hO hCC;have HO:=zh hO;obtain⟨hHd,hWhs,hgs,hlsN,hL0,j,hj,hRj,hDR⟩:=id hrt;have HHD:=zh hHd;have hnow:=hDR.now;have HST:=Zmv d rb N ls now false v l dr sp p w hD hR hs (fun k hk e=>hne k hk (by rw [e];exact hOd)) hlsN (Or.inl hnow);have HDS:=RtC.len (most:=most) h3 hrt hq;have HRD:Hid (∀k,k=d\/k=rb->O k\/k=rb):=zh (fun k hk=>hk.imp (fun e=>by rw [e];exact hOd) id);generalize hod:DelM.dstep ((bitsOf l).drop (p-8*dr)) ls now false=D at *;have HSTH:=zh HST;have HDSH:=zh HDS;have HL0:=zh hL0;have hrb:Hid (¬O rb):=zh (hne rb (Or.inl rfl));have hgs6:gs.length<6:=by have:=hHd.2.2.1;omega
 have hpl:ps.length<=32767:=hHd.2.2.2.2.2.1;have HPL:=zh hpl;have HG6:=zh hgs6;unfold ptr at c6;clear hne hOb hOd hCC hRP hCD hsep hPb hPd hPO hO hD hR HST HDS hod hq hrt hHd hWhs hRj hDR hL0 hj hnow c0 c1 c2 c3 c4 c5 c7 c8 c9 c10 hpl hgs6;go_enter Tryz.func298,Tryz.ntmps298;go_wp2_with fail;refine HSTH.out.mono ?_;rintro e w1 ⟨rfl,hd1,hr1,ht1⟩
 have hO1:=HO.out.other ht1 (by
  rintro(e|e)
  ·exact hdb e.symm
  ·exact hrb.out (e▸HOB.out))
 have hPn:∀k,Pb k->¬(k=d\/k=rb):=fun k hk e=>by
  rcases e with e|e
  ·exact HPD.out (e▸hk)
  ·exact hrb.out (e▸(HPO.out k hk).1)
 have HO1:=zh hO1;have HR1:=zh hr1;have HRP1:=zh (HRP.out.other ht1 hPn);have HCD1:=zh (HCD.out.other ht1 hPn);have HT1:Hid (Touch (fun k=>O k\/k=rb) w w1):=zh (ht1.mono HRD.out);have HD1:=zh hd1;have hbw:b<w.heap.size:=HO.out.lt;have hsz1:=zh ht1.size;clear hd1 hr1 ht1 HSTH c6 hPn HRP HCD;rcases HDSH.out with⟨e1,e2,e3,e4,e5,e6⟩|⟨e1,e3,e4,e5⟩|⟨e1,e2⟩
 ·have HE4:=zh e4;have HE3:=zh e3;have HE5:=zh e5;rw [e2] at HD1;rw [e1];obtain⟨_,_,_,_,_,_,d6,_,_,_,_⟩:=Zap HO1.out HCC.out;unfold ptr at d6;have HE6:=zh e6;clear e1 e2 e3 e4 e5 e6 HDSH hO1;by_cases hlt:D.ls.length<N
  ·have HDN:=zh (Zfq d N D.ls D.now false false w1 HD1.out ⟨fun e=>(by cases e),fun e=>by omega⟩)
   have hrt2:RtC Q N most (a+D.used) L (.len t ps gs D.ls D.now):=by
    rcases HE6.out with⟨_,h⟩|⟨h,_⟩|⟨h,_⟩|⟨h,_⟩
    ·exact h
    ·omega
    ·omega
    ·omega
   have HRT:=zh hrt2;clear hrt2 HE6 hlt;go_wp2_with fail;refine HDN.out.mono ?_;rintro e w3 ⟨rfl,m3,hw3⟩;have hT3:Touch (fun _=>False) w1 w3:=by rw [hw3];exact Zad _ _ m3
   have HO3:=zh (HO1.out.other hT3 id);have HD3:=zh (HD1.out.other hT3 id);have HR3:=zh (HR1.out.other hT3 (fun _ _ h=>h));have HRP3:=zh (HRP1.out.other hT3 (fun _ _ h=>h));have HCD3:=zh (HCD1.out.other hT3 (fun _ _ h=>h));have HT3:Hid (Touch (fun k=>O k\/k=rb) w w3):=zh (Zbj HT1.out (hT3.mono (fun _ h=>absurd h id)));have hs3:=zh hT3.size;clear hw3 hT3;go_wp2_with fail;go_ret2;refine⟨-1,0,D.used,fun k=>k=b\/k=d\/Pb k,rfl,HR3.out,HT3.out,fun k hk=>?_,HE4.out,Or.inl ⟨rfl,HE3.out,.len t ps gs D.ls D.now,⟨F,Pb,d,pu,cu,HO3.out,HCC.out,HD3.out,HRP3.out,HCD3.out,HSEP.out,Or.inl rfl,Or.inr (Or.inl rfl),hdb,HPB.out,HPD.out,fun k hk=>⟨Or.inr (Or.inr hk),by have h1:=(HPO.out k hk).2;have h2:=hsz1.out;have h3:=hs3.out;omega⟩⟩,Or.inl ⟨rfl,rfl,HRT.out,by rw [HL0.out];rfl⟩⟩⟩;rcases hk with rfl|rfl|hk
   ·exact Or.inl HOB.out
   ·exact Or.inl HOD.out
   ·exact Or.inl (HPO.out k hk).1
  ·have hN:D.ls.length=N:=by have:=HE5.out;omega
   have HN:=zh hN;have HDN:=zh (Zfq d N D.ls D.now false true w1 HD1.out ⟨fun _=>hN,fun _=>rfl⟩);have h3l:3<=D.ls.length:=by omega
   have h258l:D.ls.length<=258:=by omega
   clear hN hlt;go_wp2_with fail;refine HDN.out.mono ?_;rintro e w3 ⟨rfl,m3,hw3⟩;have hT3:Touch (fun _=>False) w1 w3:=by rw [hw3];exact Zad _ _ m3
   have HO3:=zh (HO1.out.other hT3 id);have HD3:=zh (HD1.out.other hT3 id);have HR3:=zh (HR1.out.other hT3 (fun _ _ h=>h));have HRP3:=zh (HRP1.out.other hT3 (fun _ _ h=>h));have HCD3:=zh (HCD1.out.other hT3 (fun _ _ h=>h));have HT3:Hid (Touch (fun k=>O k\/k=rb) w w3):=zh (Zbj HT1.out (hT3.mono (fun _ h=>absurd h id)));obtain⟨_,_,_,_,_,_,k6,_,_,_,_⟩:=Zap HO3.out HCC.out;unfold ptr at k6;have HLN:=zh (Zol d N D.ls D.now false w3 HD3.out);clear hw3 hT3 d6 HDN HO1 HD1 HR1 HRP1 HCD1;go_wp2_with fail;refine HLN.out.mono ?_;rintro e w4 ⟨vL,rfl,hOL,hB4⟩;have HIL:=zh hOL.ints;have hT4:Touch (fun _=>False) w3 w4:=Touch.ofBelow hB4;have HO4:=zh (HO3.out.other hT4 id);have HR4:=zh (HR3.out.other hT4 (fun _ _ h=>h));have HRP4:=zh (HRP3.out.other hT4 (fun _ _ h=>h));have HCD4:=zh (HCD3.out.other hT4 (fun _ _ h=>h));have HT4:Hid (Touch (fun k=>O k\/k=rb) w w4):=zh (Zbj HT3.out (hT4.mono (fun _ h=>absurd h id)));clear hOL hB4 hT4 HLN k6 HO3 HD3 HR3 HRP3 HCD3 HT3;by_cases hwh:WholeP D.ls
   ·have HWH:=zh hwh;have HNY:=zh (Znu vL D.ls w4 HIL.out h3l h258l hwh);clear hwh;go_wp2_with fail;refine HNY.out.mono ?_;rintro e w5 ⟨rfl,hcode,hB5⟩;have hT5:Touch (fun _=>False) w4 w5:=Touch.ofBelow hB5;have HO5:=zh (HO4.out.other hT5 id);have HR5:=zh (HR4.out.other hT5 (fun _ _ h=>h));have HRP5:=zh (HRP4.out.other hT5 (fun _ _ h=>h));have hCD5:=HCD4.out.other hT5 (fun _ _ h=>h);have HT5:Hid (Touch (fun k=>O k\/k=rb) w w5):=zh (Zbj HT4.out (hT5.mono (fun _ h=>absurd h id)));have HCODE:=zh hcode;obtain⟨bs,base,q1,q2,q3,q4,q5⟩:=hCD5;have HQ1:=zh q1;have HQ2:=zh q2;have HQ3:=zh q3;have HQ4:=zh q4;have HQ5:=zh q5;obtain⟨aC,cC,eC⟩:=q1.slice;subst eC;obtain⟨cb,hcb⟩:∃cb,w4.heap.size=cb:=⟨_,rfl⟩
    have HCB:=zh hcb;rw [hcb] at HCODE ⊢;have hcl:Hid (cb<w5.heap.size):=zh (by obtain⟨F9,h9,_⟩:=HCODE.out;exact(Array.getElem?_eq_some_iff.1 h9).1);have hcw:Hid (w.heap.size<=cb):=zh (by have:=HT4.out.size;omega);have hbs6:bs.length+1<=1000000:=by have:=HG6.out;omega
    obtain⟨_,_,_,_,_,_,_,m7,_,_,_⟩:=Zap HO5.out HCC.out;have m7f:=(HO5.out.cell (i:=7) (by omega)).2;clear hcode hB5 hT5 q1 q2 q3 q4 q5 hcb HO4 HR4 HRP4 HCD4 HT4 HNY;go_wp2_with (at_builtin;refine Zoo w5 rfl _ _ rfl base _ bs cb HQ1.out rfl rfl hbs6 HQ3.out ?_);intro v6 w6 hO6 hB6 hsame hfr;have hT6:Touch (fun k=>(Value.slice aC bs.length cC).ownBlock=some k) w5 w6:=⟨hB6.os,hB6.tape,hB6.output,hB6.size,fun k hk hn=>hsame k hk hn⟩
    have hcuP:∀k,Pb k->k<w.heap.size:=fun k hk=>(HPO.out k hk).2
    have HO6:=zh (HO5.out.other hT6 (fun e=>HPB.out (HQ4.out b e)));have HR6:=zh (HR5.out.other hT6 (fun k hk e=>HNE.out k hk (HPO.out k (HQ4.out k e)).1));have HRP6:Hid (RowP w6 Pb pu (PkM.toI ps)):=zh ⟨HRP5.out.1.other hT6 (fun k hk e=>HSEP.out k e hk),HRP5.out.2⟩
    have HCD6:Hid (Codes w6 (fun k=>Pb k\/k=cb\/v6.ownBlock=some k) v6 (gs++[D.ls])):=zh (Zeo (W:=w5) hO6 HQ2.out (Nat.le_trans HQ3.out hT6.size) hT6.size hfr (fun i hi=>by
     obtain⟨a1,a2,a3,a4⟩:=HQ5.out i hi;exact⟨a1.other hT6 a3,a2,a3,a4⟩) (HCODE.out.other hT6 (fun e=>by have h1:=hcuP cb (HQ4.out cb e);have h2:=hcw.out;omega)) hcl.out (fun e=>by have h1:=hcuP cb (HQ4.out cb e);have h2:=hcw.out;omega))
    have HT6:Hid (Touch (fun k=>O k\/k=rb) w w6):=zh (Zbj HT5.out (hT6.mono (fun k hk=>Or.inl (HPO.out k (HQ4.out k hk)).1)))
    have HFR:Hid (∀k,v6.ownBlock=some k->(O k\/w.heap.size<=k)/\k<w6.heap.size/\k≠b/\pu.ownBlock≠some k):=zh (fun k hk=>by
     have h5:=(hO6.lt k hk).2;have h6:w.heap.size<=w5.heap.size:=HT5.out.size;rcases hfr k hk with e|e
     ·exact⟨Or.inl (HPO.out k (HQ4.out k e)).1,h5,fun e2=>HPB.out (e2▸HQ4.out k e),HSEP.out k e⟩
     ·exact⟨Or.inr (by omega),h5,by omega,fun e2=>by have:=hcuP k (HRP5.out.2 k e2);omega⟩)
    obtain⟨a6,c6,e6⟩:=hO6.slice;have hbl:(bs++[cb]).length=gs.length+1:=by rw [List.length_append,HQ2.out];rfl
    rw [hbl] at e6;subst e6;have hs56:=zh hT6.size;obtain⟨_,_,_,_,_,_,_,n7,_,_,_⟩:=Zap HO6.out HCC.out;have n7f:=(HO6.out.cell (i:=7) (by omega)).2;have HO7:=zh (HO6.out.set 7 (.slice a6 (gs.length+1) c6));have HC7:=zh (HCC.out.s_cu (.slice a6 (gs.length+1) c6));obtain⟨o0,_,_,_,_,_,_,_,o8,_,_⟩:=Zap HO7.out HC7.out;have o8f:=(HO7.out.cell (i:=8) (by omega)).2;clear hO6 hB6 hsame hfr hT6 hcuP hbl m7 m7f HO5 HR5 HRP5 HT5 HCODE HQ1;go_wp2_with fail;generalize hw7:w6.setCell ⟨b,7,none⟩ (.slice a6 (gs.length+1) c6)=w7 at *;have hT7:Touch (·=b) w6 w7:=by rw [<-hw7];exact Zaa (Touch.refl _ _)
    have HT67:=zh hT7
    have hheld:(((ps.length+gs.length*N:Nat)):Int)+(N:Int)=((ps.length+(gs.length+1)*N:Nat):Int):=by
     rw [Nat.add_mul,Nat.one_mul];omega
    have HHELD:=zh hheld
    have hbnd:ps.length+gs.length*N<=40000:=by
     have h1:=HPL.out;have h2:=HG6.out;have h4:gs.length*N<=6*258:=Nat.mul_le_mul (by omega) h258;omega
    obtain⟨HV,hHV⟩:∃HV,ps.length+gs.length*N=HV:=⟨_,rfl⟩
    rw [hHV] at o8 hbnd HHELD;clear hw7 hT7 n7 n7f hheld
    go_region
    have HO8:Hid (ObjF 11 178 ((w7.setCell ⟨b,8,none⟩ (.int .i64 ((HV:Int)+(N:Int)))).drew) b (upd (upd F 7 (.slice a6 (gs.length+1) c6)) 8 (.int .i64 ((HV:Int)+(N:Int))))):=zh ((HO7.out.set 8 _).drewN 1)
    have HC8:Hid (CC (upd (upd F 7 (.slice a6 (gs.length+1) c6)) 8 (.int .i64 ((HV:Int)+(N:Int)))) N (mth 298 b) 0 (.pointer none) t pu (ptr d) (.slice a6 (gs.length+1) c6) (ps.length+(gs.length+1)*N) 0 false):=zh (by
     rw [HHELD.out];exact HC7.out.s_held _)
    have hT8:Touch (·=b) w6 ((w7.setCell ⟨b,8,none⟩ (.int .i64 ((HV:Int)+(N:Int)))).drew):=(Zaa HT67.out).trans (Zad (·=b) _ 1) (fun _ h=>Or.inl h);have HT8:=zh hT8
    have hnP:∀k,(Pb k\/k=cb\/(Value.slice a6 (gs.length+1) c6).ownBlock=some k)->k≠b:=fun k hk e=>by
     rcases hk with h|h|h
     ·exact HPB.out (e▸h)
     ·have h1:=hcw.out;omega
     ·exact(HFR.out k h).2.2.1 e
    have HNP:=zh hnP;have HRP8:=zh (HRP6.out.other hT8 (fun k hk e=>HPB.out ((show k=b from e)▸hk)));have HCD8:=zh (HCD6.out.other hT8 (fun k hk e=>hnP k hk e));have HR8:=zh (HR6.out.other hT8 (fun k hk e=>HNE.out k hk (by rw [show k=b from e];exact HOB.out)));have HTT8:=zh (Zbj HT6.out (cd_b hT8 HOB.out));clear o0 o8 o8f hT8 hnP HO7 HC7 HT67 HRP6 HCD6 HR6;generalize (w7.setCell ⟨b,8,none⟩ (.int .i64 ((HV:Int)+(N:Int)))).drew=w8 at *
    have HNL:Hid (∀k,(Pb k\/k=cb\/(Value.slice a6 (gs.length+1) c6).ownBlock=some k)->(O k\/w.heap.size<=k)/\k<w8.heap.size):=zh (fun k hk=>by
     have s1:=HT8.out.size;have s2:=hs56.out;have s3:w.heap.size<=w6.heap.size:=HT6.out.size;rcases hk with h|h|h
     ·have h1:=HPO.out k h;exact⟨Or.inl h1.1,by omega⟩
     ·have h1:=hcl.out;have h2:=hcw.out;exact⟨Or.inr (by omega),by omega⟩
     ·have h1:=HFR.out k h;exact⟨h1.1,by omega⟩)
    have hgl:(gs++[D.ls]).length=gs.length+1:=by rw [List.length_append];rfl
    have HGL:=zh hgl;clear hgl
    have hcase:(gs.length+1≠t/\RtC Q N most (a+D.used) L (.len t ps (gs++[D.ls]) [] 0))\/(gs.length+1=t/\RtC Q N most (a+D.used) L (.sym t ps (gs++[D.ls]) 0 false)):=by
     have hN:=HN.out;have hW:=HWH.out;rcases HE6.out with⟨h,_⟩|⟨_,h,_⟩|⟨_,_,h,h2⟩|⟨_,_,h,h2⟩
     ·omega
     ·exact absurd hW h
     ·exact Or.inl ⟨by omega,h2⟩
     ·exact Or.inr ⟨h,h2⟩
    rcases hcase with⟨hmt,hrt2⟩|⟨hmt,hrt2⟩
    ·have HRT:=zh hrt2;clear hrt2 HE6;go_wp2_with fail;refine(ZgB b _ N _ _ t a6 (gs.length+1) c6 _ _ _ _ w8 HO8.out HC8.out hmt h3 h258).mono ?_;rintro e w9 ⟨rfl,⟨F9,hO9,hC9⟩,hD9,hT9⟩;have HO9:=zh hO9;have HC9:=zh hC9;have HD9:=zh hD9;have HT9:=zh hT9;clear hO9 hC9 hD9 hT9;go_wp2_with fail;go_ret2;have hb8:b<w8.heap.size:=HO8.out.lt;have hs9:=HT9.out.size;have hs89:w.heap.size<=w8.heap.size:=HTT8.out.size;refine⟨-1,0,D.used,fun k=>k=b\/k=w8.heap.size\/(Pb k\/k=cb\/(Value.slice a6 (gs.length+1) c6).ownBlock=some k),rfl,HR8.out.other HT9.out (fun k hk e=>HNE.out k hk (by rw [show k=b from e];exact HOB.out)),Zbj HTT8.out (cd_b HT9.out HOB.out),fun k hk=>?_,HE4.out,Or.inl ⟨rfl,HE3.out,.len t ps (gs++[D.ls]) [] 0,⟨F9,fun k=>(Pb k\/k=cb\/(Value.slice a6 (gs.length+1) c6).ownBlock=some k),w8.heap.size,pu,.slice a6 (gs.length+1) c6,HO9.out,?_,HD9.out,(HRP8.out.other HT9.out (fun k hk e=>HPB.out ((show k=b from e)▸hk))).mono (fun k hk=>Or.inl hk),HCD8.out.other HT9.out (fun k hk e=>HNP.out k hk e),fun k hk=>(HFR.out k hk).2.2.2,Or.inl rfl,Or.inr (Or.inl rfl),by omega,fun h=>HNP.out b h rfl,fun h=>by have h1:=(HNL.out _ h).2;omega,fun k hk=>⟨Or.inr (Or.inr hk),by have h1:=(HNL.out k hk).2;omega⟩⟩,Or.inl ⟨rfl,rfl,HRT.out,by rw [HL0.out];rfl⟩⟩⟩
     ·rcases hk with rfl|rfl|hk
      ·exact Or.inl HOB.out
      ·exact Or.inr hs89
      ·exact(HNL.out k hk).1
     ·rw [HGL.out];exact HC9.out
    ·have HRT:=zh hrt2;clear hrt2 HE6;subst hmt;go_wp2_with fail;refine(Zmw b _ N _ _ (gs.length+1) a6 c6 _ _ _ _ w8 HO8.out HC8.out).mono ?_;rintro e w9 ⟨rfl,⟨F9,hO9,hC9⟩,hT9⟩;have HO9:=zh hO9;have HC9:=zh hC9;have HT9:=zh hT9;clear hO9 hC9 hT9;go_wp2_with fail;go_ret2;have hs9:=HT9.out.size;refine⟨-1,0,D.used,fun k=>k=b\/(Pb k\/k=cb\/(Value.slice a6 (gs.length+1) c6).ownBlock=some k),rfl,HR8.out.other HT9.out (fun k hk e=>HNE.out k hk (by rw [show k=b from e];exact HOB.out)),Zbj HTT8.out (cd_b HT9.out HOB.out),fun k hk=>?_,HE4.out,Or.inl ⟨rfl,HE3.out,.sym (gs.length+1) ps (gs++[D.ls]) 0 false,⟨F9,fun k=>(Pb k\/k=cb\/(Value.slice a6 (gs.length+1) c6).ownBlock=some k),pu,.slice a6 (gs.length+1) c6,HO9.out,?_,(HRP8.out.other HT9.out (fun k hk e=>HPB.out ((show k=b from e)▸hk))).mono (fun k hk=>Or.inl hk),HCD8.out.other HT9.out (fun k hk e=>HNP.out k hk e),Or.inl rfl,fun h=>HNP.out b h rfl,fun k hk=>⟨Or.inr hk,by have h1:=(HNL.out k hk).2;omega⟩⟩,Or.inl ⟨rfl,rfl,HRT.out,by rw [HL0.out];rfl⟩⟩⟩
     ·rcases hk with rfl|hk
      ·exact Or.inl HOB.out
      ·exact(HNL.out k hk).1
     ·rw [HGL.out];exact HC9.out
   ·have HNT:=zh (Znt vL D.ls w4 HIL.out h3l h258l hwh)
    have hre:rdC Q N most=.err 22 L:=by
     have hN:=HN.out;rcases HE6.out with⟨h,_⟩|⟨_,_,h⟩|⟨_,h,_⟩|⟨_,h,_⟩
     ·omega
     ·exact h
     ·exact absurd h hwh
     ·exact absurd h hwh
    have HRE:=zh hre;clear hwh hre HE6;go_wp2_with fail;refine HNT.out.mono ?_;rintro e w5 ⟨rfl,rfl⟩;go_wp2_with fail;go_ret2;exact⟨0,22,D.used,fun k=>k=b,rfl,HR4.out,HT4.out,fun k hk=>Or.inl (by rw [hk];exact HOB.out),HE4.out,Or.inr (Or.inl ⟨by decide,by decide,rfl,⟨F,_,_,_,_,_,_,_,_,_,HO4.out,HCC.out,rfl⟩,HRE.out⟩)⟩
 ·have HE5:=zh e5;have HE3:=zh e3;rw [e1];clear e1 e3 e4 e5 HDSH hO1;go_wp2_with fail;go_ret2;exact⟨0,22,D.used,fun k=>k=b,rfl,HR1.out,HT1.out,fun k hk=>Or.inl (by rw [hk];exact HOB.out),HE3.out,Or.inr (Or.inl ⟨by decide,by decide,rfl,⟨F,_,_,_,_,_,_,_,_,_,HO1.out,HCC.out,rfl⟩,HE5.out⟩)⟩
 ·have HE2:=zh e2;subst e1;clear e2 HDSH hO1;go_wp2_with fail;go_ret2;refine⟨0,3,0,fun k=>k=b\/k=d\/Pb k,rfl,HR1.out,HT1.out,fun k hk=>?_,Nat.zero_le _,Or.inr (Or.inr ⟨rfl,rfl,rfl,⟨F,Pb,d,pu,cu,HO1.out,HCC.out,HD1.out,HRP1.out,HCD1.out,HSEP.out,Or.inl rfl,Or.inr (Or.inl rfl),hdb,HPB.out,HPD.out,fun k hk=>⟨Or.inr (Or.inr hk),by have h1:=(HPO.out k hk).2;have h2:=hsz1.out;omega⟩⟩,HE2.out⟩)⟩;rcases hk with rfl|rfl|hk
  ·exact Or.inl HOB.out
  ·exact Or.inl HOD.out
  ·exact Or.inl (HPO.out k hk).1
end
section
open Go.RowKit BitM HufM CanM CodM TabM FreqM
theorem Zep {w:World} {b i:Nat} {old:Array Value} {t:TypeId} {fr:Nat×Nat} (h:w.heap[b]?=some (.cells old t fr)):(w.setRow b #[]).cell? ⟨b,i,none⟩=none:=by
 rw [cell_of_row _ _ _ _ _ _ (setRow_heap _ _ _ _ _ _ h)];rfl
theorem ZdJ {w:World} {b i:Nat} {x:Value} (h:w.cell? ⟨b,i,none⟩=some x):∃cs t fr,w.heap[b]?=some (.cells cs t fr):=by
 unfold World.cell? at h;split at h
 ·rename_i c t fr he;exact⟨c,t,fr,he⟩
 ·cases h
theorem Zeq {w:World} {A b:Nat} (hb:b<A):Touch (·<A) w (w.setRow b #[]):=
 ⟨rfl,rfl,rfl,by rw [Zaw];exact Nat.le_refl _,fun k _ hk=>setRow_other w b k #[] (fun e=>hk (by rw [e];exact hb))⟩
theorem ChB.row {w w2:World} {B:Nat} {vL vP:Value} {gs:List (List Int)} {ps:List Int} (h:ChB w w2 B vL vP gs ps) {k:Nat} (hk:k<gs.length) (hne:1<=(rw_ gs k).length) :
  ∃b off cap u,vL=.slice (some ⟨b,off,none⟩) gs.length cap/\∀W,Touch (·<w.heap.size) w2 W->W.cell? ⟨b,off+k,none⟩=some u/\IsInts W u (rw_ gs k):=by
 obtain⟨b,off,cap,u,hv,d,hI⟩:=(h.rows w2 (Touch.refl _ _)).1.at_ hk
 have hb:¬b<w.heap.size:=fun hlt=>by
  obtain⟨cs,t,fr,hg⟩:=ZdJ d;obtain⟨b',off',cap',u',hv',d',_⟩:=(h.rows _ (Zeq (w:=w2) hlt)).1.at_ hk;rw [hv] at hv';simp only [Value.slice.injEq,Option.some.injEq,Addr.mk.injEq] at hv';obtain⟨⟨rfl,rfl,_⟩,_,rfl⟩:=hv';rw [Zep hg] at d';cases d'
 have hcell:∀W,Touch (·<w.heap.size) w2 W->W.cell? ⟨b,off+k,none⟩=some u:=fun W hW=>by
  rw [World.cell?_of_block (w:=w2) (a:=⟨b,off+k,none⟩) (hW.block b (ZaG d) hb)];exact d
 refine⟨b,off,cap,u,hv,fun W hW=>⟨hcell W hW,hI.other hW (fun j hj hlt=>?_)⟩⟩;obtain⟨au,cu,rfl,hc⟩:=hI;obtain⟨x,hx⟩:∃x,(rw_ gs k)[0]?=some x:=⟨_,List.getElem?_eq_getElem hne⟩
 obtain⟨bu,ou,rfl,hcu⟩:=hc 0 x hx;have hju:j=bu:=(Option.some.inj hj).symm;subst hju;obtain⟨cs,t,fr,hg⟩:=ZdJ hcu;have hlt2:j<w.heap.size:=hlt;have hT:=Zeq (w:=w2) hlt2;obtain⟨b',off',cap',u',hv',d',hI'⟩:=(h.rows _ hT).1.at_ hk;rw [hv] at hv';simp only [Value.slice.injEq,Option.some.injEq,Addr.mk.injEq] at hv';obtain⟨⟨rfl,rfl,_⟩,_,rfl⟩:=hv';have d2:=hcell _ hT;rw [d'] at d2;obtain rfl:=Option.some.inj d2;obtain⟨a2,c2,e2,hc2⟩:=hI';simp only [Value.slice.injEq] at e2;obtain⟨rfl,_,rfl⟩:=e2;obtain⟨b3,o3,e3,h3⟩:=hc2 0 x hx;simp only [Option.some.injEq,Addr.mk.injEq] at e3;obtain⟨rfl,rfl,_⟩:=e3;rw [Zep hg] at h3;cases h3
def Lp1 (w2 wr:World) (g:Nat) (v:Value) (tk:Nat) (q:List Bool) (cu:Value) (gs:List (List Int)):Prop:=
 ∃v1 Pb,IsWriter wr g v1 q tk/\Touch (foot g v) w2 wr/\(∀j,v1.ownBlock=some j->v.ownBlock=some j\/w2.heap.size<=j)/\Codes wr Pb cu gs/\∀j,Pb j->w2.heap.size<=j/\j<wr.heap.size/\¬foot g v1 j
theorem Zmz (g:Nat) (v:Value) (q0:List Bool) (tk:Nat) (a:Option Addr) (len c:Nat) (zs:List Int) (N:Nat) (w:World) (hw:IsWriter w g v q0 tk) (hI:IsInts w (.slice a len c) zs) (hlen:zs.length=len) (hz:len<=1000) (hc:len<=c) (hc2:c<=9223372036854775807) (hB:Bnds w) (hm:May14 zs (N:Int))
  (hrow:∀k,(Value.slice a len c).ownBlock=some k->¬foot g v k) (hq:q0.length<=1000000) :
  Calls Tryz.prog 55 #[.pointer (some ⟨g,0,none⟩),.slice a len c,.int .i64 (N:Int)] w fun e w'=>e=.returned (.int .i64 0)/\Wrote w g v tk (q0++allC (rnd zs N 4) (pks zs N) zs) w':=by
 have HC:=zh (Zmx a len c zs N w hI hlen hz hc hc2 hB hm);have hi:=Zix;have h3:3<=N:=by have:=hm.1;omega
 have h258:N<=258:=by have:=hm.2.1;omega
 have hz2:zs.length<=1000:=by omega
 have HPK:=zh (hm.pk hz2);have HWH:=zh (hm.whs hz2);have HTB:=zh (hm.tbs hz2);have HSY:Hid (Syms zs (N:Int)):=zh hm.2.2.2.1;have hT6:(rnd zs N 4).length<=6:=HPK.out.2.1;have hpl:(pks zs N).length<=32767:=HPK.out.2.2.2.1
 have hpb:(PkM.allB (pks zs N) (rnd zs N 4).length).length<=200000:=by
  rw [PkM.allB_length,<-PkM.encK_all _ _ (Nat.le_refl _)];have:=PkM.encK_len (pks zs N) hT6 (fun x hx=>Ziy x hx) _ (Nat.le_refl _);omega
 rw [Zoq] at HC;have HI:=zh hI;have HLEN:=zh hlen;have HROW:=zh hrow;have HW:=zh hw;clear hI hB hm hrow hw;generalize rnd zs N 4=gs at *;generalize hps:pks zs N=ps at *;clear hps
 have HSL:Hid (∀i,i<=len->(symB gs ps zs i).length<=20000):=zh (fun i hi=>by
  have:=(Zda HTB.out (zs.take i) 0 (fun x hx=>HSY.out x (List.mem_of_mem_take hx)) (by rw [List.length_take];omega)).2;rw [List.length_take] at this;unfold symB;omega)
 have HGB:Hid (∀k,(gsB (gs.take k)).length<=60600/\(k<gs.length->gsB (gs.take (k+1))=gsB (gs.take k)++DelM.allB (rw_ gs k)/\DelM.May (rw_ gs k)/\(rw_ gs k).length=N/\WholeP (rw_ gs k)/\gs.take (k+1)=gs.take k++[rw_ gs k])):=zh (fun k=>⟨by
  have:=Zhd h3 h258 (gs.take k) (fun g hg=>HWH.out g (List.mem_of_mem_take hg));rw [List.length_take] at this
  omega,fun hk=>by
   have hmem:rw_ gs k∈gs:=by unfold rw_;rw [List.getD_eq_getElem?_getD,List.getElem?_eq_getElem hk];exact List.getElem_mem hk
   obtain⟨k1,k2⟩:=HWH.out _ hmem;refine⟨Zlf gs hk,⟨by omega,by omega,k2.1⟩,k1,k2,?_⟩;rw [List.take_succ_eq_append_getElem hk];unfold rw_;rw [List.getD_eq_getElem?_getD,List.getElem?_eq_getElem hk];rfl⟩)
 go_enter Tryz.func55,Tryz.ntmps55;go_wp2_with fail;refine HC.out.mono ?_;rintro e w1 ⟨vL,vP,rfl,hk,hb⟩;have HCB:=zh (ChB.of hb hk);obtain⟨⟨aL,cL,rfl,_⟩,⟨aP,cP,rfl,_⟩⟩:=hk w1 (fun _ _ _=>rfl) (Nat.le_refl _);obtain⟨T,hT⟩:∃T,gs.length=T:=⟨_,rfl⟩
 obtain⟨M,hM⟩:∃M,(PkM.toI ps).length=M:=⟨_,rfl⟩
 have HT:=zh hT;have HM:=zh hM;rw [hT,hM] at HCB;rw [hT] at hT6 hpb;clear hk hb;obtain⟨B,hBB⟩:∃B,w1.heap.size=B:=⟨_,rfl⟩
 rw [hBB] at HCB;have CCH:=zh (fun W (hW:Touch (·<w.heap.size) _ W)=>HCB.out.cells hW);rw [hT,hM];have hsz2:(w1.alloc (.cells #[.slice aL T cL,.slice aP M cP] 144)).heap.size=B+1:=by simp [hBB]
 have HSZ2:=zh hsz2;have HW2:=zh (HW.out.other (S:=fun _=>False) (Touch.ofBelow HCB.out.bel) (fun _ _ h=>h));have HFT:Hid (∀k,foot g v k->k<w.heap.size):=zh (fun k hk=>(HW.out.lt k hk).1);have HPB:=zh (Zmy g v (.slice aP M cP) ps T q0 tk (w1.alloc (.cells #[.slice aL T cL,.slice aP M cP] 144)) HW2.out (fun W hW=>(HCB.out.rows W (hW.mono HFT.out)).2) (by rw [<-HT.out];exact HPK.out) (by omega));clear hsz2 HC;go_wp2_with fail;refine HPB.out.mono ?_;rintro e w3 ⟨rfl,hw3⟩;have HW3:=zh hw3;generalize w1.alloc (.cells #[.slice aL T cL,.slice aP M cP] 144)=w2 at *;clear HPB;have hT3:Touch (·<w.heap.size) w2 w3:=hw3.touch.mono HFT.out;obtain⟨c0,c1,_⟩:=CCH.out w3 hT3;clear hw3 hT3 hM;obtain⟨q1,hq1⟩:∃q1,q0++PkM.allB ps T=q1:=⟨_,rfl⟩
 have HQ1:=zh hq1;have hq1l:q1.length<=1200000:=by rw [<-hq1,List.length_append];omega
 rw [hq1] at HW3;clear hq1;go_wp2_with fail
 go_loopw [9,37] (fun vc vk wr=>∃(k:Nat),vk=.int .i64 (k:Int)/\k<=T/\Lp1 w2 wr g v tk (q1++gsB (gs.take k)) vc (gs.take k)) (fun _ vk _=>T-(intOf vk).toNat)
 case atStart=>
  obtain⟨v1,k1,k2,k3⟩:=HW3.out;exact⟨0,rfl,by omega,v1,fun _=>False,by simpa [gsB] using k1,k2,k3,Codes.nil _ _,fun _ h=>absurd h id⟩
 case round=>
  clear c0 c1;obtain⟨k,rfl,hk,v1,Pb,hW,hTw,hown,hcs,hPb⟩:=hrel;obtain⟨hg1,hg2⟩:=HGB.out k;by_cases hkT:k<T
  ·have hki:(k:Int)<(T:Int):=by omega
   obtain⟨hg3,hmay,hN,hwp,htk⟩:=hg2 (by rw [hT];exact hkT);obtain⟨b2,o2,cap2,u,he2,hrows⟩:=HCB.out.row (k:=k) (by rw [hT];exact hkT) (by omega);rw [hT] at he2;simp only [Value.slice.injEq] at he2;obtain⟨rfl,he2b,rfl⟩:=he2
   have hTF:∀W,Touch (foot g v1) wr W->Touch (·<w.heap.size) w2 W:=fun W hWW=>(hTw.mono HFT.out).trans hWW (fun j hj=>by
    rcases hj with rfl|hj
    ·exact Or.inl (HFT.out _ (Or.inl rfl))
    ·rcases hown j hj with h|h
     ·exact Or.inl (HFT.out _ (Or.inr h))
     ·exact Or.inr h)
   have d2:=(hrows wr (hTF wr (Touch.refl _ _))).1;have HDW:=zh (Zmt g v1 u (rw_ gs k) _ tk wr hW (fun W hWW=>(hrows W (hTF W hWW)).2) hmay (by rw [List.length_append];omega));have HTF:=zh hTF;have HRS:=zh hrows;have HOWN:=zh hown;have HCS:=zh hcs;have HPBB:=zh hPb;have HTW:=zh hTw;have HG3:=zh hg3;have HTK:=zh htk;have HWP:=zh hwp;clear hW hTw hown hcs hPb hg2 he2b hTF hrows hg3 htk hmay hwp;go_wp2_with fail;refine HDW.out.mono ?_;rintro e w4 ⟨rfl,v2,hW4,hT4,hO4⟩;have HNW:=zh (Znu u (rw_ gs k) w4 (HRS.out w4 (HTF.out w4 hT4)).2 (by omega) (by omega) HWP.out);have HW4:=zh hW4;have HT4:=zh hT4;have HO4:=zh hO4;clear hW4 hT4 hO4 HDW;go_wp2_with fail;refine HNW.out.mono ?_;rintro e w5 ⟨rfl,hcode,hb5⟩;have hT5:Touch (fun _=>False) w4 w5:=Touch.ofBelow hb5;have HT5:=zh hT5;obtain⟨bs,base,p1,p2,p3,p4,p5⟩:=(HCS.out.other HT4.out (fun j hj=>(HPBB.out j hj).2.2)).other hT5 (fun _ _ h=>h);have P1:=zh p1;have P2:=zh p2;have P3:=zh p3;have P4:=zh p4;have P5:=zh p5;obtain⟨aC,cC,eC⟩:=p1.slice;subst eC;obtain⟨cb,hcb⟩:∃cb,w4.heap.size=cb:=⟨_,rfl⟩
   have HCBB:=zh hcb;rw [hcb] at hcode ⊢;have HCODE:=zh hcode;have hcl:Hid (cb<w5.heap.size):=zh (by obtain⟨F9,h9,_⟩:=HCODE.out;exact(Array.getElem?_eq_some_iff.1 h9).1);have hcw:Hid (wr.heap.size<=cb):=zh (by have:=HT4.out.size;omega);have hbs6:bs.length+1<=1000000:=by rw [p2,List.length_take];omega
   clear hT5 hb5 p1 p2 p3 p4 p5 hcb hcode HNW;go_wp2_with (at_builtin;refine Zoo w5 rfl _ _ rfl base _ bs cb P1.out rfl rfl hbs6 P3.out ?_);intro v6 w6 hO6 hB6 hsame hfr
   have HLP:Hid (Lp1 w2 w6 g v tk (q1++gsB (gs.take (k+1))) v6 (gs.take (k+1))):=zh (by
    have hT6:Touch (fun j=>(Value.slice aC bs.length cC).ownBlock=some j) w5 w6:=⟨hB6.os,hB6.tape,hB6.output,hB6.size,fun j hj hn=>hsame j hj hn⟩
    have hs6:=hT6.size;have hs5:=HT5.out.size;have hs4:=HT4.out.size;have hs2:=HTW.out.size;have h1:=hcl.out;have h2:=hcw.out;have h0:=HCBB.out
    have hv2:∀j,foot g v2 j->¬Pb j:=fun j hj hp=>by
     obtain⟨a1,a2,a3⟩:=HPBB.out j hp;rcases hj with rfl|hj
     ·exact a3 (Or.inl rfl)
     ·rcases HO4.out j hj with h|h
      ·exact a3 (Or.inr h)
      ·omega
    have hnc:(Value.slice aC bs.length cC).ownBlock≠some cb:=fun e=>by have:=(HPBB.out cb (P4.out cb e)).2.1;omega
    refine⟨v2,fun j=>Pb j\/j=cb\/v6.ownBlock=some j,?_,?_,fun j hj=>?_,?_,fun j hj=>?_⟩
    ·rw [HG3.out,<-List.append_assoc];exact(HW4.out.other HT5.out (fun _ _ h=>h)).other hT6 (fun j hj e=>hv2 j hj (P4.out j e))
    ·refine((HTW.out.trans HT4.out (fun j hj=>?_)).trans HT5.out (fun j hj=>absurd hj id)).trans hT6 (fun j hj=>Or.inr (HPBB.out j (P4.out j hj)).1);rcases hj with rfl|hj
     ·exact Or.inl (Or.inl rfl)
     ·exact(HOWN.out j hj).imp Or.inr id
    ·rcases HO4.out j hj with h|h
     ·exact HOWN.out j h
     ·exact Or.inr (by omega)
    ·rw [HTK.out]
     exact Zeo (W:=w5) hO6 P2.out (Nat.le_trans P3.out hs6) hs6 hfr (fun i hi=>by
      obtain⟨a1,a2,a3,a4⟩:=P5.out i hi;exact⟨a1.other hT6 a3,a2,a3,a4⟩) (HCODE.out.other hT6 hnc) h1 hnc
    ·have hlt:∀j,foot g v2 j->j<cb:=fun j hj=>by have:=(HW4.out.lt j hj).1;omega
     rcases hj with hj|rfl|hj
     ·obtain⟨a1,a2,a3⟩:=HPBB.out j hj;exact⟨a1,by omega,fun e=>hv2 j e hj⟩
     ·exact⟨by omega,by omega,fun e=>by have:=hlt _ e;omega⟩
     ·rcases hfr j hj with e|e
      ·obtain⟨a1,a2,a3⟩:=HPBB.out j (P4.out j e);exact⟨a1,by omega,fun e2=>hv2 j e2 (P4.out j e)⟩
      ·exact⟨by omega,(hO6.lt j hj).2,fun e2=>by have:=hlt j e2;omega⟩)
   clear hO6 hB6 hsame hfr;go_wp2_with fail;go_roundw
   case rel=>exact⟨k+1,by go_num,by omega,HLP.out⟩
   case measure=>simp [intOf];omega
  ·obtain rfl:k=T:=by omega
   have hki:¬(k:Int)<(k:Int):=by omega
   have htk:gs.take k=gs:=by rw [<-hT,List.take_length]
   rw [htk] at hW hcs hg1;have HW5:=zh hW;have HT5:=zh hTw;have HO5:=zh hown;have HCS:=zh hcs;have HPBB:=zh hPb;clear hW hTw hown hcs hPb hg2 htk;obtain⟨q2,hq2⟩:∃q2,q1++gsB gs=q2:=⟨_,rfl⟩
   have HQ2:=zh hq2;have hq2l:q2.length<=1300000:=by rw [<-hq2,List.length_append];omega
   rw [hq2] at HW5;clear hq2;obtain⟨w5,rfl⟩:∃wz:World,wz=wr:=⟨_,rfl⟩
   have HTA:Hid (∀W,Touch (foot g v1) w5 W->Touch (foot g v) w2 W):=zh (fun W hWW=>HT5.out.trans hWW (fun j hj=>by
    rcases hj with rfl|hj
    ·exact Or.inl (Or.inl rfl)
    ·exact(HO5.out j hj).imp Or.inr id))
   have HZS:Hid (∀W,Touch (foot g v1) w5 W->IsInts W (.slice a len c) zs):=zh (fun W hWW=>((HI.out.below HCB.out.bel).other (HTA.out W hWW) HROW.out));go_wp2_with fail
   go_loopw [56] (fun vk wr=>∃(i:Nat),vk=.int .i64 (i:Int)/\i<=len/\Wrote w5 g v1 tk (q2++symB gs ps zs i) wr) (fun vk _=>len-(intOf vk).toNat)
   case atStart=>exact⟨0,rfl,by omega,by simpa [symB,symT] using Wrote.start HW5.out⟩
   case round=>
    obtain⟨i,rfl,hil,hwr⟩:=hrel;have hTr:=hwr.touch;by_cases hilt:i<len
    ·have hii:(i:Int)<(len:Int):=by omega
     obtain⟨b1,o1,k1,he1,d1⟩:=(HZS.out wr hTr).cell (show i<zs.length by rw [HLEN.out];exact hilt);rw [HLEN.out] at he1;simp only [Value.slice.injEq] at he1;obtain⟨rfl,he1b,rfl⟩:=he1;have hsy:=HSY.out _ (FreqM.getD_mem zs i (by rw [HLEN.out];exact hilt));have hiH:Hid (i<zs.length):=zh (by rw [HLEN.out];exact hilt);obtain⟨z,hz⟩:∃z:Nat,zs.getD i 0=(z:Int):=⟨(zs.getD i 0).toNat,by omega⟩
     rw [hz] at d1 hsy;have HZ:=zh hz;have hT2r:=(HTA.out wr hTr).mono HFT.out;obtain⟨c0,c1,_⟩:=CCH.out wr hT2r;obtain⟨htb1,htb2,htb3⟩:=HTB.out i hiH.out;obtain⟨b3,o3,k3,he3,d3⟩:=(HCB.out.rows wr hT2r).2.cell (show i / 50<(PkM.toI ps).length by rw [PkM.toI_length];exact htb1);rw [HM.out] at he3;simp only [Value.slice.injEq] at he3;obtain⟨rfl,he3b,rfl⟩:=he3;rw [PkM.toI_getD] at d3;obtain⟨P,hP⟩:∃P,ps.getD (i / 50) 0=P:=⟨_,rfl⟩
     rw [hP] at d3
     have hPlt:P<gs.length:=by
      rw [<-hP,List.getD_eq_getElem?_getD,List.getElem?_eq_getElem htb1];exact HPK.out.2.2.2.2 _ (List.getElem_mem htb1)
     obtain⟨bs,base,p1,p2,p3,p4,p5⟩:=HCS.out.other hTr (fun j hj=>(HPBB.out j hj).2.2);obtain⟨cg,cC,eC,d4⟩:=p1.cell (i:=P) (by omega);obtain⟨k4,k5,k6,k7⟩:=p5 P hPlt;subst eC;obtain⟨G,hG⟩:∃G,i / 50=G:=⟨_,rfl⟩
     rw [hG] at d3 htb1;obtain⟨cb,hcb⟩:∃cb,bs.getD P 0=cb:=⟨_,rfl⟩
     rw [hcb] at d4 k4 k5 k6 k7;unfold ptr at d4;have hgi0:(0:Int)<=(i:Int) / 50:=by omega
     have hgi2:((i:Int) / 50).toNat=G:=by omega
     have hgi1:(i:Int) / 50<(M:Int):=by
      have:=HM.out;rw [PkM.toI_length] at this;omega
     have hPi:(P:Int)<(bs.length:Int):=by rw [p2];omega
     have htbi:CodM.tb gs ps i=gs.getD P []:=by unfold CodM.tb;rw [hP]
     rw [<-htbi] at k4;obtain⟨v3,hW3,hT3,hO3⟩:=hwr;have HPUT:=zh (ZpS cb g (CodM.tb gs ps i) z v3 _ tk wr k4 (by omega) htb3 (by omega) hW3 (by rw [List.length_append];have:=HSL.out i hil;omega));have HT3:=zh hT3;have HO3:=zh hO3;clear hTr he1b hT2r htb1 htb2 htb3 he3b hP hPlt p1 p2 p3 p4 p5 k4 k5 k6 k7 hcb hsy hz hW3 hT3 hO3 htbi;go_wp2_with fail;refine HPUT.out.mono ?_;rintro e w7 ⟨rfl,v4,hW4,hT4,hO4⟩
     have HWN:Hid (Wrote w5 g v1 tk (q2++symB gs ps zs (i+1)) w7):=zh (by
      refine⟨v4,?_,HT3.out.trans hT4 (fun j hj=>?_),fun j hj=>?_⟩
      ·rw [Zff gs ps zs hiH.out,HZ.out,<-List.append_assoc,Int.toNat_natCast];exact hW4
      ·rcases hj with rfl|hj
       ·exact Or.inl (Or.inl rfl)
       ·exact(HO3.out j hj).imp Or.inr id
      ·rcases hO4 j hj with h|h
       ·exact HO3.out j h
       ·exact Or.inr (Nat.le_trans HT3.out.size h))
     clear hW4 hT4 hO4;go_wp2_with fail;go_roundw
     case rel=>exact⟨i+1,by go_num,by omega,HWN.out⟩
     case measure=>simp [intOf];omega
    ·obtain rfl:i=len:=by omega
     have hii:¬(i:Int)<(i:Int):=by omega
     obtain⟨v3,hW3,hT3,hO3⟩:=hwr
     have HF:Hid (Wrote w g v tk (q0++allC gs ps zs) wr):=zh (by
      have hb:=HCB.out.bel.size;refine⟨v3,?_,(Touch.ofBelow (S:=foot g v) HCB.out.bel).trans (HTA.out wr hTr) (fun j hj=>Or.inl hj),fun j hj=>?_⟩
      ·have e:q0++allC gs ps zs=q2++symB gs ps zs i:=by
        unfold allC;rw [<-HQ2.out,<-HQ1.out,HT.out,HLEN.out,List.append_assoc,List.append_assoc,List.append_assoc]
       rw [e];exact hW3
      ·rcases hO3 j hj with h|h
       ·rcases HO5.out j h with h2|h2
        ·exact Or.inl h2
        ·exact Or.inr (Nat.le_trans hb h2)
       ·exact Or.inr (Nat.le_trans hb (Nat.le_trans HT5.out.size h)))
     clear hW3 hT3 hO3 hTr;go_wp2_with fail;go_ret;exact⟨rfl,HF.out⟩
end
end Go.Proofs.YtnachbjhhpnadaaGreatDoor
