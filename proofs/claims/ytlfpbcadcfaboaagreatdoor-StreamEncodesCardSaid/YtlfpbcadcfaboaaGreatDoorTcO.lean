import Derived.Test.YtlfpbcadcfaboaaGreatDoorTcN
import Derived.BigRegion
set_option linter.unusedVariables false
set_option linter.unusedSimpArgs false
set_option maxHeartbeats 8000000
set_option maxRecDepth 100000
namespace Go.Proofs.YtlfpbcadcfaboaaGreatDoor
section
open Go.RowKit BwtM SrtM PkM
def Due (T:List UInt8) (K:Nat->Nat) (S:SS) (n R:Nat):Prop:=
 (∃ps p A m,Srt T K S ps p A m R/\(p.begun=true->S.first+S.second<p.hi-p.lo))\/∃m,Num T K S m R/\S.made<n
theorem Due.pos {T:List UInt8} {K:Nat->Nat} {S:SS} {n R:Nat} (h:Due T K S n R) (hT:T.length=n) (h0:0<n):0<R:=by
 rcases h with⟨ps,p,A,m,h,hp⟩|⟨m,h,hm⟩
 ·have hl:=h.left;rw [Za7] at hl;have hf:=h.fit;rcases h.top with⟨_,e1,e2,e3,_⟩|⟨hb,_⟩
  ·rw [e1,e2,e3] at hl;omega
  ·have hbd:=h.bounds hb;have hla:=(h.on hb).2.1;rw [h.cost_on hb] at hl;omega
 ·have:=h.left;omega
def SoSt (B:Nat) (w:World) (b n:Nat) (T:List UInt8) (Z:List Nat) (st R:Nat):Prop:=
 ∃(bo bc ba:Nat) (vk vw:Value) (kb:List Nat) (S:SS),IsSo B w b bo bc ba vk vw n (kb++Z) S/\(S.steps=st/\S.reach<=2*n/\∀g∈kb,g∉Z) /\
  ((vk=.nilFunc/\IsSorted T S.ord/\R=0) \/
   ∃K,KeyH T (bytesBy S.reach) K/\KeyV w vk kb bc n S.cls K/\(∀i,i<n->K i<=1000000000000)/\Due T K S n R)
theorem KbSame.refl (w:World) (kb:List Nat):KbSame w w kb:=fun _ _=>rfl
theorem KbSame.part {w w':World} {kb Z:List Nat} (h:KbSame w w' (kb++Z)):KbSame w w' Z:=fun g hg=>h g (List.mem_append_right _ hg)
theorem SoSt.with {B:Nat} {w w':World} {b n:Nat} {T:List UInt8} {Z:List Nat} {st R:Nat} (h:SoSt B w b n T Z st R) (ht:Below w.heap.size w w') (Y:List Nat) (hY:∀g∈Y,w.heap.size<=g/\g<w'.heap.size):SoSt B w' b n T (Z++Y) st R:=by
 obtain⟨bo,bc,ba,vk,vw,kb,S,h1,⟨h2a,h2b,h2c⟩,h3⟩:=h;have h4:=h1.below ht;refine⟨bo,bc,ba,vk,vw,kb,S,⟨h4.obj,h4.ro,h4.rc,h4.ra,h4.lo,h4.lc,h4.la,h4.wt,h4.apart,h4.wap,h4.base,?_⟩,⟨h2a,h2b,?_⟩,?_⟩
 ·intro g hg;rw [<-List.append_assoc] at hg;rcases List.mem_append.1 hg with hg|hg
  ·exact h4.kap g hg
  ·obtain⟨a1,a2⟩:=hY g hg;have l1:=h1.obj.lt;have l2:=h1.ro.lt;have l3:=h1.rc.lt;have l4:=h1.ra.lt;exact⟨a2,by omega,by omega,by omega,by omega,fun e=>by have:=(h1.wt.lt g e).2;omega⟩
 ·intro g hg hz;rcases List.mem_append.1 hz with hz|hz
  ·exact h2c g hg hz
  ·have:=(h1.kap g (List.mem_append_left _ hg)).1;have:=(hY g hz).1;omega
 ·rcases h3 with h3|⟨K,k1,k2,k3⟩
  ·exact Or.inl h3
  ·exact Or.inr ⟨K,k1,k2.same (fun g hg=>ht.block g (h1.kap g (List.mem_append_left _ hg)).1),k3⟩
theorem SoSt.touched {B:Nat} {w w':World} {b n:Nat} {T:List UInt8} {Z:List Nat} {st R:Nat} (h:SoSt B w b n T Z st R) {X:Nat->Prop} (ht:Touch X w w') (hX:∀k,k<w.heap.size->X k->k∈Z):SoSt B w' b n T Z st R:=by
 obtain⟨bo,bc,ba,vk,vw,kb,S,h1,⟨h2a,h2b,h2c⟩,h3⟩:=h;have hz:∀k,k<w.heap.size->X k->k≠b/\k≠bo/\k≠bc/\k≠ba/\vw.ownBlock≠some k:=fun k hk hx=>(h1.kap k (List.mem_append_right _ (hX k hk hx))).2
 refine⟨bo,bc,ba,vk,vw,kb,S,⟨h1.obj.other ht (fun e=>(hz b h1.obj.lt e).1 rfl),h1.ro.other ht (fun e=>(hz bo h1.ro.lt e).2.1 rfl),h1.rc.other ht (fun e=>(hz bc h1.rc.lt e).2.2.1 rfl),h1.ra.other ht (fun e=>(hz ba h1.ra.lt e).2.2.2.1 rfl),h1.lo,h1.lc,h1.la,h1.wt.same (fun k hk=>ht.block k (h1.wt.lt k hk).2 (fun e=>(hz k (h1.wt.lt k hk).2 e).2.2.2.2 hk)),h1.apart,h1.wap,h1.base,fun g hg=>⟨Nat.lt_of_lt_of_le (h1.kap g hg).1 ht.size,(h1.kap g hg).2⟩⟩,⟨h2a,h2b,h2c⟩,?_⟩;rcases h3 with h3|⟨K,k1,k2,k3⟩
 ·exact Or.inl h3
 ·exact Or.inr ⟨K,k1,k2.same (fun g hg=>by
   have hl:=(h1.kap g (List.mem_append_left _ hg)).1;exact ht.block g hl (fun e=>h2c g hg (hX g hl e))),k3⟩
def swapS (S:SS):SS:={ S with cls:=S.asd,asd:=S.cls,made:=0 }
section
variable {B : Nat} {b bo bc ba n : Nat} {vk vw : Value} {kb : List Nat} {S : SS}
theorem IsSo.swapped {w:World} (h:IsSo B w b bo bc ba vk vw n kb S) :
  IsSo B (((w.setCell ⟨b,1,none⟩ (.slice (some ⟨ba,0,none⟩) n n)).setCell ⟨b,2,none⟩ (.slice (some ⟨bc,0,none⟩) n n)).setCell ⟨b,9,none⟩ (.int .i64 0)) b bo ba bc vk vw n kb (swapS S) /\
  Touch (·=b) w (((w.setCell ⟨b,1,none⟩ (.slice (some ⟨ba,0,none⟩) n n)).setCell ⟨b,2,none⟩ (.slice (some ⟨bc,0,none⟩) n n)).setCell ⟨b,9,none⟩ (.int .i64 0)):=by
 have ht:Touch (·=b) w (((w.setCell ⟨b,1,none⟩ (.slice (some ⟨ba,0,none⟩) n n)).setCell ⟨b,2,none⟩ (.slice (some ⟨bc,0,none⟩) n n)).setCell ⟨b,9,none⟩ (.int .i64 0)):=Zae (Zae (Zae (Touch.refl _ _)));obtain⟨a1,a2,a3,a4,a5,a6⟩:=h.apart;refine⟨⟨h.obj.swap.set9 0,h.ro.other ht (fun e=>a1 e.symm),h.ra.other ht (fun e=>a3 e.symm),h.rc.other ht (fun e=>a2 e.symm),h.lo,h.la,h.lc,h.wt.same (fun k hk=>ht.block k (h.wt.lt k hk).2 (h.wap k hk).1),⟨a1,a3,a2,a5,a4,fun e=>a6 e.symm⟩,?_,?_,?_⟩,ht⟩
 ·intro k hk;obtain⟨k1,k2,k3,k4⟩:=h.wap k hk;exact⟨k1,k2,k4,k3⟩
 ·obtain⟨k1,k2,k3,k4⟩:=h.base;exact⟨k1,k2,k4,k3⟩
 ·intro g hg;obtain⟨k1,k2,k3,k4,k5,k6⟩:=h.kap g hg;exact⟨Nat.lt_of_lt_of_le k1 ht.size,k2,k3,k5,k4,k6⟩
theorem IsSo.keyNone {w:World} (h:IsSo B w b bo bc ba vk vw n kb S) :
  IsSo B (w.setCell ⟨b,4,none⟩ .nilFunc) b bo bc ba .nilFunc vw n kb S/\Touch (·=b) w (w.setCell ⟨b,4,none⟩ .nilFunc):=by
 have ht:Touch (·=b) w (w.setCell ⟨b,4,none⟩ .nilFunc):=Zae (Touch.refl _ _);obtain⟨a1,a2,a3,a4,a5,a6⟩:=h.apart;exact⟨⟨h.obj.set4 .nilFunc,h.ro.other ht (fun e=>a1 e.symm),h.rc.other ht (fun e=>a2 e.symm),h.ra.other ht (fun e=>a3 e.symm),h.lo,h.lc,h.la,h.wt.same (fun k hk=>ht.block k (h.wt.lt k hk).2 (h.wap k hk).1),h.apart,h.wap,h.base,fun g hg=>⟨Nat.lt_of_lt_of_le (h.kap g hg).1 ht.size,(h.kap g hg).2⟩⟩,ht⟩
theorem IsSo.keyed {w:World} (h:IsSo B w b bo bc ba vk vw n kb S) (kb':List Nat) (hk:∀g∈kb',g<w.heap.size/\g≠b/\g≠bo/\g≠bc/\g≠ba/\vw.ownBlock≠some g):IsSo B w b bo bc ba vk vw n kb' S:=
 ⟨h.obj,h.ro,h.rc,h.ra,h.lo,h.lc,h.la,h.wt,h.apart,h.wap,h.base,hk⟩
end
theorem KeyV.more {w:World} {vk:Value} {kb:List Nat} {bc n:Nat} {C:List Nat} {K:Nat->Nat} (h:KeyV w vk kb bc n C K) (Z:List Nat):KeyV w vk (kb++Z) bc n C K:=by
 obtain⟨F,caps,h1,h2,h3⟩:=h;exact⟨F,caps,h1,h2,fun w' h4 h5=>h3 w' (fun g hg=>h4 g (List.mem_append_left _ hg)) h5⟩
theorem Zhi (w:World) (bc n r:Nat) (hn:n<=900000) (h0:0<n) (hr:r<=1000000000) :
  Calls Tryz.prog 223 #[.slice (some ⟨bc,0,none⟩) n n,.int .i64 (r:Int)] w fun e w'=>∃g1 g2 g3,e=.returned (.func (.func 229) #[] #[.pointer (some ⟨g1,0,none⟩),.pointer (some ⟨g2,0,none⟩),.pointer (some ⟨g3,0,none⟩)])/\Caught16 w' g1 g2 g3 bc n r/\Below w.heap.size w w' /\
   (∀g∈[g1,g2,g3],w.heap.size<=g/\g<w'.heap.size):=by
 have hq:(r:Int).tmod (n:Int)=((r % n:Nat):Int):=by rw [Int.tmod_eq_emod_of_nonneg (by omega)];rfl
 have hrn:r % n<n:=Nat.mod_lt _ h0;obtain⟨q,hqq⟩:∃q,r % n=q:=⟨_,rfl⟩
 rw [hqq] at hq hrn;have hqw:IntKind.i64.wrap (q:Int)=(q:Int):=IntWalk.i64_in _ (by omega);have hn0:((n:Int)==0)=false:=by rw [beq_eq_false_iff_ne];omega
 have HF:∀(o1 o2 o3:Obj) (x1 x2 x3:Value),o1=.cells #[x1] 106->o2=.cells #[x2] 3->o3=.cells #[x3] 3 ->
   (((w.alloc o1).alloc o2).alloc o3).cell? ⟨w.heap.size+1,0,none⟩=some x2/\(((w.alloc o1).alloc o2).alloc o3).cell? ⟨w.heap.size+1+1,0,none⟩=some x3/\(((w.alloc o1).alloc o2).alloc o3).cell? ⟨w.heap.size,0,none⟩=some x1:=by
  rintro o1 o2 o3 x1 x2 x3 rfl rfl rfl;have z1:(w.alloc (.cells #[x1] 106)).heap.size=w.heap.size+1:=by simp
  have z2:((w.alloc (.cells #[x1] 106)).alloc (.cells #[x2] 3)).heap.size=w.heap.size+1+1:=by simp
  have h1:=heap_alloc_new w (.cells #[x1] 106);have h2:=heap_alloc_new (w.alloc (.cells #[x1] 106)) (.cells #[x2] 3);have h3:=heap_alloc_new ((w.alloc (.cells #[x1] 106)).alloc (.cells #[x2] 3)) (.cells #[x3] 3);rw [z1] at h2;rw [z2] at h3;have c1:=cell_of_row _ _ 0 _ _ _ h1;have c2:=cell_of_row _ _ 0 _ _ _ h2;have c3:=cell_of_row _ _ 0 _ _ _ h3;refine⟨?_,c3,?_⟩
  ·rw [World.cell?_alloc_some _ _ _ (by rw [c2];rfl),c2];rfl
  ·rw [World.cell?_alloc_some _ _ _ (by rw [World.cell?_alloc_some _ _ _ (by rw [c1];rfl),c1];rfl),World.cell?_alloc_some _ _ _ (by rw [c1];rfl),c1];rfl
 have HFF:=zh (HF _ _ _ (.slice (some ⟨bc,0,none⟩) n n) (.int .i64 (q:Int)) (.int .i64 (n:Int)) rfl rfl rfl);have HBB:Hid (Below w.heap.size w (((w.alloc (.cells #[.slice (some ⟨bc,0,none⟩) n n] 106)).alloc (.cells #[.int .i64 (q:Int)] 3)).alloc (.cells #[.int .i64 (n:Int)] 3))):=zh ((((Below.refl w.heap.size w).alloc (Nat.le_refl _) _).alloc (by simp) _).alloc (by simp;omega) _);have HSZ:Hid ((((w.alloc (.cells #[.slice (some ⟨bc,0,none⟩) n n] 106)).alloc (.cells #[.int .i64 (q:Int)] 3)).alloc (.cells #[.int .i64 (n:Int)] 3)).heap.size=w.heap.size+3):=zh (by simp);clear HF;go_enter Tryz.func223,Tryz.ntmps223;go_wp2_with fail;go_ret;refine⟨_,_,_,rfl,?_,HBB.out,?_⟩
 ·obtain⟨c1,c2,c3⟩:=HFF.out;exact⟨by rw [hqq];exact c1,c2,c3⟩
 ·intro g hg;have:=HSZ.out;simp only [List.mem_cons,List.not_mem_nil,or_false] at hg;rcases hg with rfl|rfl|rfl<;>omega
end
section
open Go.RowKit BwtM SrtM PkM
section
variable {B : Nat} {b bo bc ba n : Nat} {vk vw : Value} {kb Z : List Nat} {S : SS}
theorem ZaS (B:Nat) (w:World) (k:Nat):Below B w (w.drewN k):=⟨rfl,rfl,rfl,Nat.le_refl _,fun _ _=>rfl⟩
def EndP (B:Nat) (w w':World) (b n:Nat) (T:List UInt8) (Z:List Nat) (st R:Nat) (e:Ending):Prop:=
 e=.returned (.tuple #[])/\SoSt B w' b n T Z st R/\Below B w w'/\KbSame w w' Z
theorem Zry (T:List UInt8) (K:Nat->Nat) (w5 w6:World) (m R r2 g1 g2 g3:Nat) (vk2 vw2:Value) (hN:Num T K S m R) (hK:KeyH T (bytesBy S.reach) K) (hmd:S.made=n) (hT:T.length=n) (h0:0<n) (hn:n<=900000) (hla:S.asd.length=n) (hne:¬SrtM.Ends T S.reach) (hr:r2=bytesBy S.reach)
  (hvk:vk2=.func (.func 229) #[] #[.pointer (some ⟨g1,0,none⟩),.pointer (some ⟨g2,0,none⟩),.pointer (some ⟨g3,0,none⟩)]) (hC:Caught16 w5 g1 g2 g3 ba n r2) (hI:IsSo B w6 b bo ba bc vk2 vw2 n ([g1,g2,g3]++Z) (passSS (swapS S) r2 [⟨0,n,false⟩])) (hkb:KbSame w5 w6 ([g1,g2,g3]++Z)) (hkz:∀g∈[g1,g2,g3],g∉Z):SoSt B w6 b n T Z S.steps R:=by
 subst hT hr hvk;have hnum:=hN.num;rw [hmd] at hnum;have hck:=(ZeV hK hN.ord hnum).2;obtain⟨hk2,m2,hs⟩:=hN.pass hK hmd hne (S':=passSS (swapS S) (bytesBy S.reach) [⟨0,T.length,false⟩]) rfl ⟨rfl,rfl,rfl⟩ rfl rfl rfl
 have hrn:S.reach<T.length:=by
  rcases Nat.lt_or_ge S.reach T.length with c|c
  ·exact c
  ·exact absurd (Or.inr c) hne
 refine⟨bo,ba,bc,_,vw2,[g1,g2,g3],_,hI,⟨rfl,?_,hkz⟩,Or.inr ⟨_,hk2,((Zk5 w5 g1 g2 g3 ba T.length _ S.asd hC hla (by omega) h0 hck).same (fun g hg=>hkb g (List.mem_append_left _ hg))),?_,Or.inl ⟨[],_,S.ord,m2,hs,fun e=>by cases e⟩⟩⟩
 ·show bytesBy S.reach<=_;unfold bytesBy;split<;>omega
 ·intro i hi;show S.asd.getD i 0*T.length+S.asd.getD ((i+bytesBy S.reach) % T.length) 0<=_;have a1:=hck i hi;have a2:=hck ((i+bytesBy S.reach) % T.length) (Nat.mod_lt _ h0);have a3:S.asd.getD i 0*T.length<=900000*900000:=Nat.mul_le_mul (by omega) hn;omega
theorem Zrz (T:List UInt8) (K:Nat->Nat) (w:World) (m R:Nat) (h:IsSo B w b bo bc ba vk vw n (kb++Z) S) (hK:KeyH T (bytesBy S.reach) K) (hN:Num T K S m R) (hmd:S.made=n) (hT:T.length=n) (h0:0<n) (hn:n<=900000) (hrc:S.reach<=2*n) (hkz:∀g∈kb,g∉Z) (hb:B<=w.heap.size) :
  Calls Tryz.prog 213 #[.pointer (some ⟨b,0,none⟩)] w fun e w'=>EndP B w w' b n T Z S.steps R e:=by
 have hnum:=hN.num;rw [hmd,<-hT] at hnum;have hck:=ZeV hK hN.ord hnum;have hcu:=Zi6 hK hN.ord hnum (by omega);rw [hT] at hcu hck;obtain⟨nm,hnm⟩:∃nm,n-1=nm:=⟨_,rfl⟩
 rw [hnm] at hcu;obtain⟨o,ho⟩:∃o,S.ord.getD nm 0=o:=⟨_,rfl⟩
 rw [ho] at hcu;obtain⟨c,hc⟩:∃c,S.asd.getD o 0=c:=⟨_,rfl⟩
 rw [hc] at hcu
 have hon:o<n:=by
  have:=Zcg hN.ord.1 (j:=nm) (by omega);rw [ho] at this;omega
 have hcn:c<n:=by
  have:=hck.2 o hon;rw [hc] at this;exact this
 have HCK:=zh hck.2;have HBS:=zh h.base.1;have HKAP:=zh h.kap;have HN:=zh hN;have HK:=zh hK;have HCU:=zh hcu;have HHT:=zh hT;have HMD:=zh hmd;have HPS:=zh hN.stk;have HB:=zh h.obj.lt;obtain⟨d0,d1,d2,d3,d4,_,_,_,_,d9,_⟩:=h.obj.cells;have e1:=h.obj.frozen 1 (by omega);have e2:=h.obj.frozen 2 (by omega);have e9:=h.obj.frozen 9 (by omega);have HSW:=zh h.swapped;obtain⟨rr,hrr⟩:∃rr,S.reach=rr:=⟨_,rfl⟩
 have HRR:=zh hrr;rw [hrr] at d3 hrc;rw [hmd] at d9;clear hck hcu hN hK hmd h hT hrr hnum;go_enter Tryz.func213,Tryz.ntmps213;go_wp2_with fail
 go_region
 have HT2:=zh HSW.out.2;have H2:=zh HSW.out.1;clear HSW d0 d1 d2 d3 d4 d9 e1 e2 e9;generalize (((w.setCell ⟨b,1,none⟩ (.slice (some ⟨ba,0,none⟩) n n)).setCell ⟨b,2,none⟩ (.slice (some ⟨bc,0,none⟩) n n)).setCell ⟨b,9,none⟩ (.int .i64 0))=w2 at *;have H3:Hid (IsSo B w2.drew b bo ba bc vk vw n (kb++Z) (swapS S)):=zh (H2.out.drewN 1);have HT3:Hid (Touch (·=b) w w2.drew):=zh (HT2.out.trans (Zan (·=b) w2 1) (fun _ h=>Or.inl h));generalize w2.drew=w3 at *;clear H2 HT2;have HBS3:Hid (Below B w w3):=zh (HT3.out.below hb (fun k hk=>by have:=HBS.out;have e:k=b:=hk;omega));have HKS3:Hid (KbSame w w3 (kb++Z)):=zh (fun x hx=>HT3.out.block x (HKAP.out x hx).1 (HKAP.out x hx).2.1);obtain⟨d0,d1,d2,d3,d4,_,_,_,_,d9,_⟩:=H3.out.obj.cells;rw [show(swapS S).reach=rr from HRR.out] at d3;have e4:=H3.out.obj.frozen 4 (by omega);have cO:=(H3.out.ro.cell (i:=nm) (by rw [toI_length,H3.out.lo];omega)).1;rw [toI_getD,show(swapS S).ord.getD nm 0=o from ho] at cO;have cC:=(H3.out.rc.cell (i:=o) (by rw [toI_length,H3.out.lc];omega)).1;rw [toI_getD,show(swapS S).cls.getD o 0=c from hc] at cC;have hnmi:(n:Int)-1=(nm:Int):=by omega
 have hnmw:IntKind.i64.wrap (nm:Int)=(nm:Int):=IntWalk.i64_in _ (by omega);have hnmn:(nm:Int)<(n:Int):=by omega
 have honi:(o:Int)<(n:Int):=by omega
 have HNMN:=zh hnm;clear d2 d9 ho hc hnm;by_cases hcn2:c=nm
 ·have hE:((c:Int)==(nm:Int))=true:=by rw [beq_iff_eq];omega
  have hdone:=HN.out.done (by rw [HMD.out,HHT.out]) (Or.inl (by
   have:=HCU.out.1 hcn2;unfold Unlike;rw [HHT.out];exact this))
  go_wp2_with fail
  go_quiet (fail)
  have H5:=zh ((H3.out.drewN nq).keyNone);have HB5:Hid (Below B w ((w3.drewN nq).setCell ⟨b,4,none⟩ .nilFunc)):=zh ((HBS3.out.trans (ZaS B w3 nq)).setCell (p:=⟨b,4,none⟩) HBS.out _);have HK5:Hid (KbSame w ((w3.drewN nq).setCell ⟨b,4,none⟩ .nilFunc) (kb++Z)):=zh (HKS3.out.trans (fun x hx=>H5.out.2.block x (H3.out.kap x hx).1 (H3.out.kap x hx).2.1));have HSS:Hid (SoSt B ((w3.drewN nq).setCell ⟨b,4,none⟩ .nilFunc) b n T Z S.steps R):=zh ⟨bo,ba,bc,_,vw,kb,swapS S,H5.out.1,⟨rfl,by show S.reach<=_;rw [HRR.out];exact hrc,hkz⟩,Or.inl ⟨rfl,hdone.2,hdone.1⟩⟩;clear hdone;go_wp2_with fail;refine bodyPost_ret (results_none rfl _ _ _) rfl ?_;exact⟨rfl,HSS.out,HB5.out,HK5.out.part⟩
 ·have hE:((c:Int)==(nm:Int))=false:=by rw [beq_eq_false_iff_ne];omega
  by_cases hrn:n<=rr
  ·have hG:(rr:Int)>=(n:Int):=by omega
   have hdone:=HN.out.done (by rw [HMD.out,HHT.out]) (Or.inr (by rw [HHT.out,HRR.out];exact hrn));go_wp2_with fail
   go_quiet (fail)
   have H5:=zh ((H3.out.drewN nq).keyNone);have HB5:Hid (Below B w ((w3.drewN nq).setCell ⟨b,4,none⟩ .nilFunc)):=zh ((HBS3.out.trans (ZaS B w3 nq)).setCell (p:=⟨b,4,none⟩) HBS.out _);have HK5:Hid (KbSame w ((w3.drewN nq).setCell ⟨b,4,none⟩ .nilFunc) (kb++Z)):=zh (HKS3.out.trans (fun x hx=>H5.out.2.block x (H3.out.kap x hx).1 (H3.out.kap x hx).2.1));have HSS:Hid (SoSt B ((w3.drewN nq).setCell ⟨b,4,none⟩ .nilFunc) b n T Z S.steps R):=zh ⟨bo,ba,bc,_,vw,kb,swapS S,H5.out.1,⟨rfl,by show S.reach<=_;rw [HRR.out];exact hrc,hkz⟩,Or.inl ⟨rfl,hdone.2,hdone.1⟩⟩;clear hdone;go_wp2_with fail;refine bodyPost_ret (results_none rfl _ _ _) rfl ?_;exact⟨rfl,HSS.out,HB5.out,HK5.out.part⟩
  ·have hG:¬(rr:Int)>=(n:Int):=by omega
   have hne:¬SrtM.Ends T S.reach:=fun he=>by
    rcases he with he|he
    ·unfold Unlike at he;rw [HHT.out] at he;exact hcn2 (HCU.out.2 he)
    ·rw [HHT.out,HRR.out] at he;exact hrn he
   have HNE:=zh hne;obtain⟨q,hq⟩:∃q,2*rr=q:=⟨_,rfl⟩
   have hqi:(2:Int)*(rr:Int)=(q:Int):=by omega
   have hqw:IntKind.i64.wrap (q:Int)=(q:Int):=IntWalk.i64_in _ (by omega);clear hne;go_wp2_with fail
   go_quiet (fail)
   have HDQ:Hid (IsSo B (w3.drewN nq) b bo ba bc vk vw n (kb++Z) (swapS S)):=zh (H3.out.drewN nq);have HBQ:Hid (Below B w (w3.drewN nq)):=zh (HBS3.out.trans (ZaS B w3 nq));have HKQ:Hid (KbSame w (w3.drewN nq) (kb++Z)):=zh HKS3.out
   have HTL:Hid (∀(r2:Nat),r2=bytesBy S.reach->∀w5 g1 g2 g3,Caught16 w5 g1 g2 g3 ba n r2->Below (w3.drewN nq).heap.size (w3.drewN nq) w5->(∀g∈[g1,g2,g3],(w3.drewN nq).heap.size<=g/\g<w5.heap.size) ->
     IsSo B w5 b bo ba bc vk vw n ([g1,g2,g3]++Z) (swapS S)/\B<=w5.heap.size/\∀w6 vw2 vk2,vk2=.func (.func 229) #[] #[.pointer (some ⟨g1,0,none⟩),.pointer (some ⟨g2,0,none⟩),.pointer (some ⟨g3,0,none⟩)]->IsSo B w6 b bo ba bc vk2 vw2 n ([g1,g2,g3]++Z) (passSS (swapS S) r2 [⟨0,n,false⟩])->Below B w5 w6->KbSame w5 w6 ([g1,g2,g3]++Z) ->
      EndP B w w6 b n T Z S.steps R (.returned (.tuple #[]))):=zh (by
    intro r2 hr w5 g1 g2 g3 hC hB5 hg5;have h5:=HDQ.out.below hB5;have hz:=hB5.size;have hz0:=HBQ.out.size;refine⟨h5.keyed _ ?_,by omega,?_⟩
    ·intro g hg;rcases List.mem_append.1 hg with hg|hg
     ·obtain⟨k1,k2⟩:=hg5 g hg;have l1:=HDQ.out.obj.lt;have l2:=HDQ.out.ro.lt;have l3:=HDQ.out.rc.lt;have l4:=HDQ.out.ra.lt;exact⟨k2,by omega,by omega,by omega,by omega,fun e=>by have:=(HDQ.out.wt.lt g e).2;omega⟩
     ·exact h5.kap g (List.mem_append_right _ hg)
    ·intro w6 vw2 vk2 hvk hI hB6 hK6;refine⟨rfl,Zry T K w5 w6 m R r2 g1 g2 g3 vk2 vw2 HN.out HK.out HMD.out HHT.out h0 hn HDQ.out.lc HNE.out hr hvk hC hI hK6 (fun g hg hz=>by have h1:=(hg5 g hg).1;have h2:=(HDQ.out.kap g (List.mem_append_right _ hz)).1;omega),(HBQ.out.trans (hB5.mono (by omega))).trans hB6,?_⟩;exact(HKQ.out.part).trans (KbSame.trans (w1:=w5) (fun x hx=>hB5.block x (HDQ.out.kap x (List.mem_append_right _ hx)).1) hK6.part))
   have HPSW:Hid ((swapS S).ps=[]):=HPS;by_cases hq1:1<q
   ·have hq1i:(1:Int)<(q:Int):=by omega
    have HR2:Hid (q=bytesBy S.reach):=zh (by rw [HRR.out,<-hq];unfold bytesBy;split<;>omega);go_wp2_with fail;refine(Zhi (w3.drewN nq) ba n q hn h0 (by omega)).mono ?_;rintro e w5 ⟨g1,g2,g3,rfl,hC,hB5,hg5⟩;have HC:=zh hC;have HT5:=zh (HTL.out q HR2.out w5 g1 g2 g3 hC hB5 hg5);clear hC hB5 hg5;go_wp2_with fail;refine(Zdt w5 q _ _ HT5.out.1 HPSW.out HT5.out.2.1 (by omega)).mono ?_;rintro e w6 ⟨rfl,vw2,hI,hB6,hK6⟩;have HR6:=zh (HT5.out.2.2 w6 vw2 _ rfl hI hB6 hK6);clear hI hB6 hK6;go_wp2_with fail;refine bodyPost_end (results_none rfl _ _ _) rfl ?_;exact HR6.out
   ·have hq1i:¬(1:Int)<(q:Int):=by omega
    have HR2:Hid (1=bytesBy S.reach):=zh (by rw [HRR.out];unfold bytesBy;split<;>omega);go_wp2_with fail;refine(Zhi (w3.drewN nq) ba n 1 hn h0 (by omega)).mono ?_;rintro e w5 ⟨g1,g2,g3,rfl,hC,hB5,hg5⟩;have HC:=zh hC;have HT5:=zh (HTL.out 1 HR2.out w5 g1 g2 g3 hC hB5 hg5);clear hC hB5 hg5;go_wp2_with fail;refine(Zdt w5 1 _ _ HT5.out.1 HPSW.out HT5.out.2.1 (by omega)).mono ?_;rintro e w6 ⟨rfl,vw2,hI,hB6,hK6⟩;have HR6:=zh (HT5.out.2.2 w6 vw2 _ rfl hI hB6 hK6);clear hI hB6 hK6;go_wp2_with fail;refine bodyPost_end (results_none rfl _ _ _) rfl ?_;exact HR6.out
end
end
section
open Go.RowKit BwtM SrtM PkM
section
variable {B : Nat} {b bo bc ba n : Nat} {vk vw : Value} {kb Z : List Nat} {S : SS}
def numS (S:SS) (l:List Nat) (j:Nat):SS:={ S with asd:=l,made:=S.made+j }
def SomeP (B:Nat) (w w':World) (b n:Nat) (T:List UInt8) (Z:List Nat) (st R k:Nat) (e:Ending):Prop:=
 ∃g:Nat,e=.returned (.int .i64 (g:Int))/\(1<=g/\g<=k/\g<=R)/\SoSt B w' b n T Z st (R-g)/\Below B w w'/\KbSame w w' Z
theorem IsSo.putClass {wr:World} (h:IsSo B wr b bo bc ba vk vw n kb S) (i x:Nat) (hi:i<n) :
  IsSo B ((wr.setCell ⟨ba,i,none⟩ (.int .i64 (x:Int))).setCell ⟨b,9,none⟩ (.int .i64 ((S.made+1:Nat):Int))) b bo bc ba vk vw n kb { S with asd:=S.asd.set i x,made:=S.made+1 } /\
  Touch (fun k=>k=ba\/k=b) wr ((wr.setCell ⟨ba,i,none⟩ (.int .i64 (x:Int))).setCell ⟨b,9,none⟩ (.int .i64 ((S.made+1:Nat):Int))):=by
 have hr:=(h.ra.cell (i:=i) (by rw [toI_length,h.la];exact hi)).2.2 (x:Int);have e:(toI S.asd).set i (x:Int)=toI (S.asd.set i x):=by unfold toI;rw [List.map_set]
 rw [e] at hr;have h1:=h.inAsd (Zae (Touch.refl _ _)) (S.asd.set i x) (by rw [List.length_set];exact h.la) hr;refine⟨h1.own (Zae (Touch.refl _ _)) (h1.obj.set9 (S.made+1)) rfl rfl rfl rfl,?_⟩;have t1:Touch (·=ba) wr (wr.setCell ⟨ba,i,none⟩ (.int .i64 (x:Int))):=Zae (Touch.refl _ _);have t2:Touch (·=b) (wr.setCell ⟨ba,i,none⟩ (.int .i64 (x:Int))) ((wr.setCell ⟨ba,i,none⟩ (.int .i64 (x:Int))).setCell ⟨b,9,none⟩ (.int .i64 ((S.made+1:Nat):Int))):=Zae (Touch.refl _ _);exact(t1.mono (fun _ h=>Or.inl h)).trans (t2.mono (fun _ h=>Or.inr h)) (fun _ h=>Or.inl h)
def NumAtP (B:Nat) (w wr:World) (b bo bc ba n:Nat) (vk vw:Value) (kb:List Nat) (T:List UInt8) (K:Nat->Nat) (S:SS) (m R j:Nat):Prop:=
 ∃l,IsSo B wr b bo bc ba vk vw n kb (numS S l j)/\Num T K (numS S l j) m (R-j)/\j<=R/\Below B w wr/\KbSame w wr kb
theorem Zl7 (T:List UInt8) (K:Nat->Nat) (w:World) (m R k:Nat) (h:IsSo B w b bo bc ba vk vw n (kb++Z) S) (hK:KeyH T (bytesBy S.reach) K) (hkey:KeyV w vk kb bc n S.cls K) (hKb:∀i,i<n->K i<=1000000000000) (hN:Num T K S m R) (hmd:S.made<n) (hT:T.length=n) (h0:0<n) (hn:n<=900000) (hrc:S.reach<=2*n) (hkz:∀g∈kb,g∉Z)
  (hk1:1<=k) (hk:k<=9223372036854775807) (hb:B<=w.heap.size) :
  Calls Tryz.prog 190 #[.pointer (some ⟨b,0,none⟩),.int .i64 (k:Int)] w fun e w'=>SomeP B w w' b n T Z S.steps R k e:=by
 obtain⟨F,caps,rfl,he,hcall⟩:=hkey;have HCALL:=zh hcall;have HKAP:=zh h.kap;have HKH:=zh hK;have HHT:=zh hT;have H0:=zh h;have HN:=zh hN;have hperm:=hN.ord.1
 have HORD:Hid (∀i,i<n->S.ord.getD i 0<n):=zh (fun i hi=>by
  have:=Zcg hperm (j:=i) (by omega);omega)
 obtain⟨md,hmdE⟩:∃md,S.made=md:=⟨_,rfl⟩
 have HMD:=zh hmdE;rw [hmdE] at hmd;obtain⟨lf,hlf⟩:∃lf,n-md=lf:=⟨_,rfl⟩
 have hlfi:(n:Int)-(md:Int)=(lf:Int):=by omega
 have hlfw:IntKind.i64.wrap (lf:Int)=(lf:Int):=IntWalk.i64_in _ (by omega);obtain⟨g,hg⟩:∃g,min k lf=g:=⟨_,rfl⟩
 have hgk:g<=k/\g<=lf/\1<=g/\(g<k->g=lf):=by omega
 have hmin:(if lf<k then(lf:Int) else(k:Int))=(g:Int):=by rw [<-hg];split<;>omega
 have HG:=zh hgk;have HLF:=zh hlf;have HB0:Hid (Below B w w):=zh (Below.refl _ _);obtain⟨d0,_,_,_,_,_,_,_,_,d9,_⟩:=h.obj.cells;rw [hmdE] at d9;clear h hK hN hcall hT hperm hmdE hlf;go_enter Tryz.func190,Tryz.ntmps190;go_wp2_with fail
 go_quiet (fail)
 have HQ:Hid (NumAtP B w (w.drewN nq) b bo bc ba n (.func (.func F) #[] caps) vw (kb++Z) T K S m R 0):=zh ⟨S.asd,H0.out.drewN nq,HN.out,Nat.zero_le _,ZaS _ _ _,KbSame.refl _ _⟩;clear d0 d9 hmin hlfi;generalize w.drewN nq=wq at *;go_wp2_with fail
 go_loopw [22] (fun vg wr=>∃(j:Nat),vg=.int .i64 (j:Int)/\j<=g/\NumAtP B w wr b bo bc ba n (.func (.func F) #[] caps) vw (kb++Z) T K S m R j) (fun vg _=>g-(intOf vg).toNat)
 case atStart=>exact⟨0,rfl,by omega,HQ.out⟩
 case round=>
  clear HQ;obtain⟨j,rfl,hjg,l,hI,hS,hjR,hB,hKB⟩:=hrel;have HI:=zh hI;have HS:=zh hS;have HB:=zh hB;have HKS:=zh hKB;obtain⟨d0,_,d2,_,d4,_,_,_,_,d9,_⟩:=hI.obj.cells;obtain⟨M,hM⟩:∃M,md+j=M:=⟨_,rfl⟩
  have HME:Hid (S.made+j=M):=zh (by rw [HMD.out];exact hM);rw [show(numS S l j).made=M from HME.out] at d9;have hMn:=HG.out;have hlf:=HLF.out;clear hI hS hB hKB;by_cases hjl:j<g
  ·have hji:(j:Int)<(g:Int):=by omega
   have hMl:M<n:=by omega
   have hMi:(M:Int)<(n:Int):=by omega
   have hil:=HORD.out M hMl;obtain⟨i,hi⟩:∃i,S.ord.getD M 0=i:=⟨_,rfl⟩
   rw [hi] at hil;have hii:(i:Int)<(n:Int):=by omega
   have cI:=(HI.out.ro.cell (i:=M) (by rw [toI_length,HI.out.lo];exact hMl)).1;rw [toI_getD,show(numS S l j).ord.getD M 0=i from hi] at cI;have cA:=(HI.out.ra.cell (i:=i) (by rw [toI_length,HI.out.la];exact hil)).1;have fA:=(HI.out.ra.cell (i:=i) (by rw [toI_length,HI.out.la];exact hil)).2.1;have f9:=HI.out.obj.frozen 9 (by omega);have hbba:¬b=ba:=HI.out.apart.2.2.1;obtain⟨x,hx⟩:∃x,cN K S.ord M=x:=⟨_,rfl⟩
   have hxM:x<=M:=by rw [<-hx];exact ZpD K S.ord M
   have HTL:Hid (∀W,Below wr.heap.size wr W->NumAtP B w ((W.setCell ⟨ba,i,none⟩ (.int .i64 (x:Int))).setCell ⟨b,9,none⟩ (.int .i64 ((M+1:Nat):Int))) b bo bc ba n (.func (.func F) #[] caps) vw (kb++Z) T K S m R (j+1)):=zh (fun W hW=>by
    have h1:=HI.out.below hW;have h2:=h1.putClass i x hil
    have h3:=HS.out.next (S':=numS S (l.set i x) (j+1)) (by rw [HHT.out];show S.made+j<n;rw [HME.out];exact hMl) (by rw [HHT.out];exact HI.out.la) rfl ⟨rfl,rfl,rfl⟩ rfl rfl rfl (by
     show l.set i x=l.set (S.ord.getD (S.made+j) 0) (cN K S.ord (S.made+j));rw [HME.out,hi,hx])
    rw [show(numS S l j).made=M from HME.out] at h2;refine⟨l.set i x,?_,by rw [show R-(j+1)=R-j-1 by omega];exact h3.2,by have:=h3.1;omega,?_,?_⟩
    ·have e:({ (numS S l j) with asd:=(numS S l j).asd.set i x,made:=M+1 }:SS)=numS S (l.set i x) (j+1):=by
      show({ S with asd:=l.set i x,made:=M+1 }:SS)={ S with asd:=l.set i x,made:=S.made+(j+1) };rw [show S.made+(j+1)=M+1 by rw [<-HME.out];omega]
     rw [e] at h2;exact h2.1
    ·exact(HB.out.trans (hW.mono (Nat.le_trans hb HB.out.size))).trans (h2.2.below (Nat.le_trans (Nat.le_trans hb HB.out.size) hW.size) (fun y hy=>by
      obtain⟨b1,b2,b3,b4⟩:=HI.out.base;rcases hy with e|e
      ·omega
      ·omega))
    ·intro y hy;obtain⟨k1,k2,k3,k4,k5,_⟩:=HI.out.kap y hy
     rw [h2.2.block y (Nat.lt_of_lt_of_le k1 hW.size) (fun e=>by
      rcases e with e|e
      ·exact k5 e
      ·exact k2 e),hW.block y k1]
     exact HKS.out y hy)
   have HCC:Hid (∀q m2,q<n->Calls Tryz.prog F (#[.int .i64 (q:Int)]++caps) (wr.drewN m2) fun e w'=>e=.returned (.int .i64 (K q:Int))/\∃m3,w'=(wr.drewN m2).drewN m3):=zh (fun q m2 hq=>HCALL.out (wr.drewN m2) (fun x hx=>HKS.out x (List.mem_append_left _ hx)) HI.out.rc q hq);have HXN:=zh hx;have HIE:=zh hi;clear hx hi;by_cases hM0:M=0
   ·have hx0:x=0:=by rw [<-HXN.out,hM0];rfl
    have hMg:¬(M:Int)>0:=by omega
    clear hM0;subst hx0;go_wp2_with fail
    go_quiet (fail)
    have HRR:Hid (NumAtP B w (((wr.drewN nq).setCell ⟨ba,i,none⟩ (.int .i64 ((0:Nat):Int))).setCell ⟨b,9,none⟩ (.int .i64 ((M+1:Nat):Int))) b bo bc ba n (.func (.func F) #[] caps) vw (kb++Z) T K S m R (j+1)):=zh (HTL.out _ (Zas _ _));clear HTL;go_wp2_with fail;go_roundw
    case rel=>exact⟨j+1,by go_num,by omega,HRR.out⟩
    case measure=>simp [intOf];omega
   ·have hMg:(M:Int)>0:=by omega
    obtain⟨M1,hM1⟩:∃M1,M-1=M1:=⟨_,rfl⟩
    have hM1i:(M:Int)-1=(M1:Int):=by omega
    have hM1w:IntKind.i64.wrap (M1:Int)=(M1:Int):=IntWalk.i64_in _ (by omega);have hM1n:(M1:Int)<(n:Int):=by omega
    have hal:=HORD.out M1 (by omega);obtain⟨a,ha⟩:∃a,S.ord.getD M1 0=a:=⟨_,rfl⟩
    rw [ha] at hal;have hai:(a:Int)<(n:Int):=by omega
    have cM:=(HI.out.ro.cell (i:=M1) (by rw [toI_length,HI.out.lo];omega)).1;rw [toI_getD,show(numS S l j).ord.getD M1 0=a from ha] at cM;have cC:=(HI.out.ra.cell (i:=a) (by rw [toI_length,HI.out.la];exact hal)).1;rw [toI_getD] at cC
    have hca:(numS S l j).asd.getD a 0=cN K S.ord M1:=by
     have:=HS.out.num M1 (by show M1<S.made+j;rw [HME.out];omega);rw [show(numS S l j).ord=S.ord from rfl,ha] at this;exact this
    rw [hca] at cC;obtain⟨ca,hcaE⟩:∃ca,cN K S.ord M1=ca:=⟨_,rfl⟩
    rw [hcaE] at cC;have hcaM:ca<=M1:=by rw [<-hcaE];exact ZpD K S.ord M1
    have hxc:x=if K i=K a then ca else ca+1:=by
     rw [<-HXN.out,show M=M1+1 by omega];show(if K (S.ord.getD (M1+1) 0)=K (S.ord.getD M1 0) then cN K S.ord M1 else cN K S.ord M1+1)=_;rw [ha,hcaE,show M1+1=M by omega,HIE.out]
    obtain⟨ki,hki⟩:∃ki,K i=ki:=⟨_,rfl⟩
    obtain⟨ka,hka⟩:∃ka,K a=ka:=⟨_,rfl⟩
    rw [hki,hka] at hxc;have HCI:Hid (∀m2,Calls Tryz.prog F (#[.int .i64 (i:Int)]++caps) (wr.drewN m2) fun e w'=>e=.returned (.int .i64 (ki:Int))/\∃m3,w'=(wr.drewN m2).drewN m3):=zh (fun m2=>by rw [<-hki];exact HCC.out i m2 hil);have HCA:Hid (∀m2,Calls Tryz.prog F (#[.int .i64 (a:Int)]++caps) (wr.drewN m2) fun e w'=>e=.returned (.int .i64 (ka:Int))/\∃m3,w'=(wr.drewN m2).drewN m3):=zh (fun m2=>by rw [<-hka];exact HCC.out a m2 hal);clear HCC hca hcaE ha hki hka hM1;by_cases hkk:ki=ka
    ·have hT1:((ki:Int) != (ka:Int))=false:=by rw [bne_eq_false_iff_eq];omega
     rw [if_pos hkk] at hxc;subst hxc;go_wp2_with fail
     go_quiet (fail)
     revert nq
     intro na;go_wp2_with fail
     go_quiet (fail)
     revert nq
     intro nb;go_wp2_with fail
     go_quiet ((first|exact ZdL (HCI.out _)|exact ZdL (HCA.out _)))
     revert nq
     intro nc;have HRR:Hid (NumAtP B w (((wr.drewN (na+nb+nc)).setCell ⟨ba,i,none⟩ (.int .i64 ((x:Nat):Int))).setCell ⟨b,9,none⟩ (.int .i64 ((M+1:Nat):Int))) b bo bc ba n (.func (.func F) #[] caps) vw (kb++Z) T K S m R (j+1)):=zh (HTL.out _ (Zas _ _));clear HTL;go_wp2_with fail;go_roundw
     case rel=>exact⟨j+1,by go_num,by omega,HRR.out⟩
     case measure=>simp [intOf];omega
    ·have hT1:((ki:Int) != (ka:Int))=true:=by rw [bne_iff_ne];omega
     rw [if_neg hkk] at hxc;subst hxc;go_wp2_with fail
     go_quiet (fail)
     revert nq
     intro na;go_wp2_with fail
     go_quiet (fail)
     revert nq
     intro nb;go_wp2_with fail
     go_quiet ((first|exact ZdL (HCI.out _)|exact ZdL (HCA.out _)))
     revert nq
     intro nc;have HRR:Hid (NumAtP B w (((wr.drewN (na+nb+nc)).setCell ⟨ba,i,none⟩ (.int .i64 ((ca+1:Nat):Int))).setCell ⟨b,9,none⟩ (.int .i64 ((M+1:Nat):Int))) b bo bc ba n (.func (.func F) #[] caps) vw (kb++Z) T K S m R (j+1)):=zh (HTL.out _ (Zas _ _));clear HTL;go_wp2_with fail;go_roundw
     case rel=>exact⟨j+1,by go_num,by omega,HRR.out⟩
     case measure=>simp [intOf];omega
  ·have HE:Hid (j=g):=zh (by omega);have hjid:¬(j:Int)<(g:Int):=by omega
   have hgg:j=g:=HE.out;subst hgg;by_cases hMn:M=n
   ·have hE1:((M:Int)==(n:Int))=true:=by rw [beq_iff_eq];omega
    go_wp2_with fail
    go_quiet (fail)
    go_wp2_with fail;refine(Zrz T K (wr.drewN nq) m (R-j) (HI.out.drewN nq) HKH.out HS.out (by show S.made+j=n;rw [HME.out];exact hMn) HHT.out h0 hn hrc hkz (Nat.le_trans hb HB.out.size)).mono ?_;rintro e w5 ⟨rfl,hs5,hb5,hk5⟩
    have HR5:Hid (SomeP B w w5 b n T Z S.steps R k (.returned (.int .i64 (j:Int)))):=zh (by
     have hg:=HG.out;exact⟨j,rfl,⟨hg.2.2.1,hg.1,hjR⟩,hs5,HB.out.trans ((ZaS _ _ nq).trans hb5),KbSame.trans (w1:=wr.drewN nq) HKS.out.part hk5⟩)
    clear hs5 hb5 hk5;go_wp2_with fail;go_ret;exact HR5.out
   ·have hE1:((M:Int)==(n:Int))=false:=by rw [beq_eq_false_iff_ne];omega
    have HSS:Hid (∀q,SomeP B w (wr.drewN q) b n T Z S.steps R k (.returned (.int .i64 (j:Int)))):=zh (fun q=>by
     have hlt:S.made+j<n:=by rw [HME.out];omega
     have hg:=HG.out;refine⟨j,rfl,⟨hg.2.2.1,hg.1,hjR⟩,⟨bo,bc,ba,_,vw,kb,numS S l j,HI.out.drewN q,⟨rfl,hrc,hkz⟩,Or.inr ⟨K,HKH.out,⟨F,caps,rfl,he,fun W hW hR=>HCALL.out W (fun x hx=>(hW x hx).trans (HKS.out x (List.mem_append_left _ hx))) hR⟩,hKb,Or.inr ⟨m,HS.out,hlt⟩⟩⟩,HB.out.trans (ZaS _ _ _),HKS.out.part⟩)
    go_wp2_with fail
    go_quiet (fail)
    go_wp2_with fail;go_ret;exact HSS.out _
end
end
section
open Go.RowKit BwtM SrtM PkM
section
variable {B : Nat} {b bo bc ba n : Nat} {vk vw : Value} {kb Z : List Nat} {S : SS}
theorem ZrA {T:List UInt8} {ps:List Part} (h:∀q∈ps,Fits T.length q):ps.length<=costs ps:=by
 induction ps with
 | nil=>exact Nat.zero_le _
 | cons p ps ih=>
  have h1:=ih (fun q hq=>h q (List.mem_cons_of_mem _ hq))
  have h2:1<=p.cost:=by
   obtain⟨f1,f2,f3⟩:=h p (List.mem_cons_self ..);unfold Part.cost;split
   ·rename_i hb;have:=f3 hb;omega
   ·exact ZkY _
  unfold costs at h1 ⊢;rw [List.map_cons,List.sum_cons,List.length_cons];omega
theorem ZpS {T:List UInt8} {K:Nat->Nat} {ps:List Part} {p:Part} {A:List Nat} {m R:Nat} (h:Srt T K S ps p A m R):ps.length<=R+3*T.length:=by
 have hl:=h.left;rw [Za7] at hl;have h1:=ZrA (fun q hq=>h.fits q (List.mem_append_left _ hq));have hf:=h.fit;rcases h.top with⟨_,e1,e2,e3,_⟩|⟨hb,_⟩
 ·omega
 ·have hbd:=h.bounds hb;have hla:=(h.on hb).2.1;omega
theorem ZpT {T:List UInt8} {K:Nat->Nat} {ps:List Part} {A:List Nat} {m R:Nat} (hT:T.length=n) (h0:0<n) (hz:S.laid=0/\S.first=0/\S.second=0) (hm:S.made=0) (h:(∃ps2 q,ps=ps2++[q]/\Srt T K S ps2 q A m R)\/(ps=[]/\Num T K S m R)):Due T K S n R:=by
 rcases h with⟨ps2,q,_,h⟩|⟨_,h⟩
 ·refine Or.inl ⟨ps2,q,A,m,h,fun hb=>?_⟩;have:=(h.fits q (by simp)).2.2 hb;omega
 ·exact Or.inr ⟨m,h,by omega⟩
theorem ZpU (T:List UInt8) (K:Nat->Nat) (w:World) (m R k:Nat) (h:IsSo B w b bo bc ba vk vw n (kb++Z) S) (hK:KeyH T (bytesBy S.reach) K) (hkey:KeyV w vk kb bc n S.cls K) (hKb:∀i,i<n->K i<=1000000000000) (hN:Num T K S m R) (hmd:S.made<n) (hT:T.length=n) (h0:0<n) (hn:n<=900000) (hrc:S.reach<=2*n) (hkz:∀g∈kb,g∉Z)
  (hk1:1<=k) (hk:k<=9223372036854775807) (hb:B<=w.heap.size) :
  Calls Tryz.prog 160 #[.pointer (some ⟨b,0,none⟩),.int .i64 (k:Int)] w fun e w'=>SomeP B w w' b n T Z S.steps R k e:=by
 have hw:=h.wt;rw [hN.stk] at hw;obtain⟨wa,wc,hwe⟩:=hw.slice;have hwe:vw=.slice wa 0 wc:=hwe;subst hwe;have HC:=zh (Zl7 T K w m R k h hK hkey hKb hN hmd hT h0 hn hrc hkz hk1 hk hb);obtain⟨_,_,_,_,_,d5,_⟩:=h.obj.cells;clear h hK hkey hN hw hrc hT hmd;go_enter Tryz.func160,Tryz.ntmps160;go_wp2_with fail;refine HC.out.mono ?_;rintro e w5 ⟨g,rfl,hg,hs,hB,hZ⟩;have HR:Hid (SomeP B w w5 b n T Z S.steps R k (.returned (.int .i64 (g:Int)))):=zh ⟨g,rfl,hg,hs,hB,hZ⟩;clear hg hs hB hZ;go_wp2_with fail;go_ret;exact HR.out
theorem Zhj {T:List UInt8} {K:Nat->Nat} {w w1 w':World} {R k g:Nat} {vw':Value} {S':SS} (hkz:∀g∈kb,g∉Z) (hK:KeyH T (bytesBy S.reach) K) (hkey:KeyV w1 vk kb bc n S.cls K) (hKb:∀i,i<n->K i<=1000000000000) (hrc:S.reach<=2*n) (hI:IsSo B w' b bo bc ba vk vw' n (kb++Z) S')
  (h1:S'.steps=S.steps) (h2:S'.reach=S.reach) (h3:S'.cls=S.cls) (hd:Due T K S' n (R-g)) (hg:1<=g/\g<=k/\g<=R) (hB:Below B w w') (hkb:KbSame w w' (kb++Z)) (hkb1:KbSame w1 w' (kb++Z)):SomeP B w w' b n T Z S.steps R k (.returned (.int .i64 (g:Int))):=
 ⟨g,rfl,hg,⟨bo,bc,ba,vk,vw',kb,S',hI,⟨h1,by rw [h2];exact hrc,hkz⟩,Or.inr ⟨K,by rw [h2];exact hK,by rw [h3];exact hkey.same (fun g hg=>hkb1 g (List.mem_append_left _ hg)),hKb,hd⟩⟩,hB,hkb.part⟩
theorem ZsL {A O:List Nat} {a lo g:Nat} (ha:a+g<=A.length) (ho:lo+a+g<=O.length) :
  (∀i,i<a->(A.take a++(O.drop (lo+a)).take g++A.drop (a+g)).getD i 0=A.getD i 0)/\∀i,a<=i->i<a+g->(A.take a++(O.drop (lo+a)).take g++A.drop (a+g)).getD i 0=O.getD (lo+i) 0:=by
 have l1:(A.take a).length=a:=by rw [List.length_take];omega
 have l2:((O.drop (lo+a)).take g).length=g:=by rw [List.length_take,List.length_drop];omega
 constructor
 ·intro i hi;rw [List.append_assoc,List.getD_eq_getElem?_getD,List.getElem?_append_left (by omega),List.getElem?_take_of_lt hi,List.getD_eq_getElem?_getD]
 ·intro i h1 h2;rw [List.append_assoc,Zgn (by omega),l1,List.getD_eq_getElem?_getD,List.getElem?_append_left (by omega),List.getElem?_take_of_lt (by omega),List.getElem?_drop,List.getD_eq_getElem?_getD];congr 2;omega
theorem ZpV (T:List UInt8) (K:Nat->Nat) (w:World) (ps:List Part) (p:Part) (A:List Nat) (m R k:Nat) (h:IsSo B w b bo bc ba vk vw n (kb++Z) S) (hK:KeyH T (bytesBy S.reach) K) (hkey:KeyV w vk kb bc n S.cls K) (hKb:∀i,i<n->K i<=1000000000000) (hS:Srt T K S ps p A m R) (hsz:p.begun=true->S.first+S.second<p.hi-p.lo) (hT:T.length=n) (h0:0<n) (hn:n<=20000) (hrc:S.reach<=2*n) (hkz:∀g∈kb,g∉Z) (hR:R<=800000)
  (hk1:1<=k) (hk:k<=9223372036854775807) (hb:B<=w.heap.size) :
  Calls Tryz.prog 160 #[.pointer (some ⟨b,0,none⟩),.int .i64 (k:Int)] w fun e w'=>SomeP B w w' b n T Z S.steps R k e:=by
 have hdep:=ZpS hS;have hfit:=hS.fit;rw [hT] at hdep hfit;obtain⟨f1,f2,f3,f4,f5⟩:=hfit;have H0:=zh h;have HS:=zh hS;have HKV:=zh hkey;have HK:=zh hK;have HSTK:=zh hS.stk;have HSZ:=zh hsz;have HHT:=zh hT;have hw:=h.wt;rw [hS.stk] at hw;obtain⟨g,cap,rfl,hBg,hgl,hcap,c0,c1,c2,fz2⟩:=hw.top;obtain⟨L,hL⟩:∃L,ps.length=L:=⟨_,rfl⟩
 rw [hL] at hcap c0 c1 c2 fz2 hdep H0;have HL:=zh hL;have hix:=fun W=>ZiH g L cap (by omega) W
 have hLi2:((L:Int)+1)-1=(L:Int):=by omega
 have hLw:IntKind.i64.wrap (L:Int)=(L:Int):=IntWalk.i64_in _ (by omega);have hLw2:IntKind.i64.wrap ((L:Int)+1-1)=(L:Int):=by rw [hLi2];exact hLw
 obtain⟨_,_,_,_,_,d5,_⟩:=H0.out.obj.cells;have hL0:(((L+1:Nat):Int)==0)=false:=by rw [beq_eq_false_iff_ne];omega
 have hL0':((L:Int)+1==0)=false:=by rw [beq_eq_false_iff_ne];omega
 have HRC:=zh hrc;have HKZ:=zh hkz;have HKB:=zh hKb;have HHB:=zh hb;have HRR:=zh hR;have HBS:=zh h.base.1;have hfi:=hS.fits p (by simp);rw [hT] at hfi;have HFI:=zh hfi;clear h hK hkey hS hw hrc hT hL hKb hfi hkz;go_enter Tryz.func160,Tryz.ntmps160;go_wp2_with fail;have hgl2:g<w.drew.heap.size:=hgl;have hgb5:b<w.drew.heap.size:=H0.out.obj.lt;have hSS:(fun W:World=>W.cell? ⟨b,5,none⟩=some (.slice (some ⟨g,0,none⟩) (L+1) cap)/\W.cell? ⟨g,L*3,none⟩=some (.int .i64 (p.lo:Int))/\W.cell? ⟨g,L*3+1,none⟩=some (.int .i64 (p.hi:Int))/\W.cell? ⟨g,L*3+2,none⟩=some (.bool p.begun)) w.drew:=⟨d5,c0,c1,c2⟩
 have hSX:(fun W:World=>W.cell? ⟨b,5,none⟩=some (.slice (some ⟨g,0,none⟩) (L+1) cap)/\W.cell? ⟨g,L*3,none⟩=some (.int .i64 (p.lo:Int))/\W.cell? ⟨g,L*3+1,none⟩=some (.int .i64 (p.hi:Int))/\W.cell? ⟨g,L*3+2,none⟩=some (.bool p.begun)) (w.drew.alloc (.cells #[.int .i64 0,.int .i64 0,.bool false] 246)):=
  ⟨(World.cell?_alloc_some w.drew _ _ (by rw [hSS.1];rfl)).trans hSS.1,(World.cell?_alloc_some w.drew _ _ (by rw [hSS.2.1];rfl)).trans hSS.2.1,(World.cell?_alloc_some w.drew _ _ (by rw [hSS.2.2.1];rfl)).trans hSS.2.2.1,(World.cell?_alloc_some w.drew _ _ (by rw [hSS.2.2.2];rfl)).trans hSS.2.2.2⟩
 refine ZeY 13 (fun W:World=>W.cell? ⟨b,5,none⟩=some (.slice (some ⟨g,0,none⟩) (L+1) cap)/\W.cell? ⟨g,L*3,none⟩=some (.int .i64 (p.lo:Int))/\W.cell? ⟨g,L*3+1,none⟩=some (.int .i64 (p.hi:Int))/\W.cell? ⟨g,L*3+2,none⟩=some (.bool p.begun)) (by kernel_rfl) ?_;refine Zah (i:=0) rfl (by kernel_rfl) (by kernel_rfl) (by kernel_rfl) (by kernel_rfl) (fun _ _ _ h=>h) (v:=?_) (Or.inl ⟨by rfl,?_⟩) hSS ?_;rotate_left
 ·rintro W ⟨k5,kp0,kp1,kp2⟩
  go_simp
  try with_reducible rfl
 try simp only [Act.put,List.setIfInBounds_toArray,List.set_cons_zero,List.set_cons_succ]
 refine Zah (i:=1) rfl (by kernel_rfl) (by kernel_rfl) (by kernel_rfl) (by kernel_rfl) (fun _ _ _ h=>h) (v:=?_) (Or.inl ⟨by rfl,?_⟩) hSS ?_;rotate_left
 ·rintro W ⟨k5,kp0,kp1,kp2⟩
  go_simp
  try with_reducible rfl
 try simp only [Act.put,List.setIfInBounds_toArray,List.set_cons_zero,List.set_cons_succ]
 refine Zah (i:=2) rfl (by kernel_rfl) (by kernel_rfl) (by kernel_rfl) (by kernel_rfl) (fun _ _ _ h=>h) (v:=?_) (Or.inl ⟨by rfl,?_⟩) hSS ?_;rotate_left
 ·rintro W ⟨k5,kp0,kp1,kp2⟩
  go_simp
  try with_reducible rfl
 try simp only [Act.put,List.setIfInBounds_toArray,List.set_cons_zero,List.set_cons_succ]
 refine Zah (i:=3) rfl (by kernel_rfl) (by kernel_rfl) (by kernel_rfl) (by kernel_rfl) (fun _ _ _ h=>h) (v:=?_) (Or.inl ⟨by rfl,?_⟩) hSS ?_;rotate_left
 ·rintro W ⟨k5,kp0,kp1,kp2⟩
  go_simp
  try with_reducible rfl
 try simp only [Act.put,List.setIfInBounds_toArray,List.set_cons_zero,List.set_cons_succ]
 refine Zah (i:=4) rfl (by kernel_rfl) (by kernel_rfl) (by kernel_rfl) (by kernel_rfl) (fun _ _ _ h=>h) (v:=?_) (Or.inl ⟨by rfl,?_⟩) hSS ?_;rotate_left
 ·rintro W ⟨k5,kp0,kp1,kp2⟩
  go_simp
  try with_reducible rfl
 try simp only [Act.put,List.setIfInBounds_toArray,List.set_cons_zero,List.set_cons_succ]
 refine Zah (i:=5) rfl (by kernel_rfl) (by kernel_rfl) (by kernel_rfl) (by kernel_rfl) (fun _ _ _ h=>h) (v:=?_) (Or.inl ⟨by rfl,?_⟩) hSS ?_;rotate_left
 ·rintro W ⟨k5,kp0,kp1,kp2⟩
  go_simp
  try with_reducible rfl
 try simp only [Act.put,List.setIfInBounds_toArray,List.set_cons_zero,List.set_cons_succ]
 refine Zah (i:=6) rfl (by kernel_rfl) (by kernel_rfl) (by kernel_rfl) (by kernel_rfl) (fun _ _ _ h=>h) (v:=?_) (Or.inl ⟨by rfl,?_⟩) hSS ?_;rotate_left
 ·rintro W ⟨k5,kp0,kp1,kp2⟩
  go_simp
  try with_reducible rfl
 try simp only [Act.put,List.setIfInBounds_toArray,List.set_cons_zero,List.set_cons_succ]
 refine Zah (i:=7) rfl (by kernel_rfl) (by kernel_rfl) (by kernel_rfl) (by kernel_rfl) (fun _ _ _ h=>h) (v:=?_) (Or.inl ⟨by rfl,?_⟩) hSS ?_;rotate_left
 ·rintro W ⟨k5,kp0,kp1,kp2⟩
  go_simp
  try with_reducible rfl
 try simp only [Act.put,List.setIfInBounds_toArray,List.set_cons_zero,List.set_cons_succ]
 refine Zah (i:=8) rfl (by kernel_rfl) (by kernel_rfl) (by kernel_rfl) (by kernel_rfl) (fun _ _ _ h=>h) (v:=?_) (Or.inl ⟨by rfl,?_⟩) hSS ?_;rotate_left
 ·rintro W ⟨k5,kp0,kp1,kp2⟩
  go_simp
  try with_reducible rfl
 try simp only [Act.put,List.setIfInBounds_toArray,List.set_cons_zero,List.set_cons_succ]
 refine Zah (i:=9) rfl (by kernel_rfl) (by kernel_rfl) (by kernel_rfl) (by kernel_rfl) (fun _ _ _ h=>h) (v:=?_) (Or.inl ⟨by rfl,?_⟩) hSS ?_;rotate_left
 ·rintro W ⟨k5,kp0,kp1,kp2⟩
  go_simp
  try with_reducible rfl
 try simp only [Act.put,List.setIfInBounds_toArray,List.set_cons_zero,List.set_cons_succ]
 refine Zah (i:=10) rfl (by kernel_rfl) (by kernel_rfl) (by kernel_rfl) (by kernel_rfl) (fun _ _ _ h=>h) (v:=?_) (Or.inl ⟨by rfl,?_⟩) hSS ?_;rotate_left
 ·rintro W ⟨k5,kp0,kp1,kp2⟩
  go_simp
  try with_reducible rfl
 try simp only [Act.put,List.setIfInBounds_toArray,List.set_cons_zero,List.set_cons_succ]
 refine Zah (i:=11) rfl (by kernel_rfl) (by kernel_rfl) (by kernel_rfl) (by kernel_rfl) (fun _ _ _ h=>h) (v:=?_) (Or.inl ⟨by rfl,?_⟩) hSS ?_;rotate_left
 ·rintro W ⟨k5,kp0,kp1,kp2⟩
  go_simp
  try with_reducible rfl
 try simp only [Act.put,List.setIfInBounds_toArray,List.set_cons_zero,List.set_cons_succ]
 refine Zau (rs:=[12]) (by kernel_rfl) (by simp) ?_;intro i hi;simp only [List.mem_cons,List.not_mem_nil,or_false] at hi;subst hi;refine Zbj rfl ?_;intro KC hKC
 go_simp
 refine hKC _ _ ⟨fun _=>hSX,?_⟩
 try simp only [Act.put,List.setIfInBounds_toArray,List.set_cons_zero,List.set_cons_succ]
 clear hKC;refine Zau (rs:=[13]) (by kernel_rfl) (by simp) ?_;intro i hi;simp only [List.mem_cons,List.not_mem_nil,or_false] at hi;subst hi;refine Zbj rfl ?_;intro KC hKC;rw [if_pos (by rfl)];refine wp_store_row 246 _ _ rfl w.heap.size #[.int .i64 (p.lo:Int),.int .i64 (p.hi:Int),.bool p.begun] (by rfl) (by rfl) 246 #[.int .i64 0,.int .i64 0,.bool false] (heap_alloc_new w.drew _) pinfo rfl (by kernel_rfl) ?_;refine hKC _ _ ⟨fun h=>absurd rfl h,?_⟩;refine ZeX (by kernel_rfl) ?_ _
 try simp only [Act.put,List.setIfInBounds_toArray,List.set_cons_zero,List.set_cons_succ]
 have hS0:(w.alloc (.cells #[.int .i64 0,.int .i64 0,.bool false] 246)).drew.heap.size=w.heap.size+1:=by simp
 have HG1:Hid (((w.alloc (.cells #[.int .i64 0,.int .i64 0,.bool false] 246)).drew.setRow w.heap.size #[.int .i64 (p.lo:Int),.int .i64 (p.hi:Int),.bool p.begun]).heap[w.heap.size]?=some (.cells #[.int .i64 (p.lo:Int),.int .i64 (p.hi:Int),.bool p.begun] 246 (0,0))):=zh (setRow_heap _ _ _ _ _ _ (heap_alloc_new w.drew _))
 have HB1:Hid (Below w.heap.size w ((w.alloc (.cells #[.int .i64 0,.int .i64 0,.bool false] 246)).drew.setRow w.heap.size #[.int .i64 (p.lo:Int),.int .i64 (p.hi:Int),.bool p.begun])):=zh (
  ⟨rfl,rfl,rfl,by rw [Zat,hS0];omega,fun k hk=>(setRow_other _ _ k _ (by omega)).trans (Zam (w:=w.drew) hk)⟩)
 have HS1:Hid (w.heap.size<((w.alloc (.cells #[.int .i64 0,.int .i64 0,.bool false] 246)).drew.setRow w.heap.size #[.int .i64 (p.lo:Int),.int .i64 (p.hi:Int),.bool p.begun]).heap.size):=zh (by rw [Zat,hS0];omega);clear hS0 hSX hSS hKC;generalize (w.alloc (.cells #[.int .i64 0,.int .i64 0,.bool false] 246)).drew.setRow w.heap.size #[.int .i64 (p.lo:Int),.int .i64 (p.hi:Int),.bool p.begun]=w1 at *;obtain⟨pb,hpb⟩:∃pb,w.heap.size=pb:=⟨_,rfl⟩
 have HPB:=zh hpb;rw [hpb] at HG1 HS1 ⊢;clear hpb;have H1:=zh (H0.out.below HB1.out);have hbw1:B<=w1.heap.size:=Nat.le_trans hb HB1.out.size;have HBB1:Hid (Below B w w1):=zh (HB1.out.mono hb);have HK1:Hid (KbSame w w1 (kb++Z)):=zh (fun x hx=>HB1.out.block x (H0.out.kap x hx).1);have HKV1:=zh (HKV.out.same (fun g hg=>HK1.out g (List.mem_append_left _ hg)));clear d5 c0 c1 c2 fz2 hgl2 hgb5;obtain⟨bg,hbg⟩:∃bg,p.begun=bg:=⟨_,rfl⟩
 rw [hbg] at HG1 ⊢;have g0:w1.cell? ⟨pb,0,none⟩=some (.int .i64 (p.lo:Int)):=by rw [cell_of_row _ _ 0 _ _ _ HG1.out];rfl
 have g1:w1.cell? ⟨pb,1,none⟩=some (.int .i64 (p.hi:Int)):=by rw [cell_of_row _ _ 1 _ _ _ HG1.out];rfl
 have g2:w1.cell? ⟨pb,2,none⟩=some (.bool bg):=by rw [cell_of_row _ _ 2 _ _ _ HG1.out];rfl
 have hu:=Tryz.underlying246;have hpi:=pinfo;have HBG:=zh hbg;have hg:=HG1.out;cases bg with
 | false=>
  by_cases hsm:p.hi-p.lo<2
  ·have HC:=zh (Zk4 w1 ps p H1.out HSTK.out (by have:=HL.out;omega) (by have:=HFI.out;omega) (by omega) hsm hbw1);rw [hbg] at HC;have HM:=zh (HS.out.small hbg hsm (S':=popS S ps) rfl ⟨rfl,rfl,rfl⟩ rfl rfl rfl);clear hbg;go_wp2_with (refine wpList_load_row rfl 246 _ rfl pb rfl 246 #[.int .i64 (p.lo:Int),.int .i64 (p.hi:Int),.bool false] (0,0) _ hg hu rfl hpi ?_);refine HC.out.mono ?_;rintro e w5 ⟨rfl,vw5,hI5,hB5,hK5⟩;have HR:Hid (SomeP B w w5 b n T Z S.steps R k (.returned (.int .i64 ((1:Nat):Int)))):=zh (Zhj HKZ.out HK.out HKV.out HKB.out HRC.out hI5 rfl rfl rfl (ZpT HHT.out h0 ⟨rfl,rfl,rfl⟩ HS.out.made HM.out.2) ⟨Nat.le_refl _,hk1,HM.out.1⟩ (HBB1.out.trans hB5) (HK1.out.trans hK5) (HK1.out.trans hK5));clear hI5 hB5 hK5;go_wp2_with fail;go_ret;exact HR.out
  ·have HC:=zh (ZnO w1 ps p H1.out HSTK.out (by have:=HL.out;omega) (by have:=HFI.out;omega) (by omega) (by omega) hbw1);rw [hbg] at HC;have HM:=zh (HS.out.halves hbg (by omega) (S':=halvesS S ps p) rfl ⟨rfl,rfl,rfl⟩ rfl rfl rfl);clear hbg;go_wp2_with (refine wpList_load_row rfl 246 _ rfl pb rfl 246 #[.int .i64 (p.lo:Int),.int .i64 (p.hi:Int),.bool false] (0,0) _ hg hu rfl hpi ?_);refine HC.out.mono ?_;rintro e w5 ⟨rfl,vw5,hI5,hB5,hK5⟩;have HR:Hid (SomeP B w w5 b n T Z S.steps R k (.returned (.int .i64 ((1:Nat):Int)))):=zh (Zhj HKZ.out HK.out HKV.out HKB.out HRC.out hI5 rfl rfl rfl (Or.inl ⟨_,_,A,m,HM.out.2,fun e=>by cases e⟩) ⟨Nat.le_refl _,hk1,HM.out.1⟩ (HBB1.out.trans hB5) (HK1.out.trans hK5) (HK1.out.trans hK5));clear hI5 hB5 hK5;go_wp2_with fail;go_ret;exact HR.out
 | true=>
  have hfi:=HFI.out;have hbig:p.lo+2<=p.hi:=hfi.2.2 hbg;obtain⟨o1,o2,o3,o4,o5⟩:=HS.out.on hbg;have HBD:=zh (HS.out.bounds hbg);have hmn:p.mid<n:=by omega
  obtain⟨g1',hg1'⟩:∃g1',g1'=min k (p.mid-p.lo-S.laid):=⟨_,rfl⟩
  have HGE:=zh hg1';have hgs:g1'<=k/\S.laid+g1'<=p.mid-p.lo/\(g1'<k->S.laid+g1'=p.mid-p.lo):=by omega
  have H1p:Hid (IsSo B w1 b bo bc ba vk (.slice (some ⟨g,0,none⟩) (L+1) cap) n ((kb++Z)++[pb]) S):=zh (H1.out.keyed _ (fun x hx=>by
   rcases List.mem_append.1 hx with hx|hx
   ·exact H1.out.kap x hx
   ·rw [List.mem_singleton] at hx;subst hx;have l1:=H0.out.obj.lt;have l2:=H0.out.ro.lt;have l3:=H0.out.rc.lt;have l4:=H0.out.ra.lt;have e:=HPB.out;exact⟨HS1.out,by omega,by omega,by omega,by omega,fun e2=>by have:=(H0.out.wt.lt x e2).2;omega⟩))
  have HKVp:=zh ((HKV1.out.more Z).more [pb]);have HC:=zh (Zrw w1 p k g1' H1p.out (by omega) hmn f3 (by omega) hk hg1' hbw1);have hasd:=ZsL (A:=S.asd) (O:=S.ord) (a:=S.laid) (lo:=p.lo) (g:=g1') (by rw [H1.out.la];omega) (by rw [H1.out.lo];omega);have HM:=zh (HS.out.lay hbg g1' hgs.2.1 (S':=layS S p.lo g1') rfl ⟨rfl,rfl,rfl⟩ rfl rfl rfl hasd.1 hasd.2);rw [hbg] at HC;have hgk:=hgs.1;have HGS:=zh hgs;obtain⟨k2,hk2⟩:∃k2,k-g1'=k2:=⟨_,rfl⟩
  have HK2:=zh hk2;have hk2i:(k:Int)-(g1':Int)=(k2:Int):=by omega
  have hk2w:IntKind.i64.wrap (k2:Int)=(k2:Int):=IntWalk.i64_in _ (by omega);have HF:=zh (And.intro f1 (And.intro f2 (And.intro f3 hbig)));have hszm:p.hi-p.lo<=20000:=by omega
  clear hbg o1 o2 o3 o4 o5 hasd hgs hg1' hk2 hfi f1 f2 f3 f4 f5 hmn hbig;go_wp2_with (refine wpList_load_row rfl 246 _ rfl pb rfl 246 #[.int .i64 (p.lo:Int),.int .i64 (p.hi:Int),.bool true] (0,0) _ hg hu rfl hpi ?_);refine HC.out.mono ?_;rintro e w2 ⟨rfl,hI2,hB2,hK2s⟩;have H2:=zh hI2;have HB2:=zh (HBB1.out.trans hB2);have HK2s:=zh hK2s;have HG2:Hid (w2.heap[pb]?=some (.cells #[.int .i64 (p.lo:Int),.int .i64 (p.hi:Int),.bool true] 246 (0,0))):=zh ((hK2s pb (by simp)).trans HG1.out)
  have HC2:=zh (Zrx T K w2 ps p A m (R-g1') k2 hI2 HM.out.2 HBG.out (fun h=>by
   show S.laid+g1'=_;have:=HGS.out.2.2;have:=HK2.out;omega) (HKVp.out.same hK2s) HKB.out HHT.out (by omega) (by omega) (Nat.le_trans hb (Nat.le_trans HB2.out.size (Nat.le_refl _))))
  obtain⟨sz,hsz2⟩:∃sz,p.hi-p.lo=sz:=⟨_,rfl⟩
  have HSZE:=zh hsz2;have hszm2:sz<=20000:=by omega
  obtain⟨j,hj⟩:∃j,min k2 (sz-(S.first+S.second))=j:=⟨_,rfl⟩
  have HJ:=zh hj;rw [HBG.out,hsz2,show min k2 (sz-((layS S p.lo g1').first+(layS S p.lo g1').second))=j from hj] at HC2;have hjsz:j<=sz:=by omega
  obtain⟨gt,hgt⟩:∃gt,g1'+j=gt:=⟨_,rfl⟩
  have hgti:(g1':Int)+(j:Int)=(gt:Int):=by omega
  have HGT:=zh hgt;have hgtw:IntKind.i64.wrap (gt:Int)=(gt:Int):=IntWalk.i64_in _ (by have:=HFI.out;have:=HGS.out;omega);have HSIZ:=zh (fun W=>Zhh p.lo p.hi true W (by have:=HF.out;omega) (by have:=HF.out;omega));rw [hsz2] at HSIZ;clear hj hgt hsz2;clear hI2 hB2 hK2s HC hg g0 g1 g2;have hg:=HG2.out;go_wp2_with (refine wpList_load_row rfl 246 _ rfl pb rfl 246 #[.int .i64 (p.lo:Int),.int .i64 (p.hi:Int),.bool true] (0,0) _ hg hu rfl hpi ?_);refine HC2.out.mono ?_;rintro e w3 ⟨rfl,S3,hI3,hS3,hsm,hsum,hjR,hB3,hK3⟩;have HI3:=zh hI3;have HS3:=zh hS3;have HSM:=zh hsm;have HB3:=zh (HB2.out.trans hB3);have HK3:=zh (HK2s.out.trans hK3);have HJR:=zh hjR;have HG3:Hid (w3.heap[pb]?=some (.cells #[.int .i64 (p.lo:Int),.int .i64 (p.hi:Int),.bool true] 246 (0,0))):=zh ((hK3 pb (by simp)).trans HG2.out);obtain⟨fi,hfi⟩:∃fi,S3.first=fi:=⟨_,rfl⟩
  obtain⟨se,hse⟩:∃se,S3.second=se:=⟨_,rfl⟩
  obtain⟨_,_,_,_,_,_,_,d7,d8,_⟩:=hI3.obj.cells;rw [hfi] at d7;rw [hse] at d8;have hbd:=hS3.bounds HBG.out;rw [hfi,hse] at hbd hsum;obtain⟨fs,hfs⟩:∃fs,fi+se=fs:=⟨_,rfl⟩
  have hfsm:fi<=20000/\se<=20000:=by have:=HF.out;omega
  have hfsi:(fi:Int)+(se:Int)=(fs:Int):=by omega
  have hfsw:IntKind.i64.wrap (fs:Int)=(fs:Int):=IntWalk.i64_in _ (by omega);have HFS:Hid (S3.first+S3.second=fs):=zh (by rw [hfi,hse];exact hfs);have HSUM:Hid (fs=S.first+S.second+j):=zh (by rw [<-hfs];exact hsum);have hpl:pb<w3.heap.size:=(Array.getElem?_eq_some_iff.1 HG3.out).1
  have hGT1:Hid (1<=gt/\gt<=k/\gt<=R):=zh (by
   have a1:=HGT.out;have a2:=HJ.out;have a3:=HSZ.out HBG.out;have a4:=HGS.out;have a5:=HK2.out;have a6:=HSZE.out;have a7:=HM.out.1;have a8:=HJR.out;have a9:=HGE.out;have a10:=HF.out;have a11:=HBD.out;have a12:=(HS.out.on HBG.out).2.1;have a13:=(HS.out.on HBG.out).2.2.1;omega)
  have q7:∀sb:Beneath w3.heap.size w3,sb.val.cell? ⟨b,7,none⟩=some (.int .i64 (fi:Int)):=fun sb=>Beneath.cell d7 HI3.out.obj.lt sb
  have q8:∀sb:Beneath w3.heap.size w3,sb.val.cell? ⟨b,8,none⟩=some (.int .i64 (se:Int)):=fun sb=>Beneath.cell d8 HI3.out.obj.lt sb
  have p0:∀sb:Beneath w3.heap.size w3,sb.val.cell? ⟨pb,0,none⟩=some (.int .i64 (p.lo:Int)):=fun sb=>Beneath.cell (by rw [cell_of_row _ _ 0 _ _ _ HG3.out];rfl) hpl sb
  have p1:∀sb:Beneath w3.heap.size w3,sb.val.cell? ⟨pb,1,none⟩=some (.int .i64 (p.hi:Int)):=fun sb=>Beneath.cell (by rw [cell_of_row _ _ 1 _ _ _ HG3.out];rfl) hpl sb
  have p2:∀sb:Beneath w3.heap.size w3,sb.val.cell? ⟨pb,2,none⟩=some (.bool true):=fun sb=>Beneath.cell (by rw [cell_of_row _ _ 2 _ _ _ HG3.out];rfl) hpl sb
  clear hI3 hS3 hsm hsum hjR hB3 hK3 hfi hse d7 d8 hbd hfs HC2 hg;by_cases hfe:fs=sz
  ·have hE1:((fs:Int)==(sz:Int))=true:=by rw [beq_iff_eq];omega
   go_wp2_with fail;refine Zap w3.heap.size w3 (Below.refl _ _) (by kernel_rfl) (by kernel_rfl) ?_
   repeat (go_big_quiet_step (first
    | (go_at_call 194;rename_i sb;exact Calls.beneath sb (Nat.le_refl _) (HSIZ.out _))))
   refine wpQuiet_nil ?_;rintro _ ⟨sb,rfl⟩;have HI4:=zh (HI3.out.below sb.is);have HB4:Hid (Below B w sb.val):=zh (HB3.out.trans (sb.is.mono (Nat.le_trans hb HB3.out.size)));have HK4:Hid (KbSame w1 sb.val (kb++Z++[pb])):=zh (HK3.out.trans (fun x hx=>sb.is.block x (HI3.out.kap x hx).1));clear q7 q8 p0 p1 p2;generalize sb.val=w4 at *;go_wp2_with fail;refine(ZiG w4 ps p HI4.out (by rw [HSM.out.ps];exact HSTK.out) (by have:=HL.out;omega)).mono ?_;rintro e w5 ⟨rfl,vw5,hI5,hT5⟩
   have HR:Hid (SomeP B w w5 b n T Z S.steps R k (.returned (.int .i64 (gt:Int)))):=zh (by
    have hk5:KbSame w4 w5 (kb++Z++[pb]):=fun x hx=>hT5.block x (HI4.out.kap x hx).1 (HI4.out.kap x hx).2.1
    have hk6:=HK4.out.trans hk5;have hk7:KbSame w1 w5 (kb++Z):=fun x hx=>hk6 x (List.mem_append_left _ hx)
    have hB5:Below B w w5:=HB4.out.trans (hT5.below (Nat.le_trans hb HB4.out.size) (fun x hx=>by have e:x=b:=hx;have:=HBS.out;omega));have hI6:=hI5.keyed (kb++Z) (fun x hx=>hI5.kap x (List.mem_append_left _ hx));have hw:=HS3.out.whole HBG.out (S':=popS S3 ps) (by rw [HFS.out,HSZE.out];exact hfe) rfl ⟨rfl,rfl,rfl⟩ rfl rfl rfl
    have hdue:Due T K (popS S3 ps) n (R-gt):=by
     rw [show R-gt=R-g1'-j by have:=HGT.out;omega];exact ZpT HHT.out h0 ⟨rfl,rfl,rfl⟩ (by show S3.made=0;rw [HSM.out.made];exact HS.out.made) hw
    exact Zhj HKZ.out HK.out HKV1.out HKB.out HRC.out hI6 (by show S3.steps=_;rw [HSM.out.steps];rfl) (by show S3.reach=_;rw [HSM.out.reach];rfl) (by show S3.cls=_;rw [HSM.out.cls];rfl) hdue hGT1.out hB5 (HK1.out.trans hk7) hk7)
   clear hI5 hT5;go_wp2_with fail;go_ret;exact HR.out
  ·have hE1:((fs:Int)==(sz:Int))=false:=by rw [beq_eq_false_iff_ne];omega
   go_wp2_with fail;refine Zap w3.heap.size w3 (Below.refl _ _) (by kernel_rfl) (by kernel_rfl) ?_
   repeat (go_big_quiet_step (first
    | (go_at_call 194;rename_i sb;exact Calls.beneath sb (Nat.le_refl _) (HSIZ.out _))))
   refine wpQuiet_nil ?_;rintro _ ⟨sb,rfl⟩
   have HR:Hid (SomeP B w sb.val b n T Z S.steps R k (.returned (.int .i64 (gt:Int)))):=zh (by
    have hk6:KbSame w1 sb.val (kb++Z++[pb]):=HK3.out.trans (fun x hx=>sb.is.block x (HI3.out.kap x hx).1);have hk7:KbSame w1 sb.val (kb++Z):=fun x hx=>hk6 x (List.mem_append_left _ hx)
    have hB5:Below B w sb.val:=HB3.out.trans (sb.is.mono (Nat.le_trans hb HB3.out.size));have hI5:=HI3.out.below sb.is;have hI6:=hI5.keyed (kb++Z) (fun x hx=>hI5.kap x (List.mem_append_left _ hx));have hs:=HS3.out;refine Zhj HKZ.out HK.out HKV1.out HKB.out HRC.out hI6 (by rw [HSM.out.steps];rfl) (by rw [HSM.out.reach];rfl) (by rw [HSM.out.cls];rfl) (Or.inl ⟨ps,p,A,m,by rw [<-HGT.out,show R-(g1'+j)=R-g1'-j by omega];exact hs,fun _=>?_⟩) hGT1.out hB5 (HK1.out.trans hk7) hk7;have a1:=hs.bounds HBG.out;have a2:=HF.out;have a3:=hs.fit;have a4:=HFS.out;have a5:=HSZE.out;omega)
   clear q7 q8 p0 p1 p2;generalize sb.val=w4 at *;go_wp2_with fail;go_ret;exact HR.out
end
end
end Go.Proofs.YtlfpbcadcfaboaaGreatDoor
