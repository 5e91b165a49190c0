import Derived.Test.YtlfpbcadcfaboaaGreatDoorTcC
import Derived.Test.YtlfpbcadcfaboaaGreatDoorTcQ
set_option linter.unusedVariables false
set_option linter.unusedSimpArgs false
set_option maxHeartbeats 8000000
set_option maxRecDepth 100000
namespace Go.Proofs.YtlfpbcadcfaboaaGreatDoor
section
open Go.RowKit RleM SplM
theorem ZcP {P:Program} {fn:Func} {p q:Tmp} {ty:TypeId} (h:fn.results=#[.cell p ty,.tmp q]) (tmps:Array Value) (w:World) (g:Nat) (cs:Array Value) (t:TypeId) (d:TypeDesc) (e:Value)
  (hp:tmps.getD p undef=.pointer (some ⟨g,0,none⟩)) (hq:tmps.getD q undef=e) (hg:w.heap[g]?=some (.cells cs t (0,0))) (hu:P.underlying ty=some d) (hd:(match d with|.struct _|.array _ _=>true|_=>false)=true) (hi:(P.info? ty).map (·.size)=some cs.size) :
  (results fn tmps).run P w=.ok (.tuple #[.agg cs,e]) w:=by
 have hp':tmps[p]?.getD undef=.pointer (some ⟨g,0,none⟩):=by simpa using hp
 have hq':tmps[q]?.getD undef=e:=by simpa using hq
 simp [results,h,hp',hq',asAddr,run_loadVar_row w g t ty cs (0,0) d hg hu hd hi]
theorem Zmu:blk0.all (·.oneCell')=true:=by simp [blk0,Value.oneCell']
theorem Zmv (blk:List Pc):(blkV blk).all (·.oneCell')=true:=by simp [blkV,Value.oneCell']
section
variable {B t pb sb room : Nat} {w w' : World} {c : UInt8} {n : Nat} {blk : List Pc} {bv : Value} {tp : Option Nat}
def TakP (B:Nat) (w w':World) (t pb sb room:Nat) (c:UInt8) (n:Nat) (blk:List Pc) (bv:Value):Prop:=
 ∃bv' tp',IsSp B w' t pb sb room c n blk bv' tp'/\Touch (ftP t pb sb bv) w w'/\(∀k,bv'.ownBlock=some k->bv.ownBlock=some k\/w.heap.size<=k)
theorem ZjT (ps:List Pc) (w:World) (h:IsSp B w t pb sb room c n blk bv tp) (hd:dec (pack ps)=(flat ps,0)) (h1:(pack ps).length<=1000) (h2:(pack blk).length<=1000000) (h3:(flat blk).length<=1000000000000) (h4:(flat ps).length<=1000) (hr:room<=1000000) (hf:(pack blk).length+(pack ps).length<=room) :
  Calls Tryz.prog 77 #[.pointer (some ⟨t,0,none⟩),.string ⟨(pack ps).toArray⟩] w fun e w'=>e=.returned (.tuple #[.agg blk0,.bool false])/\TakP B w w' t pb sb room c n (blk++ps) bv:=by
 have H:=zh h;obtain⟨a,cap,hv,_⟩:=h.row.slice;have hPs:(⟨(pack ps).toArray⟩:ByteArray).size=(pack ps).length:=Zaj _;have HADD:=zh (fun W (k:IsSp B W t pb sb room c n blk bv tp)=>Zmt ps W k hd h1 h2 h3 h4);obtain⟨BZ,hBZ⟩:∃BZ,blk0=BZ:=⟨_,rfl⟩
 have hBZ3:BZ.size=3:=by rw [<-hBZ];rfl
 have hBZc:BZ.all (·.oneCell')=true:=by rw [<-hBZ];exact Zmu
 have HBZ:=zh hBZ;have hi:=ZgV BZ hBZ3;have hold:BZ.size=BZ.size:=rfl;obtain⟨L,hL⟩:∃L,(pack blk).length=L:=⟨_,rfl⟩
 obtain⟨M,hM⟩:∃M,(pack ps).length=M:=⟨_,rfl⟩
 obtain⟨P,hP⟩:∃P:ByteArray,(⟨(pack ps).toArray⟩:ByteArray)=P:=⟨_,rfl⟩
 rw [hP] at HADD hPs ⊢;rw [hL] at hv hf;rw [hM] at hf hPs;obtain⟨S,hS⟩:∃S,L+M=S:=⟨_,rfl⟩
 have hPi:(P.size:Int)=(M:Int):=by omega
 have hSi:(L:Int)+(M:Int)=(S:Int):=by omega
 have hSw:IntKind.i64.wrap (S:Int)=(S:Int):=IntWalk.i64_in _ (by omega);have hfi:¬(S:Int)>(room:Int):=by omega
 have hfd:decide ((room:Int)<(S:Int))=false:=by rw [decide_eq_false_iff_not];omega
 have HV:=zh hv;subst hv;clear h hd hP hL hM hS hPs hf h1 h2 h3 h4 hr;go_enter Tryz.func77,Tryz.ntmps77;go_wp2_with fail;obtain⟨wq,hwq⟩:∃wq,(w.alloc (.cells #[.string ⟨#[]⟩,.int .u32 0,.int .i64 0] 56)).alloc (.cells #[.string ⟨#[]⟩,.int .u32 0,.int .i64 0] 56)=wq:=⟨_,rfl⟩
 have hz1:(w.alloc (.cells blk0 56)).heap.size=w.heap.size+1:=by show(w.heap.push _).size=_;simp
 have hbq:Below w.heap.size w wq:=by rw [<-hwq];exact((Below.refl _ _).alloc (Nat.le_refl _) _).alloc (by show w.heap.size<=(w.heap.push _).size;simp) _
 have hr0:wq.heap[w.heap.size]?=some (.cells blk0 56 (0,0)):=by rw [<-hwq];exact(Below.heap_alloc (w.alloc (.cells blk0 56)) _ _ (by omega)).trans (heap_alloc_new w _)
 have hr1:wq.heap[w.heap.size+1]?=some (.cells blk0 56 (0,0)):=by
  have:=heap_alloc_new (w.alloc (.cells blk0 56)) (.cells blk0 56);rw [hz1] at this;rw [<-hwq];exact this
 rw [hBZ] at hr0 hr1;clear hBZ;have K:=zh (H.out.below hbq);have HBQ:=zh hbq;have HR0:=zh hr0;have HR1:=zh hr1;rw [hwq];obtain⟨d0,_,d2,_,_⟩:=K.out.cells;clear hz1 hbq hr0 hr1 hwq
 go_quiet (fail)
 go_wp2_with fail;have HQ:Hid (Below wq.heap.size wq (wq.drewN nq)):=zh ⟨rfl,rfl,rfl,Nat.le_refl _,fun _ _=>rfl⟩;have KQ:=zh (K.out.below HQ.out);have HTQ:Hid (Touch (ftP t pb sb (.slice a L cap)) w (wq.drewN nq)):=zh (Touch.ofBelow (S:=ftP t pb sb (.slice a L cap)) (HBQ.out.trans (HQ.out.mono HBQ.out.size)));have HZ0:Hid ((wq.drewN nq).heap[w.heap.size]?=some (.cells BZ 56 (0,0))):=zh HR0.out;have HZ1:Hid ((wq.drewN nq).heap[w.heap.size+1]?=some (.cells BZ 56 (0,0))):=zh HR1.out;clear d0 d2 HQ;generalize wq.drewN nq=wz at *;refine(HADD.out _ KQ.out).mono ?_;rintro e w4 ⟨rfl,bv',tp',k4,t4,o4⟩;have x0:=(t4.block _ (Array.getElem?_eq_some_iff.1 HZ0.out).1 (fun e=>by have:=Zgi H.out e;omega)).trans HZ0.out;have x1:=(t4.block _ (Array.getElem?_eq_some_iff.1 HZ1.out).1 (fun e=>by have:=Zgi H.out e;omega)).trans HZ1.out
 have HO4:Hid (∀k,bv'.ownBlock=some k->(Value.slice a L cap).ownBlock=some k\/w.heap.size<k):=zh (fun k hk=>by
  rcases o4 k hk with e|e
  ·exact Or.inl e
  ·have:=(Array.getElem?_eq_some_iff.1 HZ1.out).1;exact Or.inr (by omega))
 have HT4:Hid (Touch (ftP t pb sb (.slice a L cap)) w w4):=zh (HTQ.out.trans t4 (fun i hi=>Or.inl hi))
 have HTAB:Hid (∀k,tp'=some k->k≠w.heap.size):=zh (fun k hk e=>by
  have hT:IsTable w4 k:=by
   have:=k4.sum;rw [hk] at this;exact this.2.1
  have hc:=hT 0 (by omega);rw [e,cell_of_row _ _ _ _ _ _ x0] at hc;rw [<-HBZ.out] at hc;simp [blk0] at hc)
 have HR:Hid (TakP B w (w4.setRow w.heap.size BZ) t pb sb room c n (blk++ps) (.slice a L cap)):=zh (by
  have t5:Touch (·=w.heap.size) w4 (w4.setRow w.heap.size BZ):=⟨rfl,rfl,rfl,by simp [World.setRow],fun j _ hj=>setRow_other w4 _ j _ hj⟩
  refine⟨bv',tp',k4.other t5 (fun x hx e=>?_) (fun k hk e=>HTAB.out k hk e),HT4.out.trans t5 (fun i hi=>Or.inr (by rw [hi];exact Nat.le_refl _)),(fun k hk=>(HO4.out k hk).imp id Nat.le_of_lt)⟩;subst e;rcases hx with e|e|e|e
  ·have:=H.out.lt;omega
  ·have:=H.out.pk.lt;omega
  ·have:=H.out.sum.lt.1;omega
  ·exact(fun e=>by rcases HO4.out _ e with e|e;(have:=H.out.row.lt _ e;omega);omega) e)
 clear k4 t4 o4 HT4 HO4 HTAB;go_wp2_with (first|(refine wpList_load_row rfl 56 _ rfl (w.heap.size+1) rfl 56 BZ (0,0) _ x1 Tryz.underlying56 rfl hi ?_)|(refine wpList_store_row rfl 56 _ _ rfl w.heap.size BZ rfl rfl 56 BZ x0 hi rfl hBZc ?_));refine bodyPost_ret (v:=.tuple #[.agg BZ,.bool false]) (ZcP rfl _ _ w.heap.size BZ 56 _ _ rfl rfl (setRow_heap w4 _ BZ BZ 56 _ x0) Tryz.underlying56 rfl hi) rfl ⟨by rw [HBZ.out],HR.out⟩
theorem Zkr (ps:List Pc) (w:World) (h:IsSp B w t pb sb room c n blk bv tp) (hd:dec (pack ps)=(flat ps,0)) (h1:(pack ps).length<=1000) (h2:(pack blk).length<=1000000) (h3:(flat blk).length<=1000000000000) (h4:(flat ps).length<=1000) (hr:room<=1000000) (hf:room<(pack blk).length+(pack ps).length) :
  Calls Tryz.prog 77 #[.pointer (some ⟨t,0,none⟩),.string ⟨(pack ps).toArray⟩] w fun e w'=>e=.returned (.tuple #[.agg (blkV blk),.bool true])/\TakP B w w' t pb sb room c n ps bv:=by
 have H:=zh h;obtain⟨a,cap,hv,_⟩:=h.row.slice;have hPs:(⟨(pack ps).toArray⟩:ByteArray).size=(pack ps).length:=Zaj _;have HADD:=zh (fun W (k:IsSp B W t pb sb room c n [] (.slice none 0 0) tp)=>Zmt ps W k hd h1 (by simp [pack]) (by simp [flat]) h4);have HCUT:=zh (fun W (k:IsSp B W t pb sb room c n blk bv tp)=>ZjS W k);obtain⟨BV,hBV⟩:∃BV,blkV blk=BV:=⟨_,rfl⟩
 have hBV3:BV.size=3:=by rw [<-hBV];rfl
 have hBVc:BV.all (·.oneCell')=true:=by rw [<-hBV];exact Zmv blk
 rw [hBV] at HCUT ⊢;have hi:=ZgV BV hBV3;have hold:blk0.size=BV.size:=by rw [hBV3];rfl
 obtain⟨L,hL⟩:∃L,(pack blk).length=L:=⟨_,rfl⟩
 obtain⟨M,hM⟩:∃M,(pack ps).length=M:=⟨_,rfl⟩
 obtain⟨P,hP⟩:∃P:ByteArray,(⟨(pack ps).toArray⟩:ByteArray)=P:=⟨_,rfl⟩
 rw [hP] at HADD hPs ⊢;rw [hL] at hv hf;rw [hM] at hf hPs;obtain⟨S,hS⟩:∃S,L+M=S:=⟨_,rfl⟩
 have hPi:(P.size:Int)=(M:Int):=by omega
 have hSi:(L:Int)+(M:Int)=(S:Int):=by omega
 have hSw:IntKind.i64.wrap (S:Int)=(S:Int):=IntWalk.i64_in _ (by omega);have hfi:(S:Int)>(room:Int):=by omega
 have hfd:decide ((room:Int)<(S:Int))=true:=by rw [decide_eq_true_eq];omega
 have HV:=zh hv;subst hv;clear h hd hP hL hM hS hPs hf h1 h2 h3 h4 hr hBV;go_enter Tryz.func77,Tryz.ntmps77;go_wp2_with fail;obtain⟨wq,hwq⟩:∃wq,(w.alloc (.cells #[.string ⟨#[]⟩,.int .u32 0,.int .i64 0] 56)).alloc (.cells #[.string ⟨#[]⟩,.int .u32 0,.int .i64 0] 56)=wq:=⟨_,rfl⟩
 have hz1:(w.alloc (.cells blk0 56)).heap.size=w.heap.size+1:=by show(w.heap.push _).size=_;simp
 have hbq:Below w.heap.size w wq:=by rw [<-hwq];exact((Below.refl _ _).alloc (Nat.le_refl _) _).alloc (by show w.heap.size<=(w.heap.push _).size;simp) _
 have hr0:wq.heap[w.heap.size]?=some (.cells blk0 56 (0,0)):=by rw [<-hwq];exact(Below.heap_alloc (w.alloc (.cells blk0 56)) _ _ (by omega)).trans (heap_alloc_new w _)
 have hr1:wq.heap[w.heap.size+1]?=some (.cells blk0 56 (0,0)):=by
  have:=heap_alloc_new (w.alloc (.cells blk0 56)) (.cells blk0 56);rw [hz1] at this;rw [<-hwq];exact this
 have K:=zh (H.out.below hbq);have HBQ:=zh hbq;have HR0:=zh hr0;have HR1:=zh hr1;rw [hwq];obtain⟨d0,_,d2,_,_⟩:=K.out.cells;clear hz1 hbq hr0 hr1 hwq
 go_quiet (fail)
 go_wp2_with fail;have HQ:Hid (Below wq.heap.size wq (wq.drewN nq)):=zh ⟨rfl,rfl,rfl,Nat.le_refl _,fun _ _=>rfl⟩;have KQ:=zh (K.out.below HQ.out);have HTQ:Hid (Touch (ftP t pb sb (.slice a L cap)) w (wq.drewN nq)):=zh (Touch.ofBelow (S:=ftP t pb sb (.slice a L cap)) (HBQ.out.trans (HQ.out.mono HBQ.out.size)));have HZ0:Hid ((wq.drewN nq).heap[w.heap.size]?=some (.cells blk0 56 (0,0))):=zh HR0.out;have HZ1:Hid ((wq.drewN nq).heap[w.heap.size+1]?=some (.cells blk0 56 (0,0))):=zh HR1.out;clear d0 d2 HQ;generalize wq.drewN nq=wz at *;refine(HCUT.out _ KQ.out).mono ?_;rintro e w2 ⟨rfl,k2,t2⟩;have y0:=(t2.block _ (Array.getElem?_eq_some_iff.1 HZ0.out).1 (fun e=>by have:=Zgi H.out e;omega)).trans HZ0.out;have y1:=(t2.block _ (Array.getElem?_eq_some_iff.1 HZ1.out).1 (fun e=>by have:=Zgi H.out e;omega)).trans HZ1.out;have t3:Touch (·=w.heap.size+1) w2 (w2.setRow (w.heap.size+1) BV):=⟨rfl,rfl,rfl,by simp [World.setRow],fun j _ hj=>setRow_other w2 _ j _ hj⟩
 have hft:∀x,ftP t pb sb (.slice none 0 0) x->¬x=w.heap.size+1:=fun x hx e=>by
  subst e;rcases hx with e|e|e|e
  ·have:=H.out.lt;omega
  ·have:=H.out.pk.lt;omega
  ·have:=H.out.sum.lt.1;omega
  ·cases e
 have htb:∀k,tp=some k->¬k=w.heap.size+1:=fun k hk e=>by have:=(H.out.sum.lt.2 k hk).1;omega
 have HK3:=zh (k2.other t3 hft htb);have HT3:=zh ((HTQ.out.trans t2 (fun i hi=>Or.inl hi)).trans t3 (fun i hi=>Or.inr (by omega)));have HY0:=zh ((t3.block _ (Array.getElem?_eq_some_iff.1 y0).1 (by omega)).trans y0);have HY1:Hid ((w2.setRow (w.heap.size+1) BV).heap[w.heap.size+1]?=some (.cells BV 56 (0,0))):=zh (setRow_heap w2 _ blk0 BV 56 _ y1);clear k2 t2 t3 hft htb y0;go_wp2_with (refine wpList_store_row rfl 56 _ _ rfl (w.heap.size+1) BV rfl rfl 56 blk0 y1 hi hold hBVc ?_);clear y1;generalize w2.setRow (w.heap.size+1) BV=wz2 at *;refine(HADD.out _ HK3.out).mono ?_;rintro e w4 ⟨rfl,bv',tp',k4,t4,o4⟩
 have hft:∀x,ftP t pb sb (.slice none 0 0) x->x<w.heap.size:=fun x hx=>by
  rcases hx with e|e|e|e
  ·have:=H.out.lt;omega
  ·have:=H.out.pk.lt;omega
  ·have:=H.out.sum.lt.1;omega
  ·cases e
 have x0:=(t4.block _ (Array.getElem?_eq_some_iff.1 HY0.out).1 (fun e=>by have:=hft _ e;omega)).trans HY0.out;have x1:=(t4.block _ (Array.getElem?_eq_some_iff.1 HY1.out).1 (fun e=>by have:=hft _ e;omega)).trans HY1.out;have hz4:w.heap.size<=wz2.heap.size:=HT3.out.size
 have HO4:Hid (∀k,bv'.ownBlock=some k->w.heap.size<k):=zh (fun k hk=>by
  rcases o4 k hk with e|e
  ·cases e
  ·have:=(Array.getElem?_eq_some_iff.1 HY1.out).1;omega)
 have HT4:Hid (Touch (ftP t pb sb (.slice a L cap)) w w4):=zh (HT3.out.trans t4 (fun i hi=>Or.inl (by
  rcases hi with e|e|e|e
  ·exact Or.inl e
  ·exact Or.inr (Or.inl e)
  ·exact Or.inr (Or.inr (Or.inl e))
  ·cases e)))
 have HTAB:Hid (∀k,tp'=some k->k≠w.heap.size):=zh (fun k hk e=>by
  have hT:IsTable w4 k:=by
   have:=k4.sum;rw [hk] at this;exact this.2.1
  have hc:=hT 0 (by omega);rw [e,cell_of_row _ _ _ _ _ _ x0] at hc;simp [blk0] at hc)
 have HR:Hid (TakP B w (w4.setRow w.heap.size BV) t pb sb room c n ps (.slice a L cap)):=zh (by
  have t5:Touch (·=w.heap.size) w4 (w4.setRow w.heap.size BV):=⟨rfl,rfl,rfl,by simp [World.setRow],fun j _ hj=>setRow_other w4 _ j _ hj⟩
  refine⟨bv',tp',k4.other t5 (fun x hx e=>?_) (fun k hk e=>HTAB.out k hk e),HT4.out.trans t5 (fun i hi=>Or.inr (by rw [hi];exact Nat.le_refl _)),(fun k hk=>Or.inr (Nat.le_of_lt (HO4.out k hk)))⟩;subst e;rcases hx with e|e|e|e
  ·have:=H.out.lt;omega
  ·have:=H.out.pk.lt;omega
  ·have:=H.out.sum.lt.1;omega
  ·exact(fun e=>by have:=HO4.out _ e;omega) e)
 clear k4 t4 o4 HT4 HO4 HTAB;go_wp2_with (first|(refine wpList_load_row rfl 56 _ rfl (w.heap.size+1) rfl 56 BV (0,0) _ x1 Tryz.underlying56 rfl hi ?_)|(refine wpList_store_row rfl 56 _ _ rfl w.heap.size BV rfl rfl 56 blk0 x0 hi hold hBVc ?_));refine bodyPost_ret (v:=.tuple #[.agg BV,.bool true]) (ZcP rfl _ _ w.heap.size BV 56 _ _ rfl rfl (setRow_heap w4 _ blk0 BV 56 _ x0) Tryz.underlying56 rfl hi) rfl ⟨rfl,HR.out⟩
end
end
section
open Go.RowKit RleM SplM
theorem SumT.not {w:World} {b:Nat} {X:BitVec 32} {tp:Option Nat} (h:SumT w b X tp) {r:Nat} {Z:Array Value} {T:TypeId} (hz:w.heap[r]?=some (.cells Z T (0,0))) (h0:∀v,Z[0]?≠some (.int .u32 v)):∀k,tp=some k->k≠r:=fun k hk e=>by
 rw [hk] at h;have hc:=h.2.1 0 (by omega);rw [e,cell_of_row _ _ _ _ _ _ hz] at hc;exact h0 _ hc
theorem Zqu (v:Int):blk0[0]?≠some (.int .u32 v):=by simp [blk0]
section
variable {B t pb sb room : Nat} {w w' wq w4 : World} {c c0 : UInt8} {n n0 : Nat} {blk blk1 : List Pc} {bv : Value} {tp : Option Nat}
theorem TakP.stored (hk:TakP B wq w4 t pb sb room c n blk bv) (h:IsSp B w t pb sb room c0 n0 blk1 bv tp) (hb:Below w.heap.size w wq) {r:Nat} (h1:w.heap.size<=r) (h2:r<wq.heap.size) {Z:Array Value} {T:TypeId} (hz:w4.heap[r]?=some (.cells Z T (0,0))) (h0:∀v,Z[0]?≠some (.int .u32 v)) (A:Array Value) :
  TakP B w (w4.setRow r A) t pb sb room c n blk bv:=by
 obtain⟨bv',tp',k4,t4,o4⟩:=hk;have t5:Touch (·=r) w4 (w4.setRow r A):=⟨rfl,rfl,rfl,by simp [World.setRow],fun j _ hj=>setRow_other w4 _ j _ hj⟩
 have hs:=hb.size;refine⟨bv',tp',k4.other t5 (fun x hx e=>?_) (fun k hk e=>k4.sum.not hz h0 k hk e),((Touch.ofBelow (S:=ftP t pb sb bv) hb).trans t4 (fun i hi=>Or.inl hi)).trans t5 (fun i hi=>Or.inr (by omega)),fun k hk=>(o4 k hk).imp id (fun e=>Nat.le_trans hs e)⟩;subst e;rcases hx with e|e|e|e
 ·have:=h.lt;omega
 ·have:=h.pk.lt;omega
 ·have:=h.sum.lt.1;omega
 ·rcases o4 _ e with e|e
  ·have:=h.row.lt _ e;omega
  ·omega
theorem Zop (ps:List Pc) (w:World) (h:IsSp B w t pb sb room c n blk bv tp) (hd:dec (pack ps)=(flat ps,0)) (h1:(pack ps).length<=1000) (h2:(pack blk).length<=1000000) (h3:(flat blk).length<=1000000000000) (h4:(flat ps).length<=1000) (hr:room<=1000000) :
  Calls Tryz.prog 77 #[.pointer (some ⟨t,0,none⟩),.string ⟨(pack ps).toArray⟩] w fun e w'=>e=.returned (.tuple #[.agg (if room<(pack blk).length+(pack ps).length then blkV blk else blk0),.bool (decide (room<(pack blk).length+(pack ps).length))])/\TakP B w w' t pb sb room c n (if room<(pack blk).length+(pack ps).length then ps else blk++ps) bv:=by
 by_cases hf:room<(pack blk).length+(pack ps).length
 ·rw [if_pos hf,if_pos hf,decide_eq_true hf];exact Zkr ps w h hd h1 h2 h3 h4 hr hf
 ·rw [if_neg hf,if_neg hf,decide_eq_false hf];exact ZjT ps w h hd h1 h2 h3 h4 hr (by omega)
theorem Zoq (x:UInt8) (ps:List Pc) (w:World) (h:IsSp B w t pb sb room c n blk bv tp) (hT:Sizes w) (hg:1<B) (h0:n=0->c=0) (hn:n<=254) (hps:(pstep c n x).1=pack ps) (hd:dec (pack ps)=(flat ps,0)) (h1:(pack ps).length<=1000) (h2:(pack blk).length<=1000000) (h3:(flat blk).length<=1000000000000) (h4:(flat ps).length<=1000) (hr:room<=1000000) :
  Calls Tryz.prog 50 #[.pointer (some ⟨t,0,none⟩),.int .u8 (x.toNat:Int)] w fun e w'=>e=.returned (.tuple #[.agg (if room<(pack blk).length+(pack ps).length then blkV blk else blk0),.bool (decide (room<(pack blk).length+(pack ps).length))])/\TakP B w w' t pb sb room (pstep c n x).2.1 (pstep c n x).2.2 (if room<(pack blk).length+(pack ps).length then ps else blk++ps) bv:=by
 have H:=zh h;have HT:=zh hT;have hpb:pb≠1:=by have:=h.base.2.1;omega
 have HPUT:=zh (fun W (k:IsPacker W pb c n) (hT:Sizes W)=>Zqn pb c n x W k hT hpb h0 hn);rw [hps] at HPUT;obtain⟨c',hc'⟩:∃c',(pstep c n x).2.1=c':=⟨_,rfl⟩
 obtain⟨n',hn'⟩:∃n',(pstep c n x).2.2=n':=⟨_,rfl⟩
 rw [hc',hn'] at HPUT ⊢;have HTK:=zh (fun W (k:IsSp B W t pb sb room c' n' blk bv tp)=>Zop ps W k hd h1 h2 h3 h4 hr);obtain⟨P,hP⟩:∃P:ByteArray,(⟨(pack ps).toArray⟩:ByteArray)=P:=⟨_,rfl⟩
 obtain⟨A,hA⟩:∃A,(if room<(pack blk).length+(pack ps).length then blkV blk else blk0)=A:=⟨_,rfl⟩
 obtain⟨D,hD⟩:∃D,decide (room<(pack blk).length+(pack ps).length)=D:=⟨_,rfl⟩
 obtain⟨N,hN⟩:∃N,(if room<(pack blk).length+(pack ps).length then ps else blk++ps)=N:=⟨_,rfl⟩
 have hA3:A.size=3:=by rw [<-hA];split<;>rfl
 have hAc:A.all (·.oneCell')=true:=by
  rw [<-hA];split
  ·exact Zmv blk
  ·exact Zmu
 rw [hP] at HPUT HTK;rw [hA,hD,hN] at HTK;rw [hA,hD,hN];have hi:=ZgV A hA3;have hold:blk0.size=A.size:=by rw [hA3];rfl
 have c1:=(h.below ((Below.refl w.heap.size w).alloc (Nat.le_refl _) (.cells #[.string ⟨#[]⟩,.int .u32 0,.int .i64 0] 56))).cells.2.1;clear h hT hg h0 hn hps hd h1 h2 h3 h4 hr hc' hn' hP hA hD hN hpb;go_enter Tryz.func50,Tryz.ntmps50;go_wp2_with fail;obtain⟨wq,hwq⟩:∃wq,w.alloc (.cells #[.string ⟨#[]⟩,.int .u32 0,.int .i64 0] 56)=wq:=⟨_,rfl⟩
 have hbq:Below w.heap.size w wq:=by rw [<-hwq];exact(Below.refl _ _).alloc (Nat.le_refl _) _
 have hr0:wq.heap[w.heap.size]?=some (.cells blk0 56 (0,0)):=by rw [<-hwq];exact heap_alloc_new w _
 have K:=zh (H.out.below hbq);have HBQ:=zh hbq;have HR0:=zh hr0;have HTQ:=zh (HT.out.below hbq HT.out.lt);rw [hwq];clear hwq hbq hr0 c1;refine(HPUT.out _ K.out.pk HTQ.out).mono ?_;rintro e w2 ⟨rfl,hp2,ht2⟩;have K2:=zh (K.out.packed ht2 hp2);have hpl:=K.out.pk.lt;have hr2:=(ht2.block w.heap.size (Array.getElem?_eq_some_iff.1 HR0.out).1 (fun e=>by have e2:w.heap.size=pb:=e;have:=H.out.pk.lt;omega)).trans HR0.out;have HR2:=zh hr2;have HT2:=zh ht2;clear hp2 ht2 hr2 hpl;go_wp2_with fail;refine(HTK.out _ K2.out).mono ?_;rintro e w4 ⟨rfl,hk⟩
 have x0:w4.heap[w.heap.size]?=some (.cells blk0 56 (0,0)):=by
  obtain⟨_,_,_,t4,_⟩:=hk;refine(t4.block _ (Array.getElem?_eq_some_iff.1 HR2.out).1 (fun e=>?_)).trans HR2.out;have:=Zgi H.out e;omega
 have HK:Hid (TakP B wq w4 t pb sb room c' n' N bv):=zh (by
  obtain⟨bv',tp',k4,t4,o4⟩:=hk;exact⟨bv',tp',k4,(HT2.out.mono (T:=ftP t pb sb bv) (fun i hi=>Or.inr (Or.inl hi))).trans t4 (fun i hi=>Or.inl hi),fun k hk=>(o4 k hk).imp id (fun e=>Nat.le_trans HT2.out.size e)⟩)
 have HR:Hid (TakP B w (w4.setRow w.heap.size A) t pb sb room c' n' N bv):=zh (HK.out.stored H.out HBQ.out (Nat.le_refl _) (Array.getElem?_eq_some_iff.1 HR0.out).1 x0 Zqu A);clear hk;go_wp2_with (refine wpList_store_row rfl 56 _ _ rfl w.heap.size A rfl rfl 56 blk0 x0 hi hold hAc ?_);refine bodyPost_ret (v:=.tuple #[.agg A,.bool D]) (ZcP rfl _ _ w.heap.size A 56 _ _ rfl rfl (setRow_heap w4 _ blk0 A 56 _ x0) Tryz.underlying56 rfl hi) rfl ⟨rfl,HR.out⟩
end
end
section
open Go.RowKit RleM SplM
def blkL (b:List Pc):List Value:=(blkV b).toList
theorem ZhY (b:List Pc):(blkL b).length=3:=rfl
theorem Zos:∀bs:List (List Pc),(bs.flatMap blkL).length=bs.length*3
 | []=>rfl
 | b::bs=>by rw [List.flatMap_cons,List.length_append,Zos bs,ZhY,List.length_cons];omega
theorem Zr4 (bs:List (List Pc)):∀u∈bs.flatMap blkL,u.oneCell'=true:=by
 intro u hu;obtain⟨b,_,hb⟩:=List.mem_flatMap.1 hu;simp [blkL,blkV] at hb;rcases hb with rfl|rfl|rfl<;>rfl
theorem Zot:∀(bs:List (List Pc)) (i:Nat) (b:List Pc) (j:Nat),bs[i]?=some b->j<3->(bs.flatMap blkL)[i*3+j]?=(blkL b)[j]?
 | [],i,b,j,h,_=>by simp at h
 | x::xs,0,b,j,h,hj=>by
  simp at h;subst h;rw [List.flatMap_cons,List.getElem?_append_left (by rw [ZhY];omega),Nat.zero_mul,Nat.zero_add]
 | x::xs,i+1,b,j,h,hj=>by
  rw [List.flatMap_cons,List.getElem?_append_right (by rw [ZhY];omega),ZhY];have:=Zot xs i b j (by simpa using h) hj;rw [show(i+1)*3+j-3=i*3+j by omega];exact this
def OwnBk (W:World) (B:Nat) (v:Value) (bs:List (List Pc)):Prop:=W.ownsRow B 56 3 v bs.length (bs.flatMap blkL)
theorem OwnBk.nil (W:World) (B:Nat):OwnBk W B (.slice none 0 0) []:=World.ownsRow_nil _ _ _ _
theorem OwnBk.slice {W:World} {B:Nat} {v:Value} {bs:List (List Pc)} (h:OwnBk W B v bs):∃a cap,v=.slice a bs.length cap:=Zao h
theorem OwnBk.lt {W:World} {B:Nat} {v:Value} {bs:List (List Pc)} (h:OwnBk W B v bs):∀k,v.ownBlock=some k->B<=k/\k<W.heap.size:=World.ownsRow.lt h
theorem OwnBk.same {W W':World} {B:Nat} {v:Value} {bs:List (List Pc)} (h:OwnBk W B v bs) (he:∀k,v.ownBlock=some k->W'.heap[k]?=W.heap[k]?):OwnBk W' B v bs:=Zag h he
theorem OwnBk.below {W W':World} {B:Nat} {v:Value} {bs:List (List Pc)} (h:OwnBk W B v bs) (hb:Below W.heap.size W W'):OwnBk W' B v bs:=h.same (fun k hk=>hb.block k (h.lt k hk).2)
theorem OwnBk.cell {W:World} {B:Nat} {v:Value} {bs:List (List Pc)} (h:OwnBk W B v bs) {i:Nat} {b:List Pc} (hi:bs[i]?=some b):∃g cap,v=.slice (some ⟨g,0,none⟩) bs.length cap/\g<W.heap.size/\B<=g /\
  W.cell? ⟨g,i*3,none⟩=some (.string ⟨(pack b).toArray⟩)/\W.cell? ⟨g,i*3+1,none⟩=some (.int .u32 ((crcL (flat b)).toNat:Int))/\W.cell? ⟨g,i*3+2,none⟩=some (.int .i64 ((flat b).length:Int)):=by
 have hlt:=(List.getElem?_eq_some_iff.1 hi).1;rcases h.2 with⟨rfl,h0⟩|⟨g,cap,cur,rfl,hB,hg,hnc,_,hcs,ht⟩
 ·omega
 ·have hc:∀j,j<3->W.cell? ⟨g,i*3+j,none⟩=(blkL b)[j]?:=fun j hj=>by
   rw [cell_of_row _ _ _ _ _ _ hg,<-Zot bs i b j hi hj,<-ht,List.getElem?_take,if_pos (by omega),Array.getElem?_toList]
  exact⟨g,cap,rfl,(Array.getElem?_eq_some_iff.1 hg).1,hB,hc 0 (by omega),hc 1 (by omega),hc 2 (by omega)⟩
theorem infoBlk:(Tryz.prog.info? 56).map (fun i=>(i.zero,i.size,i.bytes))=some (some (.agg #[.string ⟨#[]⟩,.int .u32 0,.int .i64 0]),3,32):=by kernel_rfl
theorem ZjU {ops:Array Oper} {rest:List Oper} {o:Oper} {a:Act} {Q:Exit->Act->World->Prop} (W:World) (hgd:o.guard=none) (s x:Operand)
  (ho:o.op=.call { callee:=.builtin .append,args:=#[s,x],argTypes:=#[52,52] })
  (B:Nat) (v:Value) (bs:List (List Pc)) (b:List Pc) (A:Array Value) (hA:A=blkV b) (hown:OwnBk W B v bs) (hs:a.eval s=v) (G:Nat) (hG:W.heap.size=G) (hx:a.eval x=.slice (some ⟨G,0,none⟩) 1 1)
  (hlen:bs.length<=1000000) (hb:B<=W.heap.size)
  (h:∀v' w',OwnBk w' B v' (bs++[b])->Touch (fun k=>v.ownBlock=some k) W w'->(∀k,v'.ownBlock=some k->v.ownBlock=some k\/W.heap.size<=k)->wpList Tryz.prog ops Q rest (a.put o.dst v') w') :
  wpList Tryz.prog ops Q (o::rest) a (W.alloc (.cells A 56)):=by
 subst hA;subst hG;obtain⟨i0,hi,hz0,hz1,hz2⟩:=info_parts infoBlk;refine Zai hgd s x 52 ho B 56 i0 (.agg #[.string ⟨#[]⟩,.int .u32 0,.int .i64 0]) 3 32 Tryz.underlying52 hi hz0 hz1 hz2 rfl (by decide) v bs.length (bs.flatMap blkL) (World.ownsRow.alloc hown _) hs ⟨W.heap.size,0,none⟩ 1 1 (blkL b) hx rfl ?_ ?_ ?_ ?_ ?_ ?_
 ·exact ZaB _ _ _ _ rfl
 ·intro u hu;simp [blkL,blkV] at hu;rcases hu with rfl|rfl|rfl<;>rfl
 ·unfold maxLen;omega
 ·omega
 ·simp;omega
 ·intro v' w' hown' hg hv;refine h v' w' ?_ ?_ (fun k hk=>(hv k hk).imp id (fun h=>by simp at h;omega))
  ·unfold OwnBk;rw [List.length_append,List.flatMap_append];simpa using hown'
  ·exact⟨hg.os,hg.tape,hg.output,by have:=hg.size;simp at this;omega,fun k hk hn=>(hg.block k (by simp;omega) (fun e=>hn e.symm)).trans (Zam hk)⟩
theorem Zqv {ops:Array Oper} {rest:List Oper} {o:Oper} {a:Act} {Q:Exit->Act->World->Prop} (W:World) (hgd:o.guard=none) (s x:Operand)
  (ho:o.op=.call { callee:=.builtin .append,args:=#[s,x],argTypes:=#[52,52] })
  (B B2:Nat) (v u:Value) (bs cs:List (List Pc)) (hown:OwnBk W B v bs) (hsrc:OwnBk W B2 u cs) (hs:a.eval s=v) (hx:a.eval x=u)
  (hlen:bs.length+cs.length<=1000000) (hb:B<=W.heap.size)
  (h:∀v' w',OwnBk w' B v' (bs++cs)->Touch (fun k=>v.ownBlock=some k) W w'->(∀k,v'.ownBlock=some k->v.ownBlock=some k\/W.heap.size<=k)->wpList Tryz.prog ops Q rest (a.put o.dst v') w') :
  wpList Tryz.prog ops Q (o::rest) a W:=by
 obtain⟨i0,hi,hz0,hz1,hz2⟩:=info_parts infoBlk;rcases hsrc.2 with⟨rfl,h0⟩|⟨g,cap,cur,rfl,_,hg,hnc,_,_,htake⟩
 ·obtain rfl:cs=[]:=List.eq_nil_of_length_eq_zero h0;refine wpList_append_own_none hgd s x 52 ho B 56 i0 3 Tryz.underlying52 hi v bs.length (bs.flatMap blkL) hs hown hx ?_;have:=h v W;rw [List.append_nil] at this;exact this hown (Touch.refl _ _) (fun k hk=>Or.inl hk)
 ·refine Zai hgd s x 52 ho B 56 i0 (.agg #[.string ⟨#[]⟩,.int .u32 0,.int .i64 0]) 3 32 Tryz.underlying52 hi hz0 hz1 hz2 rfl (by decide) v bs.length (bs.flatMap blkL) hown hs ⟨g,0,none⟩ cs.length cap (cs.flatMap blkL) hx (Zos cs) ?_ ?_ ?_ ?_ ?_ ?_
  ·exact World.ownsRow.cells hsrc rfl
  ·exact Zr4 cs
  ·unfold maxLen;omega
  ·omega
  ·exact hb
  ·intro v' w' hown' hgr hv;refine h v' w' ?_ ⟨hgr.os,hgr.tape,hgr.output,hgr.size,fun k hk hn=>hgr.block k hk (fun e=>hn e.symm)⟩ hv;unfold OwnBk;rw [List.length_append,List.flatMap_append];exact hown'
section
variable {B t pb sb room : Nat} {w w' : World} {c : UInt8} {n : Nat} {blk : List Pc} {bv : Value} {tp : Option Nat}
theorem ZhI (r:Int) (w:World):Calls Tryz.prog 74 #[.int .i64 r] w fun e w'=>e=.returned (.bool (decide (5<=r/\r<=900000)))/\w'=w:=by
 by_cases h1:r<5
 ·have h2:¬r>=5:=by omega
  have h3:decide (5<=r/\r<=900000)=false:=by rw [decide_eq_false_iff_not];omega
  rw [h3];go_enter Tryz.func74,Tryz.ntmps74;go_wp2_with fail;go_ret;exact⟨rfl,rfl⟩
 ·have h2:r>=5:=by omega
  by_cases h4:r<=900000
  ·have h3:decide (5<=r/\r<=900000)=true:=by rw [decide_eq_true_eq];omega
   rw [h3];go_enter Tryz.func74,Tryz.ntmps74;go_wp2_with fail;go_ret;exact⟨rfl,rfl⟩
  ·have h3:decide (5<=r/\r<=900000)=false:=by rw [decide_eq_false_iff_not];omega
   rw [h3];go_enter Tryz.func74,Tryz.ntmps74;go_wp2_with fail;go_ret;exact⟨rfl,rfl⟩
theorem Zje (r:Int) (w:World) (h:r<5\/900000<r):Calls Tryz.prog 49 #[.int .i64 r] w fun e w'=>e=.returned (.tuple #[.pointer none,.int .i64 1])/\w'=w:=by
 have HI:=zh (ZhI r w);rw [show decide (5<=r/\r<=900000)=false by rw [decide_eq_false_iff_not];omega] at HI;clear h;go_enter Tryz.func49,Tryz.ntmps49;go_wp2_with fail;refine HI.out.mono ?_;rintro e w1 ⟨rfl,rfl⟩;go_wp2_with fail;go_ret2;exact⟨rfl,rfl⟩
theorem Zou (s:Nat):Tryz.prog.built 122 [(1,.pointer (some ⟨s,0,none⟩))]=some #[.slice none 0 0,.pointer (some ⟨s,0,none⟩),.int .i64 0]:=by kernel_rfl
theorem Zov (r:Int) (p s:Nat):Tryz.prog.built 124 [(0,.int .i64 r),(1,.pointer (some ⟨p,0,none⟩)),(2,.agg #[.slice none 0 0,.pointer (some ⟨s,0,none⟩),.int .i64 0])]=some #[.int .i64 r,.pointer (some ⟨p,0,none⟩),.slice none 0 0,.pointer (some ⟨s,0,none⟩),.int .i64 0]:=by kernel_rfl
theorem Zhq (room:Nat) (w:World) (h1:5<=room) (h2:room<=900000):Calls Tryz.prog 49 #[.int .i64 (room:Int)] w fun e w'=>∃t pb sb,e=.returned (.tuple #[.pointer (some ⟨t,0,none⟩),.int .i64 0])/\IsSp w.heap.size w' t pb sb room 0 0 [] (.slice none 0 0) none/\Below w.heap.size w w':=by
 have HI:=zh (ZhI (room:Int) w);rw [show decide (5<=(room:Int)/\(room:Int)<=900000)=true by rw [decide_eq_true_eq];omega] at HI;have HP:=zh (ZjQ w);clear h1 h2;go_enter Tryz.func49,Tryz.ntmps49;go_wp2_with fail;refine HI.out.mono ?_;rintro e w0 ⟨rfl,rfl⟩;go_wp2_with fail;refine HP.out.mono ?_;rintro e w1 ⟨rfl,hp,hb1⟩;go_wp2_with fail;refine(Zqd w1).mono ?_;rintro e w2 ⟨rfl,hs,hb2⟩;have hl1:=hp.lt;have hl2:=hs.lt.1;have HPB:=zh (hp.other (Touch.ofBelow (S:=fun _=>False) hb2) (fun e=>e));have HSB:=zh hs;have HBB:=zh (hb1.trans (hb2.mono hb1.size));have HLL:Hid (w0.heap.size<w1.heap.size/\w1.heap.size<w2.heap.size):=zh ⟨hl1,hl2⟩;have hbt1:=Zou w1.heap.size;have hbt2:=Zov (room:Int) w0.heap.size w1.heap.size;clear hp hb1 hs hb2 hl1 hl2;go_wp2_with (first|(refine Zci rfl 122 1 _ rfl _ rfl _ hbt1 ?_)|(refine Za0 rfl 124 0 1 2 _ _ _ rfl _ _ _ rfl rfl rfl _ hbt2 ?_));go_ret2;refine⟨_,_,_,rfl,⟨heap_alloc_new w2 _,?_,?_,Or.inl ⟨rfl,rfl⟩,⟨by have:=HLL.out;omega,by have:=HLL.out;omega,by have:=HLL.out;omega⟩,fun k hk=>(by cases hk),fun k hk=>(by cases hk),⟨by have:=HLL.out;omega,Nat.le_refl _,by have:=HLL.out;omega⟩,fun k hk=>(by cases hk)⟩,HBB.out.alloc HBB.out.size _⟩
 ·exact HPB.out.other (Touch.ofBelow (S:=fun _=>False) ((Below.refl _ _).alloc (Nat.le_refl _) _)) (fun e=>e)
 ·have e0:crcL (flat [])=0#32:=CrcM.crc_nil;rw [e0];exact HSB.out.other (Touch.ofBelow (S:=fun _=>False) ((Below.refl _ _).alloc (Nat.le_refl _) _)) (fun e=>e) (fun _ _ e=>e)
end
end
section
open Go.RowKit RleM SplM
section
variable {B t pb sb room : Nat} {w w' : World} {c : UInt8} {n : Nat} {blk : List Pc} {bv : Value} {tp : Option Nat}
theorem ZcG (l u:Int) (w:World) (hl:-9223372036854775808<=l/\l<=9223372036854775807) (hu:-9223372036854775808<=u/\u<=9223372036854775807):Calls Tryz.prog 24 #[.int .i64 l,.int .i64 u] w fun e w'=>e=.returned (if l<1\/9<l\/u<24\/100000<u then .tuple #[.int .i64 0,.int .i64 1] else .tuple #[.int .i64 (l*u-19),.int .i64 0])/\w'=w:=by
 by_cases h1:l<1
 ·rw [if_pos (Or.inl h1)];go_enter Tryz.func24,Tryz.ntmps24;go_wp2_with fail;go_ret2;exact⟨rfl,rfl⟩
 by_cases h2:9<l
 ·rw [if_pos (Or.inr (Or.inl h2))];have h2':l>9:=h2;go_enter Tryz.func24,Tryz.ntmps24;go_wp2_with fail;go_ret2;exact⟨rfl,rfl⟩
 have h2':¬l>9:=h2;by_cases h3:u<24
 ·rw [if_pos (Or.inr (Or.inr (Or.inl h3)))];go_enter Tryz.func24,Tryz.ntmps24;go_wp2_with fail;go_ret2;exact⟨rfl,rfl⟩
 by_cases h4:100000<u
 ·rw [if_pos (Or.inr (Or.inr (Or.inr h4)))];have h4':u>100000:=h4;go_enter Tryz.func24,Tryz.ntmps24;go_wp2_with fail;go_ret2;exact⟨rfl,rfl⟩
 have h4':¬u>100000:=h4;rw [if_neg (by omega)];have hm1:0<=l*u:=Int.mul_nonneg (by omega) (by omega);have hm2:l*u<=9*100000:=Int.mul_le_mul (by omega) (by omega) (by omega) (by omega);have hmw:IntKind.i64.wrap (l*u)=l*u:=IntWalk.i64_in _ (by omega);have hsw:IntKind.i64.wrap (l*u-19)=l*u-19:=IntWalk.i64_in _ (by omega);clear hl hu;go_enter Tryz.func24,Tryz.ntmps24;go_wp2_with fail;go_ret2;exact⟨rfl,rfl⟩
end
end
section
open Go.RowKit RleM SplM
def SpEndP (B:Nat) (w w':World) (t pb sb room:Nat) (bv v:Value) (bs:List (List Pc)):Prop:=
 ∃bv' tp',OwnBk w' w.heap.size v bs/\IsSp B w' t pb sb room 0 0 [] bv' tp'/\Touch (ftP t pb sb bv) w w'/\(∀k,bv'.ownBlock=some k->bv.ownBlock=some k\/w.heap.size<=k)/\(∀k,v.ownBlock=some k->¬ftP t pb sb bv' k/\tp'≠some k)
section
variable {B t pb sb room : Nat} {w w' : World} {c : UInt8} {n : Nat} {blk : List Pc} {bv : Value} {tp : Option Nat}
theorem Znh (ps:List Pc) (w:World) (h:IsSp B w t pb sb room c n blk bv tp) (hT:Sizes w) (hg:1<B) (h0:n=0->c=0) (hn:n<=254) (hps:packR c n=pack ps) (hd:dec (pack ps)=(flat ps,0)) (h1:(pack ps).length<=1000) (h2:(pack blk).length<=1000000) (h3:(flat blk).length<=1000000000000) (h4:(flat ps).length<=1000) (hr:room<=1000000)
  (hf:room<(pack blk).length+(pack ps).length) (hp:0<(pack ps).length) :
  Calls Tryz.prog 51 #[.pointer (some ⟨t,0,none⟩)] w fun e w'=>∃v,e=.returned v/\SpEndP B w w' t pb sb room bv v [blk,ps]:=by
 have H:=zh h;have HT:=zh hT;have hpb:pb≠1:=by have:=h.base.2.1;omega
 have HEND:=zh (ZhU pb c n w h.pk hT hpb h0 (by omega));rw [hps] at HEND;have HTK:=zh (fun W (k:IsSp B W t pb sb room 0 0 blk bv tp)=>Zkr ps W k hd h1 h2 h3 h4 hr hf);obtain⟨P,hP⟩:∃P:ByteArray,(⟨(pack ps).toArray⟩:ByteArray)=P:=⟨_,rfl⟩
 obtain⟨s1,x1,m1,hA⟩:∃(s1:ByteArray) (x1 m1:Int),blkV blk=#[.string s1,.int .u32 x1,.int .i64 m1]:=⟨_,_,_,rfl⟩
 have hAc:(#[.string s1,.int .u32 x1,.int .i64 m1]:Array Value).all (·.oneCell')=true:=by simp [Value.oneCell']
 obtain⟨s2,x2,m2,hA2⟩:∃(s2:ByteArray) (x2 m2:Int),blkV ps=#[.string s2,.int .u32 x2,.int .i64 m2]:=⟨_,_,_,rfl⟩
 have HCUT:=zh (fun W bv2 tp2 (k:IsSp B W t pb sb room 0 0 ps bv2 tp2)=>ZjS W k);rw [hP] at HEND HTK;rw [hA] at HTK;rw [hA2] at HCUT;have HA:=zh (And.intro hA hA2);have hi:=ZgV #[.string s1,.int .u32 x1,.int .i64 m1] rfl;obtain⟨_,c1,_,_,_⟩:=h.cells;obtain⟨L,hL⟩:∃L,(pack ps).length=L:=⟨_,rfl⟩
 have HL:=zh hL;have hLp:0<L:=by omega
 have hLi:(L:Int)>0:=by omega
 clear h hT h0 hn hps hd h1 h2 h3 h4 hr hf hp hP hA hA2 hL hpb;go_enter Tryz.func51,Tryz.ntmps51;go_wp2_with fail;refine HEND.out.mono ?_;rintro e w1 ⟨rfl,hp1,ht1⟩;have K1:=zh (H.out.packed ht1 hp1);have HT1:=zh (ht1.mono (T:=ftP t pb sb bv) (fun i hi=>Or.inr (Or.inl hi)));clear hp1 ht1 c1;go_wp2_with fail;refine(HTK.out _ K1.out).mono ?_;rintro e w2 ⟨rfl,bv2,tp2,k2,t2,o2⟩;have K2:=zh k2;have HT2:=zh (HT1.out.trans t2 (fun i hi=>Or.inl hi));have HO2:Hid (∀k,bv2.ownBlock=some k->bv.ownBlock=some k\/w.heap.size<=k):=zh (fun k hk=>(o2 k hk).imp id (fun e=>Nat.le_trans HT1.out.size e));clear k2 t2 o2;have hs1:=HT1.out.size;have hs2:=HT2.out.size;have hz2:(w2.alloc (.cells #[.string ⟨#[]⟩,.int .u32 0,.int .i64 0] 56)).heap[w2.heap.size]?=some (.cells blk0 56 (0,0)):=heap_alloc_new _ _;have hz3:((w2.alloc (.cells #[.string ⟨#[]⟩,.int .u32 0,.int .i64 0] 56)).setRow w2.heap.size #[.string s1,.int .u32 x1,.int .i64 m1]).heap[w2.heap.size]?=some (.cells #[.string s1,.int .u32 x1,.int .i64 m1] 56 (0,0)):=setRow_heap _ _ _ _ _ _ hz2;have hb3:Below w2.heap.size w2 ((w2.alloc (.cells #[.string ⟨#[]⟩,.int .u32 0,.int .i64 0] 56)).setRow w2.heap.size #[.string s1,.int .u32 x1,.int .i64 m1]):=((Below.refl _ _).alloc (Nat.le_refl _) _).trans ⟨rfl,rfl,rfl,by simp [World.setRow],fun j hj=>setRow_other _ _ j _ (by omega)⟩;have K3:=zh (K2.out.below hb3);have HB3:=zh hb3;have hbz:w.heap.size<=((w2.alloc (.cells #[.string ⟨#[]⟩,.int .u32 0,.int .i64 0] 56)).setRow w2.heap.size #[.string s1,.int .u32 x1,.int .i64 m1]).heap.size:=Nat.le_trans hs2 hb3.size;clear hb3;go_wp2_with (first|(refine wpList_store_row rfl 56 _ _ rfl w2.heap.size #[.string s1,.int .u32 x1,.int .i64 m1] rfl rfl 56 blk0 hz2 hi rfl hAc ?_)|(refine wpList_load_row rfl 56 _ rfl w2.heap.size rfl 56 #[.string s1,.int .u32 x1,.int .i64 m1] (0,0) _ hz3 Tryz.underlying56 rfl hi ?_)|(at_builtin;go_loud (refine ZjU _ rfl _ _ rfl w.heap.size (.slice none 0 0) [] blk _ HA.out.1.symm (OwnBk.nil _ _) rfl (w2.heap.size+1) (by simp [World.setRow]) rfl (by simp) hbz ?_)));intro v5 w5 hO5 hT5 hv5;have K5:=K3.out.other hT5 (fun x hx e=>by cases e) (fun k hk e=>by cases e);have HT5:Hid (Touch (ftP t pb sb bv) w w5):=zh ((HT2.out.trans (Touch.ofBelow (S:=fun _=>False) HB3.out) (fun i hi=>absurd hi (fun h=>h))).trans hT5 (fun i hi=>by cases hi))
 have HV5:Hid (∀k,v5.ownBlock=some k->¬ftP t pb sb bv2 k/\tp2≠some k/\w.heap.size<=k):=zh (fun k hk=>by
  rcases hv5 k hk with e|e
  ·cases e
  ·have e2:w2.heap.size+1<=k:=by simpa [World.setRow] using e
   refine⟨fun hx=>by have:=Zgi K2.out hx;omega,fun hx=>by have:=(K2.out.sum.lt.2 k hx).1;omega,by omega⟩)
 obtain⟨oa,oc,rfl⟩:=hO5.slice;obtain⟨a2,cap2,hbv,_⟩:=K5.row.slice;rw [HL.out] at hbv;have HBV:=zh hbv;subst hbv;have HO5:=zh hO5;have HK5:=zh K5;obtain⟨_,_,d2,_,_⟩:=K5.cells;clear K5 hO5 hT5 hv5 hz2 hz3 hbz;go_wp2_with fail;refine(HCUT.out _ _ _ HK5.out).mono ?_;rintro e w6 ⟨rfl,k6,t6⟩;have HO6:=zh (HO5.out.same (fun k hk=>t6.block k (HO5.out.lt k hk).2 (HV5.out k hk).1));have HK6:=zh k6
 have HT6:Hid (Touch (ftP t pb sb bv) w w6):=zh (HT5.out.trans t6 (fun i hi=>by
  rcases hi with e|e|e|e
  ·exact Or.inl (Or.inl e)
  ·exact Or.inl (Or.inr (Or.inl e))
  ·exact Or.inl (Or.inr (Or.inr (Or.inl e)))
  ·rcases HO2.out i e with e|e
   ·exact Or.inl (Or.inr (Or.inr (Or.inr e)))
   ·exact Or.inr e))
 have hb6:w.heap.size<=w6.heap.size:=HT6.out.size;clear k6 t6 d2;simp only [List.nil_append,List.length_cons,List.length_nil] at *;go_wp2_with (at_builtin;go_loud (refine ZjU w6 rfl _ _ rfl w.heap.size _ [blk] ps _ HA.out.2.symm HO6.out rfl w6.heap.size rfl rfl (by simp) hb6 ?_));intro v7 w7 hO7 hT7 hv7
 have K7:=HK6.out.other hT7 (fun x hx e=>by
  rcases hx with h1|h1|h1|h1
  ·exact(HV5.out x e).1 (Or.inl h1)
  ·exact(HV5.out x e).1 (Or.inr (Or.inl h1))
  ·exact(HV5.out x e).1 (Or.inr (Or.inr (Or.inl h1)))
  ·cases h1) (fun k hk e=>(HV5.out k e).2.1 hk)
 have HR:Hid (SpEndP B w w7 t pb sb room bv v7 [blk,ps]):=zh (by
  refine⟨.slice none 0 0,tp2,hO7,K7,HT6.out.trans hT7 (fun i hi=>Or.inr (HV5.out i hi).2.2),fun k hk=>(by cases hk),fun k hk=>?_⟩;rcases hv7 k hk with e|e
  ·refine⟨fun hx=>?_,(HV5.out k e).2.1⟩;rcases hx with h1|h1|h1|h1
   ·exact(HV5.out k e).1 (Or.inl h1)
   ·exact(HV5.out k e).1 (Or.inr (Or.inl h1))
   ·exact(HV5.out k e).1 (Or.inr (Or.inr (Or.inl h1)))
   ·cases h1
  ·refine⟨fun hx=>by have:=Zgi HK6.out hx;omega,fun hx=>by have:=(HK6.out.sum.lt.2 k hx).1;omega⟩)
 obtain⟨oa7,oc7,rfl⟩:=hO7.slice;clear K7 hO7 hT7 hv7;go_wp2_with fail;go_ret;exact⟨_,rfl,HR.out⟩
theorem Zjf (ps:List Pc) (w:World) (h:IsSp B w t pb sb room c n blk bv tp) (hT:Sizes w) (hg:1<B) (h0:n=0->c=0) (hn:n<=254) (hps:packR c n=pack ps) (hd:dec (pack ps)=(flat ps,0)) (h1:(pack ps).length<=1000) (h2:(pack blk).length<=1000000) (h3:(flat blk).length<=1000000000000) (h4:(flat ps).length<=1000) (hr:room<=1000000)
  (hf:(pack blk).length+(pack ps).length<=room) (hp:0<(pack (blk++ps)).length) :
  Calls Tryz.prog 51 #[.pointer (some ⟨t,0,none⟩)] w fun e w'=>∃v,e=.returned v/\SpEndP B w w' t pb sb room bv v [blk++ps]:=by
 have H:=zh h;have hpb:pb≠1:=by have:=h.base.2.1;omega
 have HEND:=zh (ZhU pb c n w h.pk hT hpb h0 (by omega));rw [hps] at HEND;have HTK:=zh (fun W (k:IsSp B W t pb sb room 0 0 blk bv tp)=>ZjT ps W k hd h1 h2 h3 h4 hr hf);rw [show blk0=#[.string ⟨#[]⟩,.int .u32 0,.int .i64 0] from rfl] at HTK;obtain⟨P,hP⟩:∃P:ByteArray,(⟨(pack ps).toArray⟩:ByteArray)=P:=⟨_,rfl⟩
 obtain⟨N,hN⟩:∃N,blk++ps=N:=⟨_,rfl⟩
 obtain⟨s2,x2,m2,hA2⟩:∃(s2:ByteArray) (x2 m2:Int),blkV N=#[.string s2,.int .u32 x2,.int .i64 m2]:=⟨_,_,_,rfl⟩
 have HCUT:=zh (fun W bv2 tp2 (k:IsSp B W t pb sb room 0 0 N bv2 tp2)=>ZjS W k);rw [hA2] at HCUT;rw [hN] at HTK hp ⊢;have HA:=zh hA2;rw [hP] at HEND HTK;obtain⟨_,c1,_,_,_⟩:=h.cells;obtain⟨L,hL⟩:∃L,(pack N).length=L:=⟨_,rfl⟩
 have HL:=zh hL;have hLp:0<L:=by omega
 have hLi:(L:Int)>0:=by omega
 clear h hT h0 hn hps hd h1 h2 h3 h4 hr hf hp hP hN hA2 hL hpb;go_enter Tryz.func51,Tryz.ntmps51;go_wp2_with fail;refine HEND.out.mono ?_;rintro e w1 ⟨rfl,hp1,ht1⟩;have K1:=zh (H.out.packed ht1 hp1);have HT1:=zh (ht1.mono (T:=ftP t pb sb bv) (fun i hi=>Or.inr (Or.inl hi)));clear hp1 ht1 c1;go_wp2_with fail;refine(HTK.out _ K1.out).mono ?_;rintro e w2 ⟨rfl,bv2,tp2,k2,t2,o2⟩;have HT2:=zh (HT1.out.trans t2 (fun i hi=>Or.inl hi));have HO2:Hid (∀k,bv2.ownBlock=some k->bv.ownBlock=some k\/w.heap.size<=k):=zh (fun k hk=>(o2 k hk).imp id (fun e=>Nat.le_trans HT1.out.size e));obtain⟨a2,cap2,hbv,_⟩:=k2.row.slice;rw [HL.out] at hbv;subst hbv;have K2:=zh k2;have hb3:Below w2.heap.size w2 (w2.alloc (.cells #[.string ⟨#[]⟩,.int .u32 0,.int .i64 0] 56)):=(Below.refl _ _).alloc (Nat.le_refl _) _;have K3:=zh (k2.below hb3);have HB3:=zh hb3;obtain⟨_,_,d2,_,_⟩:=K3.out.cells;clear k2 t2 o2 hb3;go_wp2_with fail;have HT3:=zh (HT2.out.trans (Touch.ofBelow (S:=fun _=>False) HB3.out) (fun i hi=>absurd hi (fun h=>h)));refine(HCUT.out _ _ _ K3.out).mono ?_;rintro e w6 ⟨rfl,k6,t6⟩;have HK6:=zh k6
 have HT6:Hid (Touch (ftP t pb sb bv) w w6):=zh (HT3.out.trans t6 (fun i hi=>by
  rcases hi with e|e|e|e
  ·exact Or.inl (Or.inl e)
  ·exact Or.inl (Or.inr (Or.inl e))
  ·exact Or.inl (Or.inr (Or.inr (Or.inl e)))
  ·rcases HO2.out i e with e|e
   ·exact Or.inl (Or.inr (Or.inr (Or.inr e)))
   ·exact Or.inr e))
 have hb6:w.heap.size<=w6.heap.size:=HT6.out.size;clear k6 t6 d2;go_wp2_with (at_builtin;go_loud (refine ZjU w6 rfl _ _ rfl w.heap.size (.slice none 0 0) [] N _ HA.out.symm (OwnBk.nil _ _) rfl w6.heap.size rfl rfl (by simp) hb6 ?_));intro v7 w7 hO7 hT7 hv7;have K7:=HK6.out.other hT7 (fun x hx e=>by cases e) (fun k hk e=>by cases e)
 have HR:Hid (SpEndP B w w7 t pb sb room bv v7 [N]):=zh (by
  refine⟨.slice none 0 0,tp2,hO7,K7,HT6.out.trans hT7 (fun i hi=>by cases hi),fun k hk=>(by cases hk),fun k hk=>?_⟩;rcases hv7 k hk with e|e
  ·cases e
  ·refine⟨fun hx=>by have:=Zgi HK6.out hx;omega,fun hx=>by have:=(HK6.out.sum.lt.2 k hx).1;omega⟩)
 obtain⟨oa7,oc7,rfl⟩:=hO7.slice;clear K7 hO7 hT7 hv7;go_wp2_with fail;go_ret;exact⟨_,rfl,HR.out⟩
theorem Zlv (ps:List Pc) (w:World) (h:IsSp B w t pb sb room c n blk bv tp) (hT:Sizes w) (hg:1<B) (h0:n=0->c=0) (hn:n<=254) (hps:packR c n=pack ps) (hd:dec (pack ps)=(flat ps,0)) (h1:(pack ps).length<=1000) (h2:(pack blk).length<=1000000) (h3:(flat blk).length<=1000000000000) (h4:(flat ps).length<=1000) (hr:room<=1000000)
  (hf:(pack blk).length+(pack ps).length<=room) (hp:blk++ps=[]) :
  Calls Tryz.prog 51 #[.pointer (some ⟨t,0,none⟩)] w fun e w'=>∃v,e=.returned v/\SpEndP B w w' t pb sb room bv v []:=by
 have H:=zh h;have hpb:pb≠1:=by have:=h.base.2.1;omega
 have HEND:=zh (ZhU pb c n w h.pk hT hpb h0 (by omega));rw [hps] at HEND;have HTK:=zh (fun W (k:IsSp B W t pb sb room 0 0 blk bv tp)=>ZjT ps W k hd h1 h2 h3 h4 hr hf);rw [show blk0=#[.string ⟨#[]⟩,.int .u32 0,.int .i64 0] from rfl] at HTK;obtain⟨P,hP⟩:∃P:ByteArray,(⟨(pack ps).toArray⟩:ByteArray)=P:=⟨_,rfl⟩
 rw [hp] at HTK;rw [hP] at HEND HTK;obtain⟨_,c1,_,_,_⟩:=h.cells;clear h hT h0 hn hps hd h1 h2 h3 h4 hr hf hp hP hpb;go_enter Tryz.func51,Tryz.ntmps51;go_wp2_with fail;refine HEND.out.mono ?_;rintro e w1 ⟨rfl,hp1,ht1⟩;have K1:=zh (H.out.packed ht1 hp1);have HT1:=zh (ht1.mono (T:=ftP t pb sb bv) (fun i hi=>Or.inr (Or.inl hi)));clear hp1 ht1 c1;go_wp2_with fail;refine(HTK.out _ K1.out).mono ?_;rintro e w2 ⟨rfl,bv2,tp2,k2,t2,o2⟩;have HT2:=zh (HT1.out.trans t2 (fun i hi=>Or.inl hi));have HO2:Hid (∀k,bv2.ownBlock=some k->bv.ownBlock=some k\/w.heap.size<=k):=zh (fun k hk=>(o2 k hk).imp id (fun e=>Nat.le_trans HT1.out.size e));obtain⟨a2,cap2,hbv,_⟩:=k2.row.slice;rw [show(pack ([]:List Pc)).length=0 from rfl] at hbv;subst hbv;have K2:=zh k2;have hb3:Below w2.heap.size w2 (w2.alloc (.cells #[.string ⟨#[]⟩,.int .u32 0,.int .i64 0] 56)):=(Below.refl _ _).alloc (Nat.le_refl _) _;have K3:=zh (k2.below hb3);have HB3:=zh hb3;obtain⟨_,_,d2,_,_⟩:=K3.out.cells;clear k2 t2 o2 hb3;go_wp2_with fail;go_ret;refine⟨_,rfl,.slice a2 0 cap2,tp2,OwnBk.nil _ _,K3.out,HT2.out.trans (Touch.ofBelow (S:=fun _=>False) HB3.out) (fun i hi=>absurd hi (fun h=>h)),HO2.out,fun k hk=>(by cases hk)⟩
end
end
section
open Go.RowKit RleM SplM
def OneP (ps:List Pc):Prop:=ps=[]\/∃p:Pc,ps=[p]/\1<=p.2/\p.2<=255
theorem OneP.facts {ps:List Pc} (h:OneP ps):dec (pack ps)=(flat ps,0)/\(pack ps).length<=1000/\(flat ps).length<=1000:=by
 rcases h with rfl|⟨p,rfl,h1,h2⟩
 ·exact⟨Zof (b:=[]) trivial,by simp [pack],by simp [flat]⟩
 ·refine⟨Zof (b:=[p]) ⟨h1,h2,fun q hq=>by simp at hq,trivial⟩,?_,?_⟩
  ·rw [Zbf];have:=SplM.packP_le p;omega
  ·simp [flat];omega
theorem Zqw {l T:List UInt8} {c:UInt8} {n:Nat} {QS:List Pc} (h:SureP l T c n QS) (x:UInt8):∃ps,(pstep c n x).1=pack ps/\OneP ps/\SureP (l++[x]) (T++pack ps) (pstep c n x).2.1 (pstep c n x).2.2 (QS++ps):=by
 obtain⟨h1,h2,h3,h4⟩:=h;by_cases hn:n=0
 ·subst hn;obtain⟨rfl,h5⟩:=h4 rfl;rw [if_pos rfl,List.append_nil] at h1;have hp:=Zjb l x (fun p hp=>Or.inr (h5 p (by rw [<-h1];exact hp)))
  have e:pstep 0 0 x=([],(x,1)):=by
   unfold pstep;by_cases hx:x=0
   ·rw [if_pos hx,if_pos hx];rfl
   ·rw [if_neg hx,if_neg hx];rfl
  rw [e];refine⟨[],rfl,Or.inl rfl,?_,by simp [h2,pack],by show 1<=254;omega,fun h=>by cases h⟩;rw [hp,h1];simp
 ·rw [if_neg hn] at h1;by_cases hx:x=c
  ·subst hx;have hp:=Zlk l QS x n h1 (by omega);by_cases hm:n+1=255
   ·have e:pstep x n x=([]++packP (x,255),(0,0)):=by
     unfold pstep;rw [if_pos rfl,if_pos rfl];simp only;rw [if_pos hm]
    rw [e];refine⟨[(x,255)],?_,Or.inr ⟨_,rfl,by simp,by simp⟩,?_,?_,Nat.zero_le _,fun _=>⟨rfl,fun p hp=>?_⟩⟩
    ·rw [Zbf];simp
    ·rw [hp,hm];simp
    ·rw [ZbR,h2]
    ·have:(x,255)=p:=by simpa using hp
     rw [<-this]
   ·have e:pstep x n x=([],(x,n+1)):=by
     unfold pstep;rw [if_pos rfl,if_pos rfl];simp only;rw [if_neg hm]
    rw [e];exact⟨[],rfl,Or.inl rfl,by rw [hp];simp,by simp [h2,pack],by simp only;omega,fun h=>by simp at h⟩
  ·have hp:=Zjb l x (fun p hp=>by
    rw [h1] at hp;have:(c,n)=p:=by simpa using hp
    rw [<-this];exact Or.inl hx)
   have e:pstep c n x=(packP (c,n),(x,1)):=by
    unfold pstep;rw [if_neg hx,if_neg hx];show(if 1=255 then _ else _)=_;rw [if_neg (by decide)];unfold packR;rw [if_neg hn]
   rw [e];exact⟨[(c,n)],(Zbf _).symm,Or.inr ⟨_,rfl,by show 1<=n;omega,by show n<=255;omega⟩,by rw [hp,h1];simp,by rw [ZbR,h2],by show 1<=254;omega,fun h=>by cases h⟩
theorem SureP.zero:SureP [] [] 0 0 []:=⟨rfl,rfl,Nat.zero_le _,fun _=>⟨rfl,fun p h=>by cases h⟩⟩
theorem ZgX {l T:List UInt8} {c:UInt8} {n:Nat} {QS:List Pc} (h:SureP l T c n QS):(flat QS).length<=l.length:=by
 have:=ZaK l;rw [h.pieces,ZaH] at this;have e:=congrArg List.length this;rw [List.length_append] at e;omega
section
variable {B t pb sb room : Nat} {w w' : World} {c : UInt8} {n : Nat} {bv : Value} {tp : Option Nat} {l T : List UInt8} {QS : List Pc}
def PutR (room:Nat) (QS QS2:List Pc) (e:Ending):Prop:=
 (∃b,e=.returned (.tuple #[.agg (blkV b),.bool true])/\(runS room QS2).1=(runS room QS).1++[b])\/(e=.returned (.tuple #[.agg blk0,.bool false])/\(runS room QS2).1=(runS room QS).1)
theorem Zqx (x:UInt8) (w:World) (h:IsSp B w t pb sb room c n (runS room QS).2 bv tp) (hs:SureP l T c n QS) (hT:Sizes w) (hg:1<B) (h5:5<=room) (hr:room<=900000) (hl:l.length<=1000000) :
  Calls Tryz.prog 50 #[.pointer (some ⟨t,0,none⟩),.int .u8 (x.toNat:Int)] w fun e w'=>∃T2 QS2,SureP (l++[x]) T2 (pstep c n x).2.1 (pstep c n x).2.2 QS2/\PutR room QS QS2 e/\TakP B w w' t pb sb room (pstep c n x).2.1 (pstep c n x).2.2 (runS room QS2).2 bv:=by
 obtain⟨ps,hps,ho,hs2⟩:=Zqw hs x;obtain⟨f1,f2,f3⟩:=ho.facts;have hR:=rightS room h5 QS;have hnow:=hR.now;have hfl:=ZgW room h5 QS;have hsf:=ZgX hs;refine(Zoq x ps w h hT hg (fun e=>(hs.none e).1) hs.le hps f1 f2 (by omega) (by omega) f3 (by omega)).mono ?_;rintro e w' ⟨rfl,hk⟩;refine⟨_,QS++ps,hs2,?_,?_⟩
 ·rcases ho with rfl|⟨p,rfl,_,_⟩
  ·have hn:¬room<(pack (runS room QS).2).length+(pack ([]:List Pc)).length:=by rw [show(pack ([]:List Pc)).length=0 from rfl];omega
   rw [if_neg hn,decide_eq_false hn,List.append_nil];exact Or.inr ⟨rfl,rfl⟩
  ·unfold PutR;rw [ZdO];unfold stepS;rw [Zbf];by_cases hc:room<(pack (runS room QS).2).length+(packP p).length
   ·rw [if_pos hc,if_pos hc,decide_eq_true hc];exact Or.inl ⟨_,rfl,rfl⟩
   ·rw [if_neg hc,if_neg hc,decide_eq_false hc];exact Or.inr ⟨rfl,rfl⟩
 ·rcases ho with rfl|⟨p,rfl,_,_⟩
  ·have hn:¬room<(pack (runS room QS).2).length+(pack ([]:List Pc)).length:=by rw [show(pack ([]:List Pc)).length=0 from rfl];omega
   rw [if_neg hn] at hk;rw [List.append_nil] at hk ⊢;exact hk
  ·rw [ZdO];unfold stepS;rw [Zbf] at hk;by_cases hc:room<(pack (runS room QS).2).length+(packP p).length
   ·rw [if_pos hc] at hk ⊢;exact hk
   ·rw [if_neg hc] at hk ⊢;exact hk
theorem Zqy (w:World) (h:IsSp B w t pb sb room c n (runS room QS).2 bv tp) (hs:SureP l T c n QS) (hT:Sizes w) (hg:1<B) (h5:5<=room) (hr:room<=900000) (hl:l.length<=1000000) :
  Calls Tryz.prog 51 #[.pointer (some ⟨t,0,none⟩)] w fun e w'=>∃v bs,e=.returned v/\SpEndP B w w' t pb sb room bv v bs/\(runS room QS).1++bs=blks room l:=by
 have hR:=rightS room h5 QS;have hnow:=hR.now;have hfl:=ZgW room h5 QS;have hsf:=ZgX hs;have hgood:=good l;rw [hs.pieces] at hgood;have hblk:blks room l=endS (runS room (QS++(if n=0 then[] else[(c,n)]))):=by unfold blks;rw [hs.pieces]
 rw [hblk]
 have hpos:(runS room QS).2≠[]->0<(pack (runS room QS).2).length:=fun hne=>by
  refine ZeO hne (fun p hp=>?_);have hm:p∈QS:=by rw [<-hR.all];exact List.mem_append_right _ hp
  exact(Zbm (ZbQ hgood) hm).1
 by_cases hn:n=0
 ·subst hn;rw [if_pos rfl,List.append_nil];have hps:packR c 0=pack []:=rfl;obtain⟨f1,f2,f3⟩:=(show OneP [] from Or.inl rfl).facts;unfold endS;by_cases he:(runS room QS).2=[]
  ·rw [if_pos he];refine(Zlv [] w h hT hg (fun e=>(hs.none e).1) hs.le hps f1 f2 (by omega) (by omega) f3 (by omega) (by rw [show(pack ([]:List Pc)).length=0 from rfl];omega) (by rw [he];rfl)).mono ?_;rintro e w' ⟨v,rfl,hk⟩;exact⟨v,[],rfl,hk,rfl⟩
  ·rw [if_neg he];refine(Zjf [] w h hT hg (fun e=>(hs.none e).1) hs.le hps f1 f2 (by omega) (by omega) f3 (by omega) (by rw [show(pack ([]:List Pc)).length=0 from rfl];omega) (by rw [List.append_nil];exact hpos he)).mono ?_;rintro e w' ⟨v,rfl,hk⟩;rw [List.append_nil] at hk;exact⟨v,[_],rfl,hk,rfl⟩
 ·rw [if_neg hn];have hps:packR c n=pack [(c,n)]:=by unfold packR;rw [if_neg hn,Zbf]
  have hle:=hs.le;obtain⟨f1,f2,f3⟩:=(show OneP [(c,n)] from Or.inr ⟨_,rfl,by show 1<=n;omega,by show n<=255;omega⟩).facts;have hpp:=Zkl (p:=(c,n)) (by show 1<=n;omega);rw [ZdO];unfold stepS;by_cases hc:(pack (runS room QS).2).length+(packP (c,n)).length>room
  ·rw [if_pos hc];refine(Znh [(c,n)] w h hT hg (fun e=>(hs.none e).1) hs.le hps f1 f2 (by omega) (by omega) f3 (by omega) (by rw [Zbf];exact hc) (by rw [Zbf];omega)).mono ?_;rintro e w' ⟨v,rfl,hk⟩;refine⟨v,_,rfl,hk,?_⟩;unfold endS;simp
  ·rw [if_neg hc];refine(Zjf [(c,n)] w h hT hg (fun e=>(hs.none e).1) hs.le hps f1 f2 (by omega) (by omega) f3 (by omega) (by rw [Zbf];omega) (by rw [ZbR,List.length_append,Zbf];omega)).mono ?_;rintro e w' ⟨v,rfl,hk⟩;refine⟨v,_,rfl,hk,?_⟩;unfold endS;simp
end
end
end Go.Proofs.YtlfpbcadcfaboaaGreatDoor
