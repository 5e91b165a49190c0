import Derived.Test.YtnachbjhhpnadaaGreatDoorBcB
import Derived.Test.YtnachbjhhpnadaaGreatDoorBcD
import Derived.Test.YtnachbjhhpnadaaGreatDoorBcE
import Derived.Shelf.Abstract
import Derived.Laws.CopyRow
import Derived.Deep.Cut
set_option linter.unusedVariables false
set_option linter.unusedSimpArgs false
set_option maxHeartbeats 8000000
set_option maxRecDepth 100000
namespace Go.Proofs.YtnachbjhhpnadaaGreatDoor
section
open Go.RowKit SymM HufM
theorem ZbU (x:Int) (w:World):Calls Tryz.prog 317 #[.int .i64 x] w fun e w'=>e=.returned (.bool false)/\w'=w:=by
 have h:(x != x)=false:=by simp
 go_enter Tryz.func317,Tryz.ntmps317;go_wp2_with fail;go_ret;exact⟨rfl,rfl⟩
theorem Zjz (x y:Int) (w:World):Calls Tryz.prog 311 #[.int .i64 x,.int .i64 y] w fun e w'=>e=.returned (.int .i64 (sgn x y))/\w'=w:=by
 unfold sgn;by_cases h1:x<y
 ·rw [if_pos h1];go_enter Tryz.func311,Tryz.ntmps311;go_wp2_with fail;refine(ZbU x w).mono ?_;rintro e w' ⟨rfl,rfl⟩;go_wp2_with fail;refine(ZbU y _).mono ?_;rintro e w' ⟨rfl,rfl⟩;go_wp2_with fail;go_ret;exact⟨rfl,rfl⟩
 ·rw [if_neg h1];by_cases h2:y<x
  ·rw [if_pos h2];go_enter Tryz.func311,Tryz.ntmps311;go_wp2_with fail;refine(ZbU x w).mono ?_;rintro e w' ⟨rfl,rfl⟩;go_wp2_with fail;refine(ZbU y _).mono ?_;rintro e w' ⟨rfl,rfl⟩;go_wp2_with fail;go_ret;exact⟨rfl,rfl⟩
  ·rw [if_neg h2];go_enter Tryz.func311,Tryz.ntmps311;go_wp2_with fail;refine(ZbU x w).mono ?_;rintro e w' ⟨rfl,rfl⟩;go_wp2_with fail;refine(ZbU y _).mono ?_;rintro e w' ⟨rfl,rfl⟩;go_wp2_with fail;go_ret;exact⟨rfl,rfl⟩
def wtOf (zs:List Int) (x:Int):Int:=zs.getD x.toNat 0
theorem Zp0 (bx:Nat) (v:Value) (zs:List Int) (w:World) (x y:Int) (hc:w.cell? ⟨bx,0,none⟩=some v) (hv:IsInts w v zs) (hz:zs.length<=100000) (hx0:0<=x) (hx:x<zs.length) (hy0:0<=y) (hy:y<zs.length) :
  Calls Tryz.prog 310 #[.int .i64 x,.int .i64 y,.pointer (some ⟨bx,0,none⟩)] w fun e w'=>e=.returned (.int .i64 (sgn (wtOf zs x) (wtOf zs y)))/\∃q,w'=w.drewN q:=by
 obtain⟨i,rfl⟩:=Int.eq_ofNat_of_zero_le hx0;obtain⟨j,rfl⟩:=Int.eq_ofNat_of_zero_le hy0;have HV:=zh hv;obtain⟨b1,o1,k1,he1,c1⟩:=HV.out.cell (show i<zs.length by omega);obtain⟨b2,o2,k2,he2,c2⟩:=HV.out.cell (show j<zs.length by omega);subst he1;simp only [Value.slice.injEq,Option.some.injEq,Addr.mk.injEq] at he2;obtain⟨⟨rfl,rfl,_⟩,_,rfl⟩:=he2;obtain⟨X,hX⟩:∃X,zs.getD i 0=X:=⟨_,rfl⟩
 obtain⟨Y,hY⟩:∃Y,zs.getD j 0=Y:=⟨_,rfl⟩
 have e1:wtOf zs (i:Int)=X:=by unfold wtOf;rw [Int.toNat_natCast];exact hX
 have e2:wtOf zs (j:Int)=Y:=by unfold wtOf;rw [Int.toNat_natCast];exact hY
 rw [e1,e2];rw [hX] at c1;rw [hY] at c2;clear hX hY e1 e2 hx0 hy0;go_enter Tryz.func310,Tryz.ntmps310;go_wp2_with fail
 go_quiet ((go_at_call 311;exact Calls.quiet_of_same (Zjz X Y _)))
 go_wp2_with fail;go_ret;exact⟨rfl,_,rfl⟩
theorem RowD.congr {w:World} {g n:Nat} {d e:Row} (h:RowD w g n d) (he:∀i,i<n->d i=e i):RowD w g n e:=by
 unfold RowD at *;have:(List.range n).map d=(List.range n).map e:=List.map_congr_left (fun i hi=>he i (List.mem_range.1 hi));rw [<-this];exact h
theorem RowD.made (w:World) (n:Nat):RowD (w.alloc (.cells (madeCells #[Value.int .i64 0] n) 3)) w.heap.size n (fun _=>0):=by
 have:=RowI.made w n;unfold RowD
 have e:List.replicate n (0:Int)=(List.range n).map (fun _=>0):=by
  apply List.ext_getElem
  ·simp
  ·intro j h1 h2;simp
 rw [<-e];exact this
def ByP (zs:List Int) (v:Value) (w w':World):Prop:=∃(g:Nat) (D:Row),v=.slice (some ⟨g,0,none⟩) zs.length zs.length/\w.heap.size<=g/\RowD w' g zs.length D/\Blk (wtOf zs) D 0 zs.length/\Below w.heap.size w w'
theorem Zh9 (v:Value) (zs:List Int) (w:World) (hv:IsInts w v zs) (hz:zs.length<=100000) :
  Calls Tryz.prog 302 #[v] w fun e w'=>∃r,e=.returned r/\ByP zs r w w':=by
 have HV0:=zh hv;obtain⟨a,cap,rfl,_⟩:=hv;obtain⟨n,hn⟩:∃n,zs.length=n:=⟨_,rfl⟩
 have HN:=zh hn;obtain⟨wA,hwA⟩:∃wA,w.alloc (.cells #[.slice a n cap] 79)=wA:=⟨_,rfl⟩
 have hs1:wA.heap.size=w.heap.size+1:=by rw [<-hwA];simp
 have hbx:wA.cell? ⟨w.heap.size,0,none⟩=some (.slice a n cap):=by rw [<-hwA];simp
 have HVA:Hid (IsInts wA (.slice a n cap) zs):=zh (by rw [<-hwA,<-hn];exact HV0.out.below ((Below.refl _ w).alloc (Nat.le_refl _) _));have HB1:Hid (Below w.heap.size w wA):=zh (by rw [<-hwA];exact(Below.refl _ w).alloc (Nat.le_refl _) _);have HWA:=zh hwA;obtain⟨g,hg⟩:∃g,w.heap.size+1=g:=⟨_,rfl⟩
 have hmk:=Za2 n (by omega) (w.alloc (.cells #[.slice a n cap] 79));have hmade:=RowD.made (w.alloc (.cells #[.slice a n cap] 79)) n;have hs2:(w.alloc (.cells #[.slice a n cap] 79)).heap.size=g:=by rw [<-hg];simp
 rw [hs2] at hmk hmade;have HR0:=zh hmade;have HBX:=zh hbx;have HG:Hid (wA.heap.size=g):=zh (by rw [hs1];exact hg);have HG2:Hid (w.heap.size+1=g):=zh hg;have hb0:Hid (Below g wA ((w.alloc (.cells #[.slice a n cap] 79)).alloc (.cells (madeCells #[Value.int .i64 0] n) 3))):=zh (by rw [hwA,<-HG.out];exact(Below.refl _ wA).alloc (Nat.le_refl _) _);rw [hn] at hz ⊢;clear hwA hn hbx hmade hs1 hg;go_enter Tryz.func302,Tryz.ntmps302;go_wp2_with fail;generalize (w.alloc (.cells #[.slice a n cap] 79)).alloc (.cells (madeCells #[Value.int .i64 0] n) 3)=w1 at *;go_wp2_with fail
 go_loopw [10] (fun i wr=>∃k:Nat,k<=n/\i=.int .i64 k/\RowD wr g n (fun j=>if j<k then(j:Int) else 0)/\Below g wA wr) (fun i _=>n-(intOf i).toNat)
 case atStart=>exact⟨0,Nat.zero_le _,rfl,HR0.out.congr (fun j _=>by simp),hb0.out⟩
 case round=>
  obtain⟨k,hk,rfl,hR,hB⟩:=hrel;have HR:=zh hR;have HB:=zh hB;clear hR hB;by_cases hlk:k<n
  ·have hki:(k:Int)<(n:Int):=by omega
   obtain⟨c1,f1⟩:=HR.out.cell hlk;go_wp2_with fail;go_roundw
   case rel=>exact⟨k+1,by omega,by go_num,(HR.out.set hlk k).congr (fun j _=>by
    by_cases e:j=k
    ·subst e;simp
    ·have:(j<k+1)=(j<k):=by apply propext;omega
     simp [e,this]),HB.out.setCell (p:=⟨g,k,none⟩) (Nat.le_refl _) _⟩
   case measure=>simp [intOf];omega
  ·have hki:¬(k:Int)<(n:Int):=by omega
   obtain rfl:n=k:=by omega
   have HRF:Hid (RowD wr g n (fun j=>(j:Int))):=zh (HR.out.congr (fun j hj=>by simp [hj]))
   have hcmp:Hid (CmpF 310 #[.pointer (some ⟨w.heap.size,0,none⟩)] g n (wtOf zs) (Below g wA)):=zh ⟨enters_of Tryz.func310 (by kernel_rfl) rfl,
    fun W W' h ht=>⟨ht.os.trans h.os,ht.tape.trans h.tape,ht.output.trans h.output,Nat.le_trans h.size ht.size,fun i hi=>(ht.block i (by have:=h.size;have:=HG.out;omega) (fun e=>by have e':i=g:=e;omega)).trans (h.block i hi)⟩,
    fun W x y hI hx0 hx hy0 hy=>by
     have hgw:=HG.out;have hIn:IsInts W (.slice a n cap) zs:=HVA.out.below (by rw [hgw];exact hI);have hcl:W.cell? ⟨w.heap.size,0,none⟩=some (.slice a n cap):=(hI.cell (p:=⟨w.heap.size,0,none⟩) (by show w.heap.size<g;have:=HG2.out;omega)).trans HBX.out;exact Zp0 w.heap.size (.slice a n cap) zs W x y hcl hIn (by rw [HN.out];exact hz) hx0 (by rw [HN.out];exact hx) hy0 (by rw [HN.out];exact hy)⟩
   go_wp2_with fail;refine(Zf4 hcmp.out hz wr HRF.out HB.out).mono ?_;rintro e w' ⟨rfl,⟨D,hD,hBlk⟩,hT⟩;have HD:=zh hD;have HBL:=zh hBlk;have HT:=zh hT;clear hD hBlk hT;go_wp2_with fail;go_ret;have hn:=HN.out;have hg2:=HG2.out;refine⟨.slice (some ⟨g,0,none⟩) n n,rfl,g,D,by rw [hn],by omega,by rw [hn];exact HD.out,by rw [hn];exact HBL.out,?_⟩;exact(HB1.out.trans (HB.out.mono (by omega))).trans (HT.out.below (B:=w.heap.size) (by have:=HB.out.size;have:=HG.out;omega) (fun i hi=>by have e':i=g:=hi;omega))
theorem Zla {k:IntKind} {a b:Int} (h:a=b):Ending.returned (.int k a)=.returned (.int k b):=by rw [h]
def ArrD (t:TypeId) (w:World) (b N:Nat) (d:Row):Prop:=w.heap[b]?=some (.cells (((List.range N).map d).map iv64).toArray t (0,0))
theorem ArrD.cell {t:TypeId} {w:World} {g n:Nat} {d:Row} (h:ArrD t w g n d) {i:Nat} (hi:i<n):w.cell? ⟨g,i,none⟩=some (.int .i64 (d i))/\w.frozen? ⟨g,i,none⟩=false:=by
 refine⟨?_,frozen_of_row _ _ _ _ _ h⟩;rw [cell_of_row _ _ _ _ _ _ h,List.getElem?_toArray,List.getElem?_map,List.getElem?_map,List.getElem?_range hi];rfl
theorem ArrD.set {t:TypeId} {w:World} {g n:Nat} {d:Row} (h:ArrD t w g n d) {i:Nat} (hi:i<n) (x:Int):ArrD t (w.setCell ⟨g,i,none⟩ (.int .i64 x)) g n (fun k=>if k=i then x else d k):=by
 have:=heap_setCell_same w g i _ _ (.int .i64 x) h;unfold ArrD;rw [this];congr 2;apply Array.toList_inj.1;rw [Array.toList_setIfInBounds];apply List.ext_getElem
 ·simp
 ·intro j h1 h2;rw [List.getElem_set];by_cases e:i=j
  ·subst e;simp [iv64]
  ·rw [if_neg e];have:¬j=i:=fun h=>e h.symm
   simp [this]
theorem ArrD.other {t:TypeId} {w w':World} {g n:Nat} {d:Row} (h:ArrD t w g n d) {S:Nat->Prop} (ht:Touch S w w') (hS:¬S g):ArrD t w' g n d:=
 (ht.block g (Array.getElem?_eq_some_iff.1 h).1 hS).trans h
def Box (w:World) (b:Nat) (x:Int):Prop:=w.heap[b]?=some (.cells #[.int .i64 x] 3 (0,0))
theorem Box.cell {w:World} {b:Nat} {x:Int} (h:Box w b x):w.cell? ⟨b,0,none⟩=some (.int .i64 x)/\w.frozen? ⟨b,0,none⟩=false:=⟨by rw [cell_of_row _ _ _ _ _ _ h];rfl,frozen_of_row _ _ _ _ _ h⟩
theorem Box.set {w:World} {b:Nat} {x:Int} (h:Box w b x) (y:Int):Box (w.setCell ⟨b,0,none⟩ (.int .i64 y)) b y:=by
 have:=heap_setCell_same w b 0 _ _ (.int .i64 y) h;unfold Box;rw [this];rfl
theorem Box.other {w w':World} {b:Nat} {x:Int} (h:Box w b x) {S:Nat->Prop} (ht:Touch S w w') (hS:¬S b):Box w' b x:=(ht.block b (Array.getElem?_eq_some_iff.1 h).1 hS).trans h
structure At where
 W:Nat
 A:Nat
 nb:Nat
 ob:Nat
 sb:Nat
 jb:Nat
 xb:Nat
 g:Nat
def At.Apart (p:At):Prop:=[p.W,p.A,p.nb,p.ob,p.sb,p.jb,p.xb,p.g].Pairwise (·≠·)
structure Queue (p:At) (n:Nat) (D wf ab:Row) (S J K:Nat) (w:World):Prop where
 hW:ArrD 340 w p.W 515 wf
 hA:ArrD 340 w p.A 515 ab
 hn:Box w p.nb n
 ho:w.heap[p.ob]?=some (.cells #[.slice (some ⟨p.g,0,none⟩) n n] 79 (0,0))
 hs:Box w p.sb S
 hj:Box w p.jb J
 hx:Box w p.xb K
 hg:RowD w p.g n D
 apart:p.Apart
def At.caps (p:At):Array Value:=#[.pointer (some ⟨p.jb,0,none⟩),.pointer (some ⟨p.xb,0,none⟩),.pointer (some ⟨p.sb,0,none⟩),.pointer (some ⟨p.nb,0,none⟩),.pointer (some ⟨p.W,0,none⟩),.pointer (some ⟨p.ob,0,none⟩)]
section
variable {p : At} {n : Nat} {D wf ab : Row} {S J K : Nat} {w : World}
theorem Queue.touch {w':World} (h:Queue p n D wf ab S J K w) (ht:Touch (fun _=>False) w w'):Queue p n D wf ab S J K w':=
 ⟨h.hW.other ht (fun h=>h),h.hA.other ht (fun h=>h),h.hn.other ht (fun h=>h),(ht.block _ (Array.getElem?_eq_some_iff.1 h.ho).1 (fun h=>h)).trans h.ho,h.hs.other ht (fun h=>h),h.hj.other ht (fun h=>h),h.hx.other ht (fun h=>h),RowD.other h.hg ht (fun h=>h),h.apart⟩
theorem Queue.drewN (h:Queue p n D wf ab S J K w) (k:Nat):Queue p n D wf ab S J K (w.drewN k):=h.touch (Zad _ _ _)
theorem Queue.keep {b:Nat} {w':World} (h:Queue p n D wf ab S J K w) (ht:Touch (·=b) w w') :
  (p.W≠b->ArrD 340 w' p.W 515 wf)/\(p.A≠b->ArrD 340 w' p.A 515 ab)/\(p.nb≠b->Box w' p.nb n)/\(p.ob≠b->w'.heap[p.ob]?=some (.cells #[.slice (some ⟨p.g,0,none⟩) n n] 79 (0,0))) /\
  (p.sb≠b->Box w' p.sb S)/\(p.jb≠b->Box w' p.jb J)/\(p.xb≠b->Box w' p.xb K)/\(p.g≠b->RowD w' p.g n D):=by
 obtain⟨hW,hA,hn,ho,hs,hj,hx,hg,hap⟩:=h;refine⟨fun e=>hW.other ht e,fun e=>hA.other ht e,fun e=>hn.other ht e,fun e=>?_,fun e=>hs.other ht e,fun e=>hj.other ht e,fun e=>hx.other ht e,fun e=>RowD.other hg ht e⟩;exact(ht.block p.ob (Array.getElem?_eq_some_iff.1 ho).1 e).trans ho
theorem At.Apart.all (ha:p.Apart):(p.W≠p.A/\p.W≠p.nb/\p.W≠p.ob/\p.W≠p.sb/\p.W≠p.jb/\p.W≠p.xb/\p.W≠p.g)/\(p.A≠p.nb/\p.A≠p.ob/\p.A≠p.sb/\p.A≠p.jb/\p.A≠p.xb/\p.A≠p.g) /\
  (p.nb≠p.ob/\p.nb≠p.sb/\p.nb≠p.jb/\p.nb≠p.xb/\p.nb≠p.g)/\(p.ob≠p.sb/\p.ob≠p.jb/\p.ob≠p.xb/\p.ob≠p.g)/\(p.sb≠p.jb/\p.sb≠p.xb/\p.sb≠p.g)/\(p.jb≠p.xb/\p.jb≠p.g)/\p.xb≠p.g:=by
 simp only [At.Apart,List.pairwise_cons,List.mem_cons,List.not_mem_nil,or_false,forall_eq_or_imp,forall_eq] at ha;obtain⟨a1,a2,a3,a4,a5,a6,a7,_⟩:=ha;exact⟨a1,a2,a3,a4,a5,a6,a7⟩
theorem Queue.single (h:Queue p n D wf ab S J K w) (x:Nat):Queue p n D wf ab x J K (w.setCell ⟨p.sb,0,none⟩ (.int .i64 x)):=by
 obtain⟨⟨a1,a2,a3,a4,a5,a6,a7⟩,⟨b2,b3,b4,b5,b6,b7⟩,⟨c3,c4,c5,c6,c7⟩,⟨d4,d5,d6,d7⟩,⟨e5,e6,e7⟩,⟨f6,f7⟩,g7⟩:=h.apart.all;have ht:Touch (·=p.sb) w (w.setCell ⟨p.sb,0,none⟩ (.int .i64 x)):=Zaa (Touch.refl _ w);obtain⟨kW,kA,kn,ko,ks,kj,kx,kg⟩:=h.keep ht;exact⟨kW a4,kA b4,kn c4,ko d4,h.hs.set x,kj (Ne.symm e5),kx (Ne.symm e6),kg (Ne.symm e7),h.apart⟩
theorem Queue.joined (h:Queue p n D wf ab S J K w) (x:Nat):Queue p n D wf ab S x K (w.setCell ⟨p.jb,0,none⟩ (.int .i64 x)):=by
 obtain⟨⟨a1,a2,a3,a4,a5,a6,a7⟩,⟨b2,b3,b4,b5,b6,b7⟩,⟨c3,c4,c5,c6,c7⟩,⟨d4,d5,d6,d7⟩,⟨e5,e6,e7⟩,⟨f6,f7⟩,g7⟩:=h.apart.all;have ht:Touch (·=p.jb) w (w.setCell ⟨p.jb,0,none⟩ (.int .i64 x)):=Zaa (Touch.refl _ w);obtain⟨kW,kA,kn,ko,ks,kj,kx,kg⟩:=h.keep ht;exact⟨kW a5,kA b5,kn c5,ko d5,ks e5,h.hj.set x,kx (Ne.symm f6),kg (Ne.symm f7),h.apart⟩
theorem Queue.next (h:Queue p n D wf ab S J K w) (x:Nat):Queue p n D wf ab S J x (w.setCell ⟨p.xb,0,none⟩ (.int .i64 x)):=by
 obtain⟨⟨a1,a2,a3,a4,a5,a6,a7⟩,⟨b2,b3,b4,b5,b6,b7⟩,⟨c3,c4,c5,c6,c7⟩,⟨d4,d5,d6,d7⟩,⟨e5,e6,e7⟩,⟨f6,f7⟩,g7⟩:=h.apart.all;have ht:Touch (·=p.xb) w (w.setCell ⟨p.xb,0,none⟩ (.int .i64 x)):=Zaa (Touch.refl _ w);obtain⟨kW,kA,kn,ko,ks,kj,kx,kg⟩:=h.keep ht;exact⟨kW a6,kA b6,kn c6,ko d6,ks e6,kj f6,h.hx.set x,kg (Ne.symm g7),h.apart⟩
theorem Queue.weight (h:Queue p n D wf ab S J K w) {i:Nat} (hi:i<515) (x:Int):Queue p n D (fun k=>if k=i then x else wf k) ab S J K (w.setCell ⟨p.W,i,none⟩ (.int .i64 x)):=by
 obtain⟨⟨a1,a2,a3,a4,a5,a6,a7⟩,⟨b2,b3,b4,b5,b6,b7⟩,⟨c3,c4,c5,c6,c7⟩,⟨d4,d5,d6,d7⟩,⟨e5,e6,e7⟩,⟨f6,f7⟩,g7⟩:=h.apart.all;have ht:Touch (·=p.W) w (w.setCell ⟨p.W,i,none⟩ (.int .i64 x)):=Zaa (Touch.refl _ w);obtain⟨kW,kA,kn,ko,ks,kj,kx,kg⟩:=h.keep ht;exact⟨h.hW.set hi x,kA (Ne.symm a1),kn (Ne.symm a2),ko (Ne.symm a3),ks (Ne.symm a4),kj (Ne.symm a5),kx (Ne.symm a6),kg (Ne.symm a7),h.apart⟩
theorem Queue.above (h:Queue p n D wf ab S J K w) {i:Nat} (hi:i<515) (x:Int):Queue p n D wf (fun k=>if k=i then x else ab k) S J K (w.setCell ⟨p.A,i,none⟩ (.int .i64 x)):=by
 obtain⟨⟨a1,a2,a3,a4,a5,a6,a7⟩,⟨b2,b3,b4,b5,b6,b7⟩,⟨c3,c4,c5,c6,c7⟩,⟨d4,d5,d6,d7⟩,⟨e5,e6,e7⟩,⟨f6,f7⟩,g7⟩:=h.apart.all;have ht:Touch (·=p.A) w (w.setCell ⟨p.A,i,none⟩ (.int .i64 x)):=Zaa (Touch.refl _ w);obtain⟨kW,kA,kn,ko,ks,kj,kx,kg⟩:=h.keep ht;exact⟨kW a1,h.hA.set hi x,kn (Ne.symm b2),ko (Ne.symm b3),ks (Ne.symm b4),kj (Ne.symm b5),kx (Ne.symm b6),kg (Ne.symm b7),h.apart⟩
def Took (p:At) (n:Nat) (D wf ab:Row) (S J K:Nat) (w w':World) (t:Int):Prop:=
 (((J=K/\S<n)\/(S<n/\wf (D S).toNat<=wf J))/\t=D S/\Queue p n D wf ab (S+1) J K w'/\Touch (·=p.sb) w w') \/
 (¬J=K/\¬(S<n/\wf (D S).toNat<=wf J)/\t=(J:Int)/\Queue p n D wf ab S (J+1) K w'/\Touch (·=p.jb) w w')
theorem Zia (h:Queue p n D wf ab S J K w) (hn:n<=258) (hS:S<=n) (hJK:J<=K) (hK:K<=515) (hD:Rng n D) (h0:J=K->S<n) :
  Calls Tryz.prog 303 p.caps w fun e w'=>∃t,e=.returned (.int .i64 t)/\Took p n D wf ab S J K w w' t:=by
 have HQ:=zh h;obtain⟨cj,fj⟩:=h.hj.cell;obtain⟨cx,fx⟩:=h.hx.cell;obtain⟨cs,fs⟩:=h.hs.cell;obtain⟨cn,fn⟩:=h.hn.cell;have co:w.cell? ⟨p.ob,0,none⟩=some (.slice (some ⟨p.g,0,none⟩) n n):=by rw [cell_of_row _ _ _ _ _ _ h.ho];rfl
 have take_s:Hid (∀s:Int,S<n->D S=s->((J=K/\S<n)\/(S<n/\wf (D S).toNat<=wf J))->∀q,Took p n D wf ab S J K w ((w.drewN q).setCell ⟨p.sb,0,none⟩ (.int .i64 ((S+1:Nat):Int))) s):=zh (fun s h1 h2 h3 q=>
  Or.inl ⟨h3,h2.symm,(HQ.out.drewN q).single (S+1),Zaa (Zad _ _ q)⟩)
 have take_j:Hid (¬J=K->¬(S<n/\wf (D S).toNat<=wf J)->∀q,Took p n D wf ab S J K w ((w.drewN q).setCell ⟨p.jb,0,none⟩ (.int .i64 ((J+1:Nat):Int))) (J:Int)):=zh (fun h1 h2 q=>
  Or.inr ⟨h1,h2,rfl,(HQ.out.drewN q).joined (J+1),Zaa (Zad _ _ q)⟩)
 have hcs:Hid (∀q (x:Int),((w.drewN q).setCell ⟨p.sb,0,none⟩ (.int .i64 x)).cell? ⟨p.ob,0,none⟩=some (.slice (some ⟨p.g,0,none⟩) n n)/\((w.drewN q).setCell ⟨p.sb,0,none⟩ (.int .i64 x)).cell? ⟨p.sb,0,none⟩=some (.int .i64 x)):=zh (fun q x=>by
  have hap:=HQ.out.apart.all;have ht:Touch (·=p.sb) w ((w.drewN q).setCell ⟨p.sb,0,none⟩ (.int .i64 x)):=Zaa (Zad _ _ q);refine⟨?_,((HQ.out.drewN q).hs.set x).cell.1⟩;rw [cell_of_row _ _ _ _ _ _ ((ht.block _ (Array.getElem?_eq_some_iff.1 HQ.out.ho).1 (fun e=>by have e':p.ob=p.sb:=e;omega)).trans HQ.out.ho)];rfl)
 have hrow:S<n->∃s:Nat,D S=(s:Int)/\s<n/\w.cell? ⟨p.g,S,none⟩=some (.int .i64 (s:Int))/\w.cell? ⟨p.W,s,none⟩=some (.int .i64 (wf s)):=fun hSn=>by
  obtain⟨h1,h2⟩:=hD S hSn;obtain⟨s,hs⟩:=Int.eq_ofNat_of_zero_le h1;have h3:=(h.hg.cell hSn).1;rw [hs] at h3 h2;exact⟨s,hs,by omega,h3,(h.hW.cell (show s<515 by omega)).1⟩
 have HR:=zh hrow;have HWC:Hid (∀i,i<515->w.cell? ⟨p.W,i,none⟩=some (.int .i64 (wf i))):=zh (fun i hi=>(h.hW.cell hi).1)
 have hgo:Hid (∀q x,S<n->∀s:Int,D S=s->((w.drewN q).setCell ⟨p.sb,0,none⟩ (.int .i64 x)).cell? ⟨p.g,S,none⟩=some (.int .i64 s)):=zh (fun q x hSn s hs=>by
  have hap:=HQ.out.apart.all;have ht:Touch (·=p.sb) w ((w.drewN q).setCell ⟨p.sb,0,none⟩ (.int .i64 x)):=Zaa (Zad _ _ q);rw [<-hs];exact(RowD.cell (RowD.other HQ.out.hg ht (fun e=>by have e':p.g=p.sb:=e;omega)) hSn).1)
 have hcj:Hid (∀q (x:Int),((w.drewN q).setCell ⟨p.jb,0,none⟩ (.int .i64 x)).cell? ⟨p.jb,0,none⟩=some (.int .i64 x)):=zh (fun q x=>((HQ.out.drewN q).hj.set x).cell.1);have hS1:(S:Int)+1=((S+1:Nat):Int):=by omega
 have hJ1:(J:Int)+1=((J+1:Nat):Int):=by omega
 have HS1:=zh hS1;have HJ1:=zh hJ1;have HH0:=zh h0;clear h hrow hD h0 hS1 hJ1;unfold At.caps;have hSI:(S:Int)+1-1=(S:Int):=by omega
 have hJI:(J:Int)+1-1=(J:Int):=by omega
 by_cases e:J=K
 ·have hSn:=HH0.out e;obtain⟨s,hs1,hs2,c1,c2⟩:=HR.out hSn;have HS:=zh hs1;have HSN:=zh hSn;have hje:((J:Int)==(K:Int))=true:=by rw [beq_iff_eq];omega
  have HE:=zh e;have hSn2:(S:Int)<(n:Int):=by omega
  clear e hs1;go_enter Tryz.func303,Tryz.ntmps303;go_wp2_with fail
  go_quiet (fail)
  have k1:=fun q x=>(hcs.out q x).1
  have k2:=fun q x=>(hcs.out q x).2
  have k3:=fun q x=>hgo.out q x HSN.out _ HS.out
  go_wp2_with fail;go_ret;refine⟨_,rfl,?_⟩;have:=HS1.out;rw [this];exact take_s.out _ HSN.out HS.out (Or.inl ⟨HE.out,HSN.out⟩) _
 ·have hje:((J:Int)==(K:Int))=false:=by rw [beq_eq_false_iff_ne];omega
  have HE:=zh e;have hJ515:J<515:=by omega
  have hJ5:(J:Int)<515:=by omega
  have c3:=HWC.out J hJ515;clear e;by_cases hSn:S<n
  ·obtain⟨s,hs1,hs2,c1,c2⟩:=HR.out hSn;have HS:=zh hs1;have HSN:=zh hSn;have hSn2:(S:Int)<(n:Int):=by omega
   have hs5:(s:Int)<515:=by omega
   obtain⟨X,hX⟩:∃X,wf s=X:=⟨_,rfl⟩
   obtain⟨Y,hY⟩:∃Y,wf J=Y:=⟨_,rfl⟩
   rw [hX] at c2;rw [hY] at c3;have HX:=zh hX;have HY:=zh hY;have HW:Hid (wf (D S).toNat=X):=zh (by rw [hs1,Int.toNat_natCast];exact hX);clear hs1 hX hY;by_cases hle:X<=Y
   ·have HLE:=zh hle;go_enter Tryz.func303,Tryz.ntmps303;go_wp2_with fail
    go_quiet (fail)
    have k1:=fun q x=>(hcs.out q x).1
    have k2:=fun q x=>(hcs.out q x).2
    have k3:=fun q x=>hgo.out q x HSN.out _ HS.out
    go_wp2_with fail;go_ret;refine⟨_,rfl,?_⟩;have:=HS1.out;rw [this];exact take_s.out _ HSN.out HS.out (Or.inr ⟨HSN.out,by rw [HW.out,HY.out];exact HLE.out⟩) _
   ·have HLE:=zh hle;have hle2:decide (X<=Y)=false:=by simp only [decide_eq_false_iff_not];exact hle
    go_enter Tryz.func303,Tryz.ntmps303;go_wp2_with fail
    go_quiet (fail)
    have k1:=fun q x=>hcj.out q x
    go_wp2_with fail;go_ret;refine⟨_,Zla (show _=(J:Int) by omega),?_⟩;have:=HJ1.out;rw [this];exact take_j.out HE.out (fun h=>absurd h.2 (by rw [HW.out,HY.out];have:=HLE.out;omega)) _
  ·have hSn2:decide ((S:Int)<(n:Int))=false:=by simp only [decide_eq_false_iff_not];omega
   have HSN:=zh hSn;go_enter Tryz.func303,Tryz.ntmps303;go_wp2_with fail
   go_quiet (fail)
   have k1:=fun q x=>hcj.out q x
   go_wp2_with fail;go_ret;refine⟨_,Zla (show _=(J:Int) by omega),?_⟩;have:=HJ1.out;rw [this];exact take_j.out HE.out (fun h=>HSN.out h.1) _
end
end
section
namespace HufM
open Go.RowKit SymM
def tr (wf:Row) (t:Nat):Tr:=((wf t).toNat,t)
def qA (wf D:Row) (n S:Nat):List Tr:=(List.range (n-S)).map fun i=>tr wf (D (S+i)).toNat
def qB (wf:Row) (K J:Nat):List Tr:=(List.range (K-J)).map fun i=>tr wf (J+i)
theorem Zc1 {α:Type} (f:Nat->α) (m:Nat):(List.range (m+1)).map f=f 0::(List.range m).map (fun i=>f (i+1)):=by
 rw [List.range_succ_eq_map,List.map_cons,List.map_map];rfl
theorem ZnG (wf D:Row) {n S:Nat} (h:S<n):qA wf D n S=tr wf (D S).toNat::qA wf D n (S+1):=by
 unfold qA;rw [show n-S=(n-(S+1))+1 by omega,Zc1];congr 1;apply List.map_congr_left;intro i _;rw [show S+(i+1)=S+1+i by omega]
theorem ZrE (wf D:Row) {n S:Nat} (h:n<=S):qA wf D n S=[]:=by
 unfold qA;rw [show n-S=0 by omega];rfl
theorem ZjA (wf:Row) {K J:Nat} (h:J<K):qB wf K J=tr wf J::qB wf K (J+1):=by
 unfold qB;rw [show K-J=(K-(J+1))+1 by omega,Zc1];congr 1;apply List.map_congr_left;intro i _;rw [show J+(i+1)=J+1+i by omega]
theorem ZnH (wf:Row) {K J:Nat} (h:K<=J):qB wf K J=[]:=by
 unfold qB;rw [show K-J=0 by omega];rfl
theorem Zr8 (wf:Row) {K J:Nat} (h:J<=K):qB wf (K+1) J=qB wf K J++[tr wf K]:=by
 unfold qB;rw [show K+1-J=(K-J)+1 by omega,List.range_succ,List.map_append,List.map_cons,List.map_nil,show J+(K-J)=K by omega]
def TookM (n:Nat) (D wf:Row) (S J K:Nat) (t:Int) (S1 J1:Nat):Prop:=
 (((J=K/\S<n)\/(S<n/\wf (D S).toNat<=wf J))/\t=D S/\S1=S+1/\J1=J) \/
 (¬J=K/\¬(S<n/\wf (D S).toNat<=wf J)/\t=(J:Int)/\S1=S/\J1=J+1)
theorem Zfc {n:Nat} {D wf:Row} {S J K:Nat} {t:Int} {S1 J1:Nat} (hS:S<=n) (hJK:J<=K) (h0:J=K->S<n) (hD:∀k,k<n->0<=D k/\D k<(n:Int)) (hnJ:n<=J)
  (hpos:∀i,i<K->0<=wf i) (h:TookM n D wf S J K t S1 J1) :
  ∃t',t=((t':Nat):Int)/\t'<K/\pick (qA wf D n S) (qB wf K J)=some (tr wf t',qA wf D n S1,qB wf K J1)/\S1<=n/\J1<=K/\S<=S1/\J<=J1/\S1+J1=S+J+1 /\
   ((S1=S+1/\J1=J/\(D S).toNat=t'/\S<n)\/(S1=S/\J1=J+1/\t'=J/\J<K)):=by
 rcases h with⟨hc,rfl,hs,hj⟩|⟨h1,h2,rfl,hs,hj⟩
 ·obtain rfl:=hs.symm;obtain rfl:=hj.symm;have hSn:S<n:=by rcases hc with h|h;exact h.2;exact h.1
  have hd:=hD S hSn;refine⟨(D S).toNat,by omega,by omega,?_,hSn,hJK,by omega,by omega,by omega,Or.inl ⟨rfl,rfl,rfl,hSn⟩⟩;rw [ZnG wf D hSn];by_cases e:J=K
  ·rw [ZnH wf (by omega)];rfl
  ·rw [ZjA wf (show J<K by omega)];have hle:wf (D S).toNat<=wf J:=by rcases hc with h|h;exact absurd h.1 e;exact h.2
   have:=hpos (D S).toNat (by omega);simp only [pick];rw [if_pos (show(tr wf (D S).toNat).1<=(tr wf J).1 by unfold tr;simp only;omega)]
 ·obtain rfl:=hs.symm;obtain rfl:=hj.symm;refine⟨J,rfl,by omega,?_,hS,by omega,by omega,by omega,by omega,Or.inr ⟨rfl,rfl,rfl,by omega⟩⟩;rw [ZjA wf (show J<K by omega)];by_cases hSn:S<n
  ·rw [ZnG wf D hSn];have hd:=hD S hSn;have p1:=hpos (D S).toNat (by omega);have p2:=hpos J (by omega);have h3:¬wf (D S).toNat<=wf J:=fun h=>h2 ⟨hSn,h⟩
   simp only [pick];rw [if_neg (show ¬(tr wf (D S).toNat).1<=(tr wf J).1 by unfold tr;simp only;omega)]
  ·rw [ZrE wf D (by omega)];rfl
structure JS (zs:List Int) (D wf ab:Row) (d:Nat->Nat) (S J K:Nat):Prop where
 run0:Run zs.length (ini zs) d
 rng:∀k,k<zs.length->0<=D k/\D k<(zs.length:Int)
 all:∀t,t<zs.length->∃i,i<zs.length/\D i=(t:Int)
 hS:S<=zs.length
 hJ:zs.length<=J
 hJK:J<=K
 hK:K+1<=2*zs.length
 cnt:2*K=zs.length+S+J
 pos:∀i,i<K->0<=wf i
 run:Run K (qA wf D zs.length S++qB wf K J) d
 two:Two zs.length K (qA wf D zs.length S) (qB wf K J)
 tot:sumN wt (qA wf D zs.length S++qB wf K J)=sumN wt (ini zs)
 doneA:∀i,i<S->∃u,ab (D i).toNat=((u:Nat):Int)/\(D i).toNat<u/\u<K/\d (D i).toNat=d u+1
 doneB:∀t,zs.length<=t->t<J->∃u,ab t=((u:Nat):Int)/\t<u/\u<K/\d t=d u+1
theorem Zp1 {wf wf' D:Row} {n S:Nat} (hD:∀k,k<n->0<=D k/\D k<(n:Int)) (h:∀i,i<n->wf' i=wf i):qA wf' D n S=qA wf D n S:=by
 unfold qA;apply List.map_congr_left;intro i hi;have:=List.mem_range.1 hi;have hd:=hD (S+i) (by omega);unfold tr;rw [h _ (by omega)]
theorem Zp2 {wf wf':Row} {K J:Nat} (h:∀i,i<K->wf' i=wf i):qB wf' K J=qB wf K J:=by
 unfold qB;apply List.map_congr_left;intro i hi;have:=List.mem_range.1 hi;unfold tr;rw [h _ (by omega)]
theorem JS.step {zs:List Int} {D wf ab:Row} {d:Nat->Nat} {S J K S1 J1 S2 J2:Nat} {a b:Int} (h:JS zs D wf ab d S J K) (hK:K+1<2*zs.length)
  (h1:TookM zs.length D wf S J K a S1 J1) (h2:TookM zs.length D wf S1 J1 K b S2 J2) :
  ∃x y:Nat,a=x/\b=y/\x<K/\y<K/\x≠y/\(wf x).toNat+(wf y).toNat<=sumN wt (ini zs) /\
   JS zs D (fun k=>if k=K then wf x+wf y else wf k) (fun k=>if k=y then(K:Int) else(fun k=>if k=x then(K:Int) else ab k) k) d S2 J2 (K+1):=by
 obtain⟨run0,rng,all,hS,hJ,hJK,hK1,cnt,pos,run,two,tot,doneA,doneB⟩:=h;obtain⟨x,ex,hxK,p1,q1,q2,q3,q4,q5,q6⟩:=Zfc hS hJK (fun e=>by omega) rng hJ pos h1;obtain⟨y,ey,hyK,p2,r1,r2,r3,r4,r5,r6⟩:=Zfc q1 q2 (fun e=>by omega) rng (by omega) pos h2;obtain⟨t2,hp,hxy,hr⟩:=Two.join two (by omega) p1 p2;obtain⟨run',dx,dy⟩:=run.next hp hxy hr;have hne:x≠y:=fun e=>by subst e;unfold lt tr at hxy;simp only at hxy;omega
 have hsum:sumN wt (qA wf D zs.length S++qB wf K J)=(wf x).toNat+((wf y).toNat+sumN wt (qA wf D zs.length S2++qB wf K J2)):=by
  rw [Za1 wt hp];rfl
 have px:=pos x hxK;have py:=pos y hyK;have ew:(wf x+wf y).toNat=(wf x).toNat+(wf y).toNat:=by omega
 have eA:qA (fun k=>if k=K then wf x+wf y else wf k) D zs.length S2=qA wf D zs.length S2:=Zp1 rng (fun i hi=>if_neg (by omega))
 have eB:qB (fun k=>if k=K then wf x+wf y else wf k) (K+1) J2=qB wf K J2++[((wf x).toNat+(wf y).toNat,K)]:=by
  rw [Zr8 _ r2,Zp2 (wf:=wf) (fun i hi=>if_neg (by omega))];unfold tr;simp only [if_true];rw [ew]
 have hdx:d x=d K+1:=dx;have hdy:d y=d K+1:=dy;refine⟨x,y,ex,ey,hxK,hyK,hne,by omega,⟨run0,rng,all,r1,by omega,by omega,by omega,by omega,fun i hi=>?_,?_,?_,?_,fun i hi=>?_,fun t ht1 ht2=>?_⟩⟩
 ·show(0:Int)<=if i=K then wf x+wf y else wf i
  split
  ·omega
  ·exact pos i (by omega)
 ·rw [eA,eB,<-List.append_assoc];exact run'.perm (List.perm_append_singleton _ _).symm
 ·rw [eA,eB];exact t2
 ·rw [eA,eB,<-List.append_assoc,ZaL,<-tot,hsum];simp only [sumN,wt];omega
 ·have hd:=rng i (by omega);by_cases e1:(D i).toNat=y
  ·exact⟨K,by simp only [e1,if_true],by omega,by omega,by rw [e1];exact hdy⟩
  ·by_cases e2:(D i).toNat=x
   ·exact⟨K,by simp only [e2,if_true];split<;>rfl,by omega,by omega,by rw [e2];exact hdx⟩
   ·have hi2:i<S:=by
     rcases Nat.lt_or_ge i S with g|g
     ·exact g
     ·exfalso
      rcases q6 with⟨a1,a2,a3,a4⟩|⟨a1,a2,a3,a4⟩
      ·rcases r6 with⟨b1,b2,b3,b4⟩|⟨b1,b2,b3,b4⟩
       ·rcases Nat.lt_or_ge i (S+1) with g2|g2
        ·have:i=S:=by omega
         subst this;exact e2 a3
        ·have:i=S1:=by omega
         subst this;exact e1 b3
       ·have:i=S:=by omega
        subst this;exact e2 a3
      ·rcases r6 with⟨b1,b2,b3,b4⟩|⟨b1,b2,b3,b4⟩
       ·have:i=S1:=by omega
        subst this;exact e1 b3
       ·omega
    obtain⟨u,u1,u2,u3,u4⟩:=doneA i hi2;exact⟨u,by simp only [e1,e2,if_false];exact u1,u2,by omega,u4⟩
 ·by_cases e1:t=y
  ·subst e1;exact⟨K,by simp only [if_true],by omega,by omega,hdy⟩
  ·by_cases e2:t=x
   ·subst e2;exact⟨K,by simp only [if_true];split<;>rfl,by omega,by omega,hdx⟩
   ·have ht3:t<J:=by
     rcases Nat.lt_or_ge t J with g|g
     ·exact g
     ·exfalso
      rcases q6 with⟨a1,a2,a3,a4⟩|⟨a1,a2,a3,a4⟩
      ·rcases r6 with⟨b1,b2,b3,b4⟩|⟨b1,b2,b3,b4⟩<;>omega
      ·rcases r6 with⟨b1,b2,b3,b4⟩|⟨b1,b2,b3,b4⟩<;>omega
    obtain⟨u,u1,u2,u3,u4⟩:=doneB t ht1 ht3;exact⟨u,by simp only [e1,e2,if_false];exact u1,u2,by omega,u4⟩
def JoinP (zs:List Int) (ab:Row):Prop:=∃d,Run zs.length (ini zs) d/\d (2*zs.length-2)=0/\∀t,t<2*zs.length-2->∃u:Nat,ab t=(u:Int)/\t<u/\u<=2*zs.length-2/\d t=d u+1
theorem JS.end_ {zs:List Int} {D wf ab:Row} {d:Nat->Nat} {S J K:Nat} (h:JS zs D wf ab d S J K) (hn2:2<=zs.length) (hK:2*zs.length<=K+1):JoinP zs ab:=by
 obtain⟨run0,rng,all,hS,hJ,hJK,hK1,cnt,pos,run,two,tot,doneA,doneB⟩:=h
 have hJ2:J<K:=by
  rcases Nat.lt_or_ge J K with g|g
  ·exact g
  ·exfalso
   rcases Nat.lt_or_ge (2*zs.length-2) zs.length with g2|g2
   ·omega
   ·obtain⟨u,u1,u2,u3,u4⟩:=doneB (2*zs.length-2) g2 (by omega);omega
 have hS2:S=zs.length:=by omega
 have e:qA wf D zs.length S++qB wf K J=[tr wf J]:=by
  rw [ZrE wf D (by omega),ZjA wf hJ2,ZnH wf (by omega)];rfl
 rw [e] at run;have h0:=run.end_;refine⟨d,run0,?_,fun t ht=>?_⟩
 ·have:2*zs.length-2=J:=by omega
  rw [this];exact h0
 ·by_cases htn:t<zs.length
  ·obtain⟨i,hi,hd⟩:=all t htn;obtain⟨u,u1,u2,u3,u4⟩:=doneA i (by omega);rw [hd,Int.toNat_natCast] at u1 u2 u4;exact⟨u,u1,u2,by omega,u4⟩
  ·obtain⟨u,u1,u2,u3,u4⟩:=doneB t (by omega) (by omega);exact⟨u,u1,u2,by omega,u4⟩
theorem JS.start {zs:List Int} {D wf ab:Row} (h2:2<=zs.length) (hz:∀z∈zs,0<=z) (hB:Blk (wtOf zs) D 0 zs.length) (hwf:∀i,i<zs.length->wf i=zs.getD i 0) :
  ∃d,JS zs D wf ab d 0 zs.length zs.length:=by
 obtain⟨d,hd⟩:=Run.exists (zs.length-1) zs.length (ini zs) (by rw [Zcb];omega) (Zc5 zs) (fun t ht=>(Za6 ht).1);have rng:∀k,k<zs.length->0<=D k/\D k<(zs.length:Int):=fun k hk=>by have:=hB.mem (Nat.zero_le k) hk;omega
 have hpos:∀i,i<zs.length->0<=wf i:=fun i hi=>by
  rw [hwf i hi,List.getD_eq_getElem?_getD,List.getElem?_eq_getElem hi];exact hz _ (List.getElem_mem hi)
 have eA:qA wf D zs.length 0=(seg D 0 zs.length).map (fun x=>((zs.getD x.toNat 0).toNat,x.toNat)):=by
  unfold qA seg;rw [List.map_map,Nat.sub_zero];apply List.map_congr_left;intro i hi;have hi:=List.mem_range.1 hi;have:=rng (0+i) (by omega);unfold tr;rw [hwf _ (by omega)];rfl
 have eI:ini zs=(seg (fun k=>(k:Int)) 0 zs.length).map (fun x=>((zs.getD x.toNat 0).toNat,x.toNat)):=by
  unfold ini seg;rw [List.map_map];apply List.map_congr_left;intro i _;simp
 have hperm:(qA wf D zs.length 0).Perm (ini zs):=by
  rw [eA,eI];have:=hB.perm;rw [Nat.sub_zero] at this;exact this.map _
 have hsrt:(qA wf D zs.length 0).Pairwise lt:=by
  unfold qA;rw [List.pairwise_map];refine List.pairwise_lt_range.imp_of_mem (fun {i j} hi hj hij=>?_);have hi:=List.mem_range.1 hi;have hj:=List.mem_range.1 hj;have h3:=hB.srt (0+i) (0+j) (by omega) (by omega) (by omega);have r1:=rng (0+i) (by omega);have r2:=rng (0+j) (by omega);have e1:=hwf (D (0+i)).toNat (by omega);have e2:=hwf (D (0+j)).toNat (by omega);have p1:=hpos (D (0+i)).toNat (by omega);have p2:=hpos (D (0+j)).toNat (by omega);unfold L wtOf at h3;unfold lt tr;simp only;omega
 have eB:qB wf zs.length zs.length=[]:=ZnH wf (Nat.le_refl _);refine⟨d,⟨hd,rng,fun t ht=>?_,Nat.zero_le _,Nat.le_refl _,Nat.le_refl _,by omega,by omega,hpos,?_,?_,?_,fun i hi=>by omega,fun t h1 h2=>by omega⟩⟩
 ·have h3:(t:Int)∈seg D 0 (zs.length-0):=hB.perm.mem_iff.2 (ZdY.2 ⟨t,Nat.zero_le _,by omega,rfl⟩);obtain⟨k,h4,h5,h6⟩:=ZdY.1 h3;exact⟨k,by omega,h6⟩
 ·rw [eB,List.append_nil];exact hd.perm hperm.symm
 ·rw [eB];exact Two.start hsrt (fun t ht=>(Za6 (hperm.mem_iff.1 ht)).1)
 ·rw [eB,List.append_nil];exact Za1 wt hperm
theorem JoinP.dep {zs:List Int} {ab:Row} (h:JoinP zs ab):∃d:Nat->Nat,DepP zs ((List.range zs.length).map fun i=>(d i:Int))/\d (2*zs.length-2)=0/\(∀t,t<=2*zs.length-2->d t<=2*zs.length) /\
  ∀t,t<2*zs.length-2->∃u:Nat,ab t=(u:Int)/\t<u/\u<=2*zs.length-2/\d t=d u+1:=by
 obtain⟨d,h1,h2,h3⟩:=h;refine⟨d,⟨d,h1,rfl⟩,h2,?_,h3⟩
 have key:∀e t,t+e=2*zs.length-2->d t<=e:=by
  intro e
  induction e using Nat.strongRecOn with
  | _ e ih=>
   intro t ht;by_cases e0:e=0
   ·subst e0;have:t=2*zs.length-2:=by omega
    subst this;omega
   ·obtain⟨u,u1,u2,u3,u4⟩:=h3 t (by omega);have:=ih (2*zs.length-2-u) (by omega) u (by omega);omega
 intro t ht;have:=key (2*zs.length-2-t) t (by omega);omega
end HufM
end
section
open Go.RowKit SymM HufM
theorem Took.math {p:At} {n:Nat} {D wf ab:Row} {S J K:Nat} {w w':World} {t:Int} (h:Took p n D wf ab S J K w w' t) :
  ∃S1 J1,TookM n D wf S J K t S1 J1/\Queue p n D wf ab S1 J1 K w'/\Touch (fun k=>k=p.sb\/k=p.jb) w w':=by
 rcases h with⟨h1,h2,h3,h4⟩|⟨h1,h2,h3,h4,h5⟩
 ·exact⟨S+1,J,Or.inl ⟨h1,h2,rfl,rfl⟩,h3,h4.mono (fun i hi=>Or.inl hi)⟩
 ·exact⟨S,J+1,Or.inr ⟨h1,h2,h3,rfl,rfl⟩,h4,h5.mono (fun i hi=>Or.inr hi)⟩
theorem Zfd {P:Program} {ops:Array Oper} {rest:List Oper} {o:Oper} {a:Act} {w:World} {Q:Exit->Act->World->Prop} (hgd:o.guard=none) (d s:Operand) (t t':TypeId)
  (ho:o.op=.call { callee:=.builtin .copy,args:=#[d,s],argTypes:=#[t,t'] }) (v u:Value) (hd:a.eval d=v) (hs:a.eval s=u) {v':Value} {w':World}
  (hr:(Builtin.copy_ #[t,t'] o.type #[v,u]).run P w=.ok v' w') (h:wpList P ops Q rest (a.put o.dst v') w'):wpList P ops Q (o::rest) a w:=
 wpList_plain hgd fun K hK=>by
  unfold Oper.wp execOp;simp only [ho,resolve,invoke,builtin,Sem.run_bind,Sem.run_pure,Result.andThen_ok,List.map_toArray,List.map_cons,List.map_nil,hd,hs,hr];exact hK _ _ h
def boxN (w:World) (b:Nat):Nat:=match w.cell? ⟨b,0,none⟩ with
 | some (.int _ x)=>x.toNat
 | _=>0
def rowA (N:Nat) (d:Row):Array Value:=(((List.range N).map d).map iv64).toArray
theorem ZbV (N:Nat) (d:Row):(rowA N d).size=N:=by simp [rowA]
theorem Zgu (N:Nat) (d:Row):(rowA N d).all (·.oneCell')=true:=by
 rw [Array.all_eq_true];intro i h;simp [rowA,iv64,Value.oneCell']
theorem Zg5:Tryz.zeroCells340=rowA 515 (fun _=>0):=by kernel_rfl
theorem ZnI (d:Row):(Tryz.prog.info? 340).map (·.size)=some (rowA 515 d).size:=by rw [ZbV];kernel_rfl
def wf0 (zs:List Int):Row:=fun i=>zs.getD i 0
theorem Zr9 (M:Nat) (zs:List Int) (h:zs.length<=M):(((rowA M (fun _=>0)).toList.take 0++zs.map iv64++(rowA M (fun _=>0)).toList.drop (0+(zs.map iv64).length)).toArray)=rowA M (wf0 zs):=by
 apply Array.toList_inj.1;show(((List.range M).map (fun _=>(0:Int))).map iv64).take 0++zs.map iv64++(((List.range M).map (fun _=>(0:Int))).map iv64).drop (0+(zs.map iv64).length)=((List.range M).map (wf0 zs)).map iv64;rw [List.take_zero,List.nil_append,Nat.zero_add,List.length_map,<-List.map_drop,<-List.map_append];congr 1;apply List.ext_getElem
 ·simp;omega
 ·intro i h1 h2;rw [List.getElem_map,List.getElem_range];unfold wf0;by_cases hi:i<zs.length
  ·rw [List.getElem_append_left hi,List.getD_eq_getElem?_getD,List.getElem?_eq_getElem hi];rfl
  ·rw [List.getElem_append_right (by omega),List.getD_eq_getElem?_getD,List.getElem?_eq_none (by omega)];simp
theorem Zib (W:World) (g ty:Nat) (a:Option Addr) (cap:Nat) (zs:List Int) (hv:IsInts W (.slice a zs.length cap) zs) (h1:1<=zs.length) (hz:zs.length<=515) (hg:W.heap[g]?=some (.cells (rowA 515 (fun _=>0)) 340 (0,0))) :
  (Builtin.copy_ #[79,79] ty #[.slice (some ⟨g,0,none⟩) 515 515,.slice a zs.length cap]).run Tryz.prog W=.ok (goInt zs.length) (W.setRow g (rowA 515 (wf0 zs))):=by
 obtain⟨b,off,k,he,_⟩:=hv.cell (show 0<zs.length by omega);simp only [Value.slice.injEq] at he;obtain⟨rfl,_,rfl⟩:=he
 have:=run_copy_row (P:=Tryz.prog) W 79 79 ty 3 g 0 515 515 ⟨b,off,none⟩ zs.length cap (rowA 515 (fun _=>0)) 340 (zs.map iv64) Tryz.underlying79 (by kernel_rfl) hg (by rw [List.length_map];exact(Nat.min_eq_left hz).symm) (fun j v hj=>by
  rw [List.getElem?_map] at hj;obtain⟨x,hx,rfl⟩:=Option.map_eq_some_iff.1 hj;obtain⟨a2,cap2,h2,h3⟩:=hv;obtain⟨b3,o3,h4,h5⟩:=h3 j x hx;simp only [Value.slice.injEq] at h2;rw [<-h2.1] at h4;simp only [Option.some.injEq,Addr.mk.injEq] at h4;obtain⟨rfl,rfl,_⟩:=h4;rw [Addr.add_lit];exact h5) (by rw [List.length_map,ZbV];omega) (fun v hv=>by
  obtain⟨x,_,rfl⟩:=List.mem_map.1 hv;rfl)
 rw [Zr9 515 zs hz,List.length_map] at this;exact this
structure Laid (N:Nat) (zs:List Int) (v:Value) (w W:World):Prop where
 r:ArrD 340 W N 515 (fun _=>0)
 wt:ArrD 340 W (N+1) 515 (wf0 zs)
 ab:ArrD 340 W (N+1+1) 515 (fun _=>0)
 size:W.heap.size=N+1+1+1
 bel:Below N w W
 ints:IsInts W v zs
theorem Zsa (w:World) (zs:List Int) (v:Value) (hv:IsInts w v zs):Laid w.heap.size zs v w ((((w.alloc (.cells (rowA 515 (fun _=>0)) 340)).alloc (.cells (rowA 515 (fun _=>0)) 340)).alloc (.cells (rowA 515 (fun _=>0)) 340)).setRow (w.heap.size+1) (rowA 515 (wf0 zs))) /\
  (((w.alloc (.cells (rowA 515 (fun _=>0)) 340)).alloc (.cells (rowA 515 (fun _=>0)) 340)).alloc (.cells (rowA 515 (fun _=>0)) 340)).heap[w.heap.size+1]?=some (.cells (rowA 515 (fun _=>0)) 340 (0,0)) /\
  IsInts (((w.alloc (.cells (rowA 515 (fun _=>0)) 340)).alloc (.cells (rowA 515 (fun _=>0)) 340)).alloc (.cells (rowA 515 (fun _=>0)) 340)) v zs:=by
 generalize hO:Obj.cells (rowA 515 (fun _=>0)) 340 (0,0)=O;have s1:(w.alloc O).heap.size=w.heap.size+1:=by simp
 have s2:((w.alloc O).alloc O).heap.size=w.heap.size+1+1:=by simp
 have s3:(((w.alloc O).alloc O).alloc O).heap.size=w.heap.size+1+1+1:=by simp
 have b1:Below w.heap.size w (((w.alloc O).alloc O).alloc O):=(((Below.refl _ w).alloc (Nat.le_refl _) O).alloc (by rw [s1];omega) O).alloc (by rw [s2];omega) O
 have h0:(((w.alloc O).alloc O).alloc O).heap[w.heap.size]?=some O:=by
  rw [Below.heap_alloc _ O _ (by rw [s2];omega),Below.heap_alloc _ O _ (by rw [s1];omega)];exact heap_alloc_new w O
 have h1:(((w.alloc O).alloc O).alloc O).heap[w.heap.size+1]?=some O:=by
  rw [Below.heap_alloc _ O _ (by rw [s2];omega)];have:=heap_alloc_new (w.alloc O) O;rw [s1] at this;exact this
 have h2:(((w.alloc O).alloc O).alloc O).heap[w.heap.size+1+1]?=some O:=by
  have:=heap_alloc_new ((w.alloc O).alloc O) O;rw [s2] at this;exact this
 have hi:=hv.below b1;subst hO;refine⟨⟨?_,?_,?_,?_,?_,?_⟩,h1,hi⟩
 ·exact(setRow_other _ (w.heap.size+1) w.heap.size _ (by omega)).trans h0
 ·exact setRow_heap _ _ _ _ _ _ h1
 ·exact(setRow_other _ (w.heap.size+1) (w.heap.size+1+1) _ (by omega)).trans h2
 ·show(World.setRow _ _ _).heap.size=_;simp [World.setRow]
 ·exact Zae b1 (by omega) _
 ·exact hv.below (Zae b1 (by omega) _)
theorem ZjB (w:World) (x y z:Int) (s:Nat) (hs:w.heap.size=s) :
  Box (((w.alloc (.cells #[.int .i64 x] 3)).alloc (.cells #[.int .i64 y] 3)).alloc (.cells #[.int .i64 z] 3)) s x/\Box (((w.alloc (.cells #[.int .i64 x] 3)).alloc (.cells #[.int .i64 y] 3)).alloc (.cells #[.int .i64 z] 3)) (s+1) y /\
  Box (((w.alloc (.cells #[.int .i64 x] 3)).alloc (.cells #[.int .i64 y] 3)).alloc (.cells #[.int .i64 z] 3)) (s+1+1) z/\Below s w (((w.alloc (.cells #[.int .i64 x] 3)).alloc (.cells #[.int .i64 y] 3)).alloc (.cells #[.int .i64 z] 3)):=by
 subst hs;have s1:∀o,(w.alloc o).heap.size=w.heap.size+1:=by simp
 have s2:∀o o',((w.alloc o).alloc o').heap.size=w.heap.size+1+1:=by simp
 refine⟨?_,?_,?_,((Below.refl _ w).alloc (Nat.le_refl _) _).alloc (by rw [s1];omega) _ |>.alloc (by rw [s2];omega) _⟩
 ·unfold Box;rw [Below.heap_alloc _ _ _ (by rw [s2];omega),Below.heap_alloc _ _ _ (by rw [s1];omega)];exact heap_alloc_new w _
 ·unfold Box;rw [Below.heap_alloc _ _ _ (by rw [s2];omega)];have:=heap_alloc_new (w.alloc (.cells #[.int .i64 x] 3)) (.cells #[.int .i64 y] 3);rw [s1] at this;exact this
 ·unfold Box;have:=heap_alloc_new ((w.alloc (.cells #[.int .i64 x] 3)).alloc (.cells #[.int .i64 y] 3)) (.cells #[.int .i64 z] 3);rw [s2] at this;exact this
theorem ZjC {N nb ob g n:Nat} {D wf ab:Row} {w6 W:World} (hW:ArrD 340 w6 (N+1) 515 wf) (hA:ArrD 340 w6 (N+1+1) 515 ab) (hn:Box w6 nb n)
  (ho:w6.heap[ob]?=some (.cells #[.slice (some ⟨g,0,none⟩) n n] 79 (0,0))) (hg:RowD w6 g n D) (hnb:N+1+1+1=nb) (h1:nb<g) (h2:g<ob) (hb:Below (ob+1) w6 W)
  {sb jb xb:Nat} (b1:Box W sb 0) (b2:Box W jb n) (b3:Box W xb n) (d1:sb≠jb) (d2:sb≠xb) (d3:jb≠xb) (e1:ob<sb) (e2:ob<jb) (e3:ob<xb):Queue ⟨N+1,N+1+1,nb,ob,sb,jb,xb,g⟩ n D wf ab 0 n n W:=by
 refine⟨(hb.block _ (by show N+1<ob+1;omega)).trans hW,(hb.block _ (by show N+1+1<ob+1;omega)).trans hA,(hb.block _ (by show nb<ob+1;omega)).trans hn,(hb.block _ (by show ob<ob+1;omega)).trans ho,b1,b2,b3,(hb.block _ (by show g<ob+1;omega)).trans hg,?_⟩;simp only [At.Apart,List.pairwise_cons,List.mem_cons,List.not_mem_nil,or_false,forall_eq_or_imp,forall_eq];refine⟨?_,?_,?_,?_,?_,?_,?_,fun a h=>h.elim,List.Pairwise.nil⟩<;>omega
theorem Zp3 (v:Value) (zs:List Int) (w:World) (hv:IsInts w v zs) (h2:2<=zs.length) (hz:zs.length<=258) (hpos:∀z∈zs,0<=z/\z<=1099511627776) :
  Calls Tryz.prog 295 #[v] w fun e w'=>∃(ab:Row),e=.returned (.agg (rowA 515 ab))/\JoinP zs ab/\Below w.heap.size w w':=by
 have HV0:=zh hv;have HPOS:=zh hpos;obtain⟨a,cap,rfl,_⟩:=hv;obtain⟨n,hn⟩:∃n,zs.length=n:=⟨_,rfl⟩
 have HN:=zh hn;rw [hn] at h2 hz ⊢;have hN0:=Zsa w zs (.slice a zs.length cap) HV0.out;have hcp:=fun ty=>Zib _ (w.heap.size+1) ty a cap zs hN0.2.2 (by omega) (by omega) hN0.2.1
 have hlaid:=hN0.1;rw [<-Zg5] at hcp hlaid;rw [hn] at hcp hlaid;generalize hW4:(((w.alloc (.cells Tryz.zeroCells340 340)).alloc (.cells Tryz.zeroCells340 340)).alloc (.cells Tryz.zeroCells340 340)).setRow (w.heap.size+1) (rowA 515 (wf0 zs))=W4 at *;have HCP:=zh hcp;have HL:=zh hlaid;clear hn hpos hN0 hcp hlaid hW4;go_enter Tryz.func295,Tryz.ntmps295;go_wp2_with (refine Zfd rfl _ _ 79 79 rfl _ _ rfl rfl (HCP.out _) ?_);have hl4:=HL.out.size;obtain⟨N,hN⟩:∃N,w.heap.size=N:=⟨_,rfl⟩
 rw [hN] at hl4;have hs4:(W4.alloc (.cells #[.int .i64 n] 3)).heap.size=N+1+1+1+1:=by simp [hl4]
 have HB4:Hid (Below W4.heap.size W4 (W4.alloc (.cells #[.int .i64 n] 3))):=zh ((Below.refl _ W4).alloc (Nat.le_refl _) _);have HNB:Hid (Box (W4.alloc (.cells #[.int .i64 n] 3)) W4.heap.size n):=zh (heap_alloc_new W4 _);have HI4:Hid (IsInts (W4.alloc (.cells #[.int .i64 n] 3)) (.slice a n cap) zs):=zh (HL.out.ints.below HB4.out);generalize hW4b:W4.alloc (.cells #[.int .i64 n] 3)=w4 at *;refine(Zh9 (.slice a n cap) zs w4 HI4.out (by rw [HN.out];omega)).mono ?_;rintro e w5 ⟨r,rfl,g,D,rfl,hg,hR,hBlk,hB5⟩;rw [HN.out] at hR hBlk;have HR5:=zh hR;have HBLK:=zh hBlk;have HB5:=zh hB5;have HG:=zh hg;clear hR hBlk hB5 hg;rw [HN.out];go_wp2_with fail;obtain⟨ob,hob⟩:∃ob,w5.heap.size=ob:=⟨_,rfl⟩
 have hg4:N+1+1+1+1<=g:=by rw [<-hs4];exact HG.out
 have hob4:g<ob:=by rw [<-hob];exact RowI.lt HR5.out
 have hbw:Below N w w4:=by
  have h1:=HL.out.bel;have h2:Below w.heap.size W4 w4:=HB4.out.mono (show w.heap.size<=W4.heap.size by omega);rw [<-hN];exact h1.trans h2
 have b45:Below (N+1+1+1+1) w4 w5:=hs4▸HB5.out;have b56:Below (N+1+1+1+1) w5 (w5.alloc (.cells #[.slice (some ⟨g,0,none⟩) n n] 79)):=(Below.refl (N+1+1+1+1) w5).alloc (show N+1+1+1+1<=w5.heap.size by omega) _;have b46:=b45.trans b56;have hrow6:RowD (w5.alloc (.cells #[.slice (some ⟨g,0,none⟩) n n] 79)) g n D:=RowI.below HR5.out ((Below.refl _ w5).alloc (Nat.le_refl _) _);have hob6:(w5.alloc (.cells #[.slice (some ⟨g,0,none⟩) n n] 79)).heap[ob]?=some (.cells #[.slice (some ⟨g,0,none⟩) n n] 79 (0,0)):=by rw [<-hob];exact heap_alloc_new w5 _
 have hs6:(w5.alloc (.cells #[.slice (some ⟨g,0,none⟩) n n] 79)).heap.size=ob+1:=by simp [hob]
 have hlw4:=HL.out;rw [hN] at hlw4;have h4b:Below (N+1+1+1) W4 w4:=by have:=HB4.out;rw [hl4] at this;exact this
 have hA6:ArrD 340 (w5.alloc (.cells #[.slice (some ⟨g,0,none⟩) n n] 79)) (N+1+1) 515 (fun _=>0):=(b46.block _ (by omega)).trans ((h4b.block _ (by omega)).trans hlw4.ab);have hW6:ArrD 340 (w5.alloc (.cells #[.slice (some ⟨g,0,none⟩) n n] 79)) (N+1) 515 (wf0 zs):=(b46.block _ (by omega)).trans ((h4b.block _ (by omega)).trans hlw4.wt);have hr6:ArrD 340 (w5.alloc (.cells #[.slice (some ⟨g,0,none⟩) n n] 79)) N 515 (fun _=>0):=(b46.block _ (by omega)).trans ((h4b.block _ (by omega)).trans hlw4.r)
 have hn6:Box (w5.alloc (.cells #[.slice (some ⟨g,0,none⟩) n n] 79)) (N+1+1+1) n:=by
  have h1:=HNB.out;rw [hl4] at h1;exact(b46.block _ (by omega)).trans h1
 have hb6:Below N w (w5.alloc (.cells #[.slice (some ⟨g,0,none⟩) n n] 79)):=hbw.trans (b46.mono (by omega));generalize (w5.alloc (.cells #[.slice (some ⟨g,0,none⟩) n n] 79))=w6 at *;obtain⟨c6,f6⟩:=hn6.cell;have HRow6:=zh hrow6;have HOb6:=zh hob6;have HA6:=zh hA6;have HW6:=zh hW6;have HR6:=zh hr6;have HN6:=zh hn6;have HB6:=zh hb6;have HNN:=zh hN;have hnd:Hid (N+1+1+1<g):=zh (by omega);rw [hob];clear hrow6 hob6 hA6 hW6 hr6 hn6 hb6 hbw b45 b56 b46 h4b hlw4 hW4b hs4 hN hob hl4 hg4;generalize hnb:N+1+1+1=nb at *;have hlt6:nb<w6.heap.size:=by have:=hnd.out;omega
 have k1:∀o,(w6.alloc o).cell? ⟨nb,0,none⟩=some (.int .i64 n):=fun o=>(((Below.refl _ w6).alloc (Nat.le_refl _) o).cell (p:=⟨nb,0,none⟩) hlt6).trans c6
 have k2:∀o o',((w6.alloc o).alloc o').cell? ⟨nb,0,none⟩=some (.int .i64 n):=fun o o'=>(((Below.refl _ (w6.alloc o)).alloc (Nat.le_refl _) o').cell (p:=⟨nb,0,none⟩) (by show nb<(w6.alloc o).heap.size;simp;omega)).trans (k1 o)
 have k3:∀o o' o2,(((w6.alloc o).alloc o').alloc o2).cell? ⟨nb,0,none⟩=some (.int .i64 n):=fun o o' o2=>(((Below.refl _ ((w6.alloc o).alloc o')).alloc (Nat.le_refl _) o2).cell (p:=⟨nb,0,none⟩) (by show nb<((w6.alloc o).alloc o').heap.size;simp;omega)).trans (k2 o o')
 have HNBE:=zh hnb;clear hnb
 have hq:Hid (∀(W:World),Below (ob+1) w6 W->∀sb jb xb:Nat,Box W sb 0->Box W jb n->Box W xb n->sb≠jb->sb≠xb->jb≠xb->ob<sb->ob<jb->ob<xb->Queue ⟨N+1,N+1+1,nb,ob,sb,jb,xb,g⟩ n D (wf0 zs) (fun _=>0) 0 n n W.drew/\Below (ob+1) w6 W.drew):=zh (fun W hb sb jb xb b1 b2 b3 d1 d2 d3 e1 e2 e3=>
  ⟨(ZjC HW6.out HA6.out HN6.out HOb6.out HRow6.out HNBE.out hnd.out hob4 hb b1 b2 b3 d1 d2 d3 e1 e2 e3).drewN 1,hb.trans ((Zai W 1).mono (by have:=hb.size;omega))⟩)
 have h3:=zh (fun x y z=>ZjB w6 x y z (ob+1) hs6);have HOB4:=zh hob4;clear hob4
 go_upto_region 4 with fail
 go_cut [7,8,9] from 18 (fun v7 v8 v9 W=>∃sb jb xb:Nat,v7=.pointer (some ⟨sb,0,none⟩)/\v8=.pointer (some ⟨jb,0,none⟩)/\v9=.pointer (some ⟨xb,0,none⟩)/\ob<sb/\ob<jb/\ob<xb/\Queue ⟨N+1,N+1+1,nb,ob,sb,jb,xb,g⟩ n D (wf0 zs) (fun _=>0) 0 n n W/\Below (ob+1) w6 W)
 case first=>
  go_region
  all_goals go_wp2_with fail
  all_goals go_meet
  all_goals refine⟨_,_,_,rfl,rfl,rfl,by omega,by omega,by omega,hq.out _ (h3.out _ _ _).2.2.2 _ _ _ ?_ ?_ ?_ (by omega) (by omega) (by omega) (by omega) (by omega) (by omega)⟩
  all_goals first
   | exact(h3.out _ _ _).1
   | exact(h3.out _ _ _).2.1
   | exact(h3.out _ _ _).2.2.1
 case rest=>
  obtain⟨sb,jb,xb,rfl,rfl,rfl,e1,e2,e3,hQ,hB⟩:=hcut;have HQ:=zh hQ;have HBW:=zh hB;clear hQ hB;obtain⟨d,hJS⟩:=JS.start (ab:=fun _=>0) (wf:=wf0 zs) (by rw [HN.out];exact h2) (fun z hz=>(HPOS.out z hz).1) (by rw [HN.out];exact HBLK.out) (fun i _=>rfl);rw [HN.out] at hJS;have HJS:=zh hJS;clear hJS;have hbase:Hid (Below N w wc):=zh (HB6.out.trans (HBW.out.mono (by have:=HNBE.out;have:=hnd.out;omega)));have hres:Hid (ArrD 340 wc N 515 (fun _=>0)):=zh ((HBW.out.block N (by have:=HNBE.out;have:=hnd.out;omega)).trans HR6.out);have he:∀args w,(callFunc 303 args).run Tryz.prog w=.ok (.enter 303 args) w:=enters_of Tryz.func303 (by kernel_rfl) rfl
  have hT:Hid (sumN wt (ini zs)<=1099511627776*258):=zh (by
   have:=Zca (f:=wt) (l:=ini zs) (c:=1099511627776) (fun t ht=>by
    obtain⟨h3,h4⟩:=Za6 ht;have h5:=(HPOS.out (zs.getD t.2 0) (by rw [List.getD_eq_getElem?_getD,List.getElem?_eq_getElem h3];exact List.getElem_mem h3)).2;show t.1<=_;omega)
   rw [Zcb,HN.out] at this;exact Nat.le_trans this (Nat.mul_le_mul_left _ hz))
  have hne:Hid (N<nb/\nb<ob):=zh (by have:=HNBE.out;have:=hnd.out;have:=HOB4.out;omega);go_wp2_with fail
  go_loopw [11,12] (fun _ _ wr=>∃(S J K:Nat) (wf ab:Row),JS zs D wf ab d S J K/\Queue ⟨N+1,N+1+1,nb,ob,sb,jb,xb,g⟩ n D wf ab S J K wr/\Below N w wr/\ArrD 340 wr N 515 (fun _=>0)) (fun _ _ wr=>2*n-boxN wr xb)
  case atStart=>exact⟨0,n,n,_,_,HJS.out,HQ.out,hbase.out,hres.out⟩
  case round=>
   obtain⟨S,J,K,wf,ab,hJ,hQ,hB,hR⟩:=hrel;have HJ:=zh hJ;have HQ1:=zh hQ;have HB1:=zh hB;have HR1:=zh hR;have hKb:K+1<=2*n:=by have:=hJ.hK;rw [HN.out] at this;exact this
   obtain⟨cx,fx⟩:=hQ.hx.cell;obtain⟨cn,fn⟩:=hQ.hn.cell;simp only at cx fx cn fn;clear hJ hQ hB hR;by_cases hK:K+1<2*n
   ·have hK2:(K:Int)<2*(n:Int)-1:=by omega
    have hJm:=HJ.out;have hSn:=hJm.hS;have hnJ:=hJm.hJ;have hJK:=hJm.hJK;have hcnt:=hJm.cnt;rw [HN.out] at hSn hnJ hcnt;have hrng:Hid (Rng n D):=zh (by have:=hJm.rng;rw [HN.out] at this;exact this);clear hJm;go_wp2_with fail;refine(Zia (p:=⟨N+1,N+1+1,nb,ob,sb,jb,xb,g⟩) HQ1.out hz hSn hJK (by omega) hrng.out (fun e=>by omega)).mono ?_;rintro e w1 ⟨ta,rfl,htook⟩;obtain⟨S1,J1,hm1,hQ2,ht1⟩:=htook.math;obtain⟨xa,rfl,hx1,hx2,hx3,hx4,hx5,hx6,hx7,hx8⟩:=Zfc hSn hJK (fun e=>by omega) hrng.out hnJ HJ.out.pos hm1;have HM1:=zh hm1;have HQ2:=zh hQ2;have HT1:=zh ht1;clear htook hm1 hQ2 ht1 hx2 hx8;go_wp2_with fail;refine(Zia (p:=⟨N+1,N+1+1,nb,ob,sb,jb,xb,g⟩) HQ2.out hz hx3 hx4 (by omega) hrng.out (fun e=>by omega)).mono ?_;rintro e w2 ⟨tb,rfl,htook⟩;obtain⟨S2,J2,hm2,hQ3,ht2⟩:=htook.math;obtain⟨x,y,ex,ey,hxK,hyK,hxy,hsum,hJS2⟩:=JS.step HJ.out (by rw [HN.out];exact hK) (by rw [HN.out];exact HM1.out) (by rw [HN.out];exact hm2);obtain rfl:xa=x:=by omega
    subst ey;have hwx:=HJ.out.pos _ hxK;have hwy:=HJ.out.pos _ hyK;obtain⟨c1,f1⟩:=hQ3.hW.cell (show xa<515 by omega);obtain⟨c2,f2⟩:=hQ3.hW.cell (show y<515 by omega);obtain⟨c3,f3⟩:=hQ3.hW.cell (show K<515 by omega);obtain⟨c4,f4⟩:=hQ3.hx.cell;simp only at c1 f1 c2 f2 c3 f3 c4 f4;obtain⟨X,hX⟩:∃X,wf xa=X:=⟨_,rfl⟩
    obtain⟨Y,hY⟩:∃Y,wf y=Y:=⟨_,rfl⟩
    rw [hX] at c1 hwx hsum hJS2;rw [hY] at c2 hwy hsum hJS2;have hXY:X+Y<=300000000000000:=by have:=hT.out;omega
    have hX5:(xa:Int)<515:=by omega
    have hY5:(y:Int)<515:=by omega
    have hK5:(K:Int)<515:=by omega
    have HJS2:=zh hJS2;have HQ3:=zh hQ3;have HT2:=zh ht2;have HNE:=zh hxy;clear htook hm2 hQ3 ht2 hJS2 hX hY hsum ex hxy;go_wp2_with fail
    go_region
    have hQ9:=(HQ3.out.weight (i:=K) (by omega) (X+Y)).drewN 1;have ht9:Touch (·=N+1) w2 ((w2.setCell ⟨N+1,K,none⟩ (.int .i64 (X+Y))).drew):=(Zaa (Touch.refl _ w2)).drew;change Queue _ _ _ _ _ _ _ _ ((w2.setCell ⟨N+1,K,none⟩ (.int .i64 (X+Y))).drew) at hQ9;generalize (w2.setCell ⟨N+1,K,none⟩ (.int .i64 (X+Y))).drew=w9 at *;obtain⟨c5,f5⟩:=hQ9.hx.cell;obtain⟨c6,f6⟩:=hQ9.hA.cell (show xa<515 by omega);obtain⟨c7,f7⟩:=hQ9.hA.cell (show y<515 by omega);obtain⟨c8,f8⟩:=(hQ9.above (i:=xa) (by omega) K).hA.cell (show y<515 by omega);simp only at c5 f5 c6 f6 c7 f7;change (w9.setCell ⟨N+1+1,xa,none⟩ (.int .i64 K)).cell? ⟨N+1+1,y,none⟩=_ at c8;change (w9.setCell ⟨N+1+1,xa,none⟩ (.int .i64 K)).frozen? ⟨N+1+1,y,none⟩=_ at f8;generalize (fun k=>if k=xa then(K:Int) else ab k) y=V8 at c8;have c9:=(hQ9.above (i:=xa) (by omega) K).hx.cell.1;change (w9.setCell ⟨N+1+1,xa,none⟩ (.int .i64 K)).cell? ⟨xb,0,none⟩=_ at c9;have HQ9:=zh hQ9;have HT9:=zh ht9;clear hQ9 ht9 c1 c2 c3 c4 f1 f2 f3 f4;go_wp2_with fail
    go_region
    have hQ10:=((HQ9.out.above (i:=xa) (by omega) K).above (i:=y) (by omega) K).drewN 1;change Queue _ _ _ _ _ _ _ _ (((w9.setCell ⟨N+1+1,xa,none⟩ (.int .i64 K)).setCell ⟨N+1+1,y,none⟩ (.int .i64 K)).drew) at hQ10;have ht10:Touch (·=N+1+1) w9 (((w9.setCell ⟨N+1+1,xa,none⟩ (.int .i64 K)).setCell ⟨N+1+1,y,none⟩ (.int .i64 K)).drew):=(Zaa (Zaa (Touch.refl _ w9))).drew;generalize (((w9.setCell ⟨N+1+1,xa,none⟩ (.int .i64 K)).setCell ⟨N+1+1,y,none⟩ (.int .i64 K)).drew)=w10 at *;obtain⟨e5,g5⟩:=hQ10.hx.cell;simp only at e5 g5;have HQ10:=zh hQ10;have HT10:=zh ht10;have hb1:Hid (boxN wr xb=K):=zh (by unfold boxN;rw [cx];simp);have hQ11:=HQ10.out.next (K+1);have hK1:((K+1:Nat):Int)=(K:Int)+1:=by omega
    rw [hK1] at hQ11;change Queue _ _ _ _ _ _ _ _ (w10.setCell ⟨xb,0,none⟩ (.int .i64 ((K:Int)+1))) at hQ11
    have hb2:Hid (boxN (w10.setCell ⟨xb,0,none⟩ (.int .i64 ((K:Int)+1))) xb=K+1):=zh (by
     have:=hQ11.hx.cell.1;simp only at this;unfold boxN;rw [this];simp)
    have HQ11:=zh hQ11
    have htall:Hid (Touch (fun i=>N<i) wr (w10.setCell ⟨xb,0,none⟩ (.int .i64 ((K:Int)+1)))):=zh (by
     have n1:=hne.out
     have t1:Touch (fun i=>N<i) wr w1:=HT1.out.mono (fun i hi=>by
      rcases hi with e|e
      ·have e:i=sb:=e;omega
      ·have e:i=jb:=e;omega)
     have t2:Touch (fun i=>N<i) w1 w2:=HT2.out.mono (fun i hi=>by
      rcases hi with e|e
      ·have e:i=sb:=e;omega
      ·have e:i=jb:=e;omega)
     have t3:Touch (fun i=>N<i) w2 w9:=HT9.out.mono (fun i hi=>by have e:i=N+1:=hi;omega);have t4:Touch (fun i=>N<i) w9 w10:=HT10.out.mono (fun i hi=>by have e:i=N+1+1:=hi;omega);exact((((t1.trans t2 (fun i h=>Or.inl h)).trans t3 (fun i h=>Or.inl h)).trans t4 (fun i h=>Or.inl h))).setCell (p:=⟨xb,0,none⟩) (Or.inl (by show N<xb;omega)) _)
    clear hQ10 ht10 hK1 hQ11 c5 c6 c7 c8 c9 f5 f6 f7 f8;go_wp2_with fail;go_roundw
    case rel=>exact⟨S2,J2,K+1,_,_,HJS2.out,HQ11.out,HB1.out.trans (htall.out.below (B:=N) (by have:=HB1.out.size;have:=HNN.out;omega) (fun i hi=>by have e:N<i:=hi;omega)),HR1.out.other htall.out (fun h=>Nat.lt_irrefl _ h)⟩
    case measure=>rw [hb1.out,hb2.out];omega
   ·have hK2:¬(K:Int)<2*(n:Int)-1:=by omega
    have hc:=HQ1.out.hA;have h0:=HR1.out;have HJ2:Hid (JoinP zs ab):=zh (HJ.out.end_ (by rw [HN.out];exact h2) (by rw [HN.out];omega));change wr.heap[N+1+1]?=some (.cells (rowA 515 ab) 340 (0,0)) at hc;change wr.heap[N]?=some (.cells (rowA 515 (fun _=>0)) 340 (0,0)) at h0;have hi:=ZnI ab;have hs0:(rowA 515 (fun _=>0)).size=(rowA 515 ab).size:=by rw [ZbV,ZbV]
    have hall:=Zgu 515 ab;have HRA:Hid (rowA 515 ab=rowA 515 ab):=zh rfl;generalize hRA:rowA 515 ab=RA at hc hi hs0 hall;generalize rowA 515 (fun _=>0)=R0 at h0 hs0;go_wp2_with (first|(refine wpList_load_row rfl 340 _ rfl (N+1+1) rfl 340 RA (0,0) _ hc Tryz.underlying340 rfl hi ?_)|(refine wpList_store_row rfl 340 _ _ rfl N RA rfl rfl 340 R0 h0 hi hs0 hall ?_));refine bodyPost_ret (v:=.agg RA) (results_cell_row rfl _ _ N 340 RA (0,0) _ rfl (setRow_heap wr _ R0 RA 340 _ h0) Tryz.underlying340 rfl hi) rfl ⟨ab,by rw [hRA],HJ2.out,?_⟩;rw [HNN.out];exact Zae HB1.out (Nat.le_refl _) _
end
end Go.Proofs.YtnachbjhhpnadaaGreatDoor
