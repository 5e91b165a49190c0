import Derived.Test.YtlfpbcadcfaboaaGreatDoorTcA
import Derived.Test.YtlfpbcadcfaboaaGreatDoorTcB
import Derived.Test.YtlfpbcadcfaboaaGreatDoorTcC
import Derived.Test.YtlfpbcadcfaboaaGreatDoorProg
import Derived.Shelf.Strings.Builder1
import Derived.Shelf.Strings.Builder2
import Derived.Shelf.Strings.BuilderF
import Derived.Shelf.Strings.BuilderK
import Derived.Shelf.Strings.Builder2Cap
import Derived.Shelf.Strings.BuilderCap
import Derived.StillTailTactics
import Derived.Deep.RegionHeld3
set_option linter.unusedVariables false
set_option linter.unusedSimpArgs false
set_option maxHeartbeats 8000000
set_option maxRecDepth 100000
namespace Go.Proofs.YtlfpbcadcfaboaaGreatDoor
end Go.Proofs.YtlfpbcadcfaboaaGreatDoor
namespace Go.Proofs
open Go.Shelf
def Tryz.lays169_ren:Go.Shelf.Ren:=⟨fun|169=>135|n=>n,fun|70=>192|9=>9|0=>0|72=>194|37=>73|127=>233|3=>3|5=>5|n=>n,fun  | n=>n⟩
theorem Tryz.lays169:Go.Proofs.Lays.n169 Tryz.prog Tryz.lays169_ren:={
 mixed:=by kernel_rfl
 f169:=Tryz.func135.trans (congrArg some (by kernel_rfl))
 t0:=Tryz.underlying0
 a0:=Tryz.isAgg0
 z0:=Tryz.sizeOf0
 v0:=Tryz.zeroValue0
 t3:=Tryz.underlying3
 a3:=Tryz.isAgg3
 z3:=Tryz.sizeOf3
 v3:=Tryz.zeroValue3
 t9:=Tryz.underlying9
 a9:=Tryz.isAgg9
 z9:=Tryz.sizeOf9
 v9:=Tryz.zeroValue9
 t37:=Tryz.underlying73
 a37:=Tryz.isAgg73
 z37:=Tryz.sizeOf73
 v37:=Tryz.zeroValue73
 t70:=Tryz.underlying192
 a70:=Tryz.isAgg192
 z70:=Tryz.sizeOf192
 v70:=Tryz.zeroValue192
 t72:=Tryz.underlying194
 a72:=Tryz.isAgg194
 z72:=Tryz.sizeOf194
 v72:=Tryz.zeroValue194
 t127:=Tryz.underlying233
 a127:=Tryz.isAgg233
 z127:=Tryz.sizeOf233
 v127:=Tryz.zeroValue233 }
theorem Tryz.Builder_Extra_169:Builder.Extra Tryz.prog Tryz.lays169_ren:={
 sizeBuilder:=by kernel_rfl
 liesBuilder:=by kernel_rfl
 t5:=Tryz.underlying5
 a5:=Tryz.isAgg5
 z5:=Tryz.sizeOf5
 v5:=Tryz.zeroValue5
 infoByte:=by kernel_rfl
 cellsByte:=by kernel_rfl
 sizeByte:=by kernel_rfl
 neB5:=by decide }
open Go.RowKit in
theorem Tryz.Builder_String_any (B b:Nat) (l:List UInt8) (w:World) (h:Lib.IsBuilder 194 5 B b (Lib.byteCells l) w) (hBw:B<=w.heap.size) :
  Calls Tryz.prog 135 #[.pointer (some ⟨b,0,none⟩)] w fun e w'=>e=.returned (.string ⟨l.toArray⟩)/\Below B w w':=Any.Builder_String_any Tryz.lays169 Tryz.Builder_Extra_169 B b l w h hBw
def Tryz.lays165_ren:Go.Shelf.Ren:=⟨fun|165=>183|240=>164|241=>210|276=>198|277=>222|n=>n,fun|70=>192|3=>3|0=>0|4=>4|9=>9|20=>20|72=>194|37=>73|164=>251|5=>5|n=>n,fun  | n=>n⟩
theorem Tryz.lays165:Go.Proofs.Lays.n165 Tryz.prog Tryz.lays165_ren:={
 mixed:=by kernel_rfl
 f165:=Tryz.func183.trans (congrArg some (by kernel_rfl))
 f240:=Tryz.func164.trans (congrArg some (by kernel_rfl))
 f241:=Tryz.func210.trans (congrArg some (by kernel_rfl))
 f276:=Tryz.func198.trans (congrArg some (by kernel_rfl))
 f277:=Tryz.func222.trans (congrArg some (by kernel_rfl))
 t0:=Tryz.underlying0
 a0:=Tryz.isAgg0
 z0:=Tryz.sizeOf0
 v0:=Tryz.zeroValue0
 t3:=Tryz.underlying3
 a3:=Tryz.isAgg3
 z3:=Tryz.sizeOf3
 v3:=Tryz.zeroValue3
 t4:=Tryz.underlying4
 a4:=Tryz.isAgg4
 z4:=Tryz.sizeOf4
 v4:=Tryz.zeroValue4
 t9:=Tryz.underlying9
 a9:=Tryz.isAgg9
 z9:=Tryz.sizeOf9
 v9:=Tryz.zeroValue9
 t20:=Tryz.underlying20
 a20:=Tryz.isAgg20
 z20:=Tryz.sizeOf20
 v20:=Tryz.zeroValue20
 t37:=Tryz.underlying73
 a37:=Tryz.isAgg73
 z37:=Tryz.sizeOf73
 v37:=Tryz.zeroValue73
 t70:=Tryz.underlying192
 a70:=Tryz.isAgg192
 z70:=Tryz.sizeOf192
 v70:=Tryz.zeroValue192
 t72:=Tryz.underlying194
 a72:=Tryz.isAgg194
 z72:=Tryz.sizeOf194
 v72:=Tryz.zeroValue194
 t164:=Tryz.underlying251
 a164:=Tryz.isAgg251
 z164:=Tryz.sizeOf251
 v164:=Tryz.zeroValue251 }
theorem Tryz.Builder_Extra_165:Builder.Extra Tryz.prog Tryz.lays165_ren:={
 sizeBuilder:=by kernel_rfl
 liesBuilder:=by kernel_rfl
 t5:=Tryz.underlying5
 a5:=Tryz.isAgg5
 z5:=Tryz.sizeOf5
 v5:=Tryz.zeroValue5
 infoByte:=by kernel_rfl
 cellsByte:=by kernel_rfl
 sizeByte:=by kernel_rfl
 neB5:=by decide }
open Go.RowKit in
theorem Tryz.Builder_Grow_fresh (B b n:Nat) (w:World) (hB:B<=b) (hbk:w.heap[b]?=some (.cells #[.pointer none,.slice none 0 0] 194 (0,0))) (hBw:B<=w.heap.size) (hn:n<=281474976710656) :
  Calls Tryz.prog 183 #[.pointer (some ⟨b,0,none⟩),.int .i64 n] w fun e w'=>e=.returned (.tuple #[])/\(Lib.BuilderAt 194 5 B b (.pointer (some ⟨b,0,none⟩)) [] w'/\Below B w w'):=Any.Builder_Grow_fresh Tryz.lays165 Tryz.Builder_Extra_165 B b n w hB hbk hBw hn
end Go.Proofs
namespace Go.Proofs.YtlfpbcadcfaboaaGreatDoor
section
open Go.RowKit
def Used (B b:Nat) (bs:List Value) (w:World):Prop:=Lib.BuilderAt 194 5 B b (.pointer (some ⟨b,0,none⟩)) bs w
theorem Used.drewN {B b:Nat} {bs:List Value} {w:World} (h:Used B b bs w) (n:Nat):Used B b bs (w.drewN n):=h
theorem Zi0 (B b:Nat) (bs:List Value) (w:World) (h:Used B b bs w):Calls Tryz.prog 164 #[.pointer (some ⟨b,0,none⟩)] w fun e w'=>e=.returned (.tuple #[])/\w=w':=
 (Any.Builder_copyCheck_used (L:={ Tryz.lays165 with }) Tryz.Builder_Extra_165.toX72 b w (Lib.BuilderAt.cell0 h)).mono fun _ _ ⟨h1,h2⟩=>⟨h1,h2.symm⟩
theorem ZrJ {w:World} {b B g:Nat} {cs:Array Value} {v:Value} {n:Nat} {xs:List Value} (h:w.ownsRow B 5 1 v n xs) (hb:w.heap[b]?=some (.cells cs 194 (0,0))):v.ownBlock≠some b:=by
 rcases h.2 with⟨rfl,_⟩|⟨g,cap,cur,rfl,_,hg,_⟩
 ·intro e;cases e
 ·intro e;obtain rfl:g=b:=by simpa [Value.ownBlock] using e
  rw [hb] at hg;simp at hg
theorem Zmo {w:World} {B b:Nat} {p v v':Value} {bs:List Value} (hB:B<=b) (hb:w.heap[b]?=some (.cells #[.pointer (some ⟨b,0,none⟩),v] 194 (0,0))) (h:w.ownsRow B 5 1 v' bs.length bs) :
  Used B b bs (w.setCell ⟨b,1,none⟩ v'):=
 ⟨hB,v',heap_setCell_same _ _ 1 _ _ _ hb,Zag h (fun k hk=>heap_setCell_other w ⟨b,1,none⟩ k v' (fun e=>ZrJ (g:=0) h hb (by rw [hk];exact congrArg some e))),ZrJ (g:=0) h hb⟩
theorem ZjP (B b:Nat) (bs:List Value) (c:Int) (w:World) (h:Used B b bs w) (hlen:bs.length+1<=140737488355328) (hBw:B<=w.heap.size) :
  Calls Tryz.prog 134 #[.pointer (some ⟨b,0,none⟩),.int .u8 c] w fun e w'=>e=.returned .nilIface/\Used B b (bs++[.int .u8 c]) w'/\Below B w w':=by
 obtain⟨i0,hi,hz0,hz1,hz2⟩:=info_parts Zqc;have hlt:=Lib.BuilderAt.lt h;have H:=zh h;obtain⟨hB,v,hbk,hown,hne⟩:=h;have c1:w.cell? ⟨b,1,none⟩=some v:=by rw [Lib.cell_of_heap hbk];rfl
 have HK:=zh hbk;have HO:=zh hown;have HN:=zh hne;have HI:=zh hi;have HZ0:=zh hz0;have HZ1:=zh hz1;have HZ2:=zh hz2;clear hbk hown hne hi hz0 hz1 hz2;go_enter Tryz.func134,Tryz.ntmps134;go_wp2_with fail;refine(Zi0 B b bs w H.out).mono ?_;rintro e w' ⟨rfl,rfl⟩;go_wp2_with (at_builtin;refine wpList_append_own _ rfl _ _ 73 rfl B 5 i0 (.int .u8 0) 1 1 Tryz.underlying73 HI.out HZ0.out HZ1.out HZ2.out rfl (by decide) _ _ _ rfl (HO.out.alloc _) ⟨w.heap.size,0,none⟩ 1 1 [.int .u8 c] rfl rfl ?c1 ?c2 ?c3 ?c4 ?c5 ?_)
 case c1=>exact ZaB _ _ _ _ rfl
 case c2=>intro u hu;simp at hu;subst hu;rfl
 case c3=>unfold maxLen;omega
 case c4=>omega
 case c5=>simp;omega
 intro v' w1 hown' hgrow _;obtain⟨a',c',rfl⟩:=Zao hown';have hk1:w1.heap[b]?=some (.cells #[.pointer (some ⟨b,0,none⟩),v] 194 (0,0)):=(hgrow.block b (by simp;omega) (fun e=>HN.out e.symm)).trans ((Below.heap_alloc w _ b hlt).trans HK.out);have d1:w1.cell? ⟨b,1,none⟩=some v:=by rw [Lib.cell_of_heap hk1];rfl
 have f1:w1.frozen? ⟨b,1,none⟩=false:=Lib.frozen_of_heap hk1 1;have HK1:=zh hk1;have HO1:=zh hown';have HB1:=zh (Below.grown ((Below.refl B w).alloc hBw _) hgrow (by simp;omega) (fun j hj=>(HO.out.lt j hj).1));clear hk1 hown' hgrow;go_wp2_with fail;go_ret;refine⟨rfl,?_,HB1.out.setCell hB _⟩;exact Zmo (p:=v) hB HK1.out (by have:=HO1.out;rwa [List.length_append])
theorem Zib (B b:Nat) (bs:List Value) (c:Int) (w:World) (h0:Lib.IsBuilder 194 5 B b bs w) (hlen:bs.length+1<=140737488355328) (hBw:B<=w.heap.size) :
  Calls Tryz.prog 134 #[.pointer (some ⟨b,0,none⟩),.int .u8 c] w fun e w'=>e=.returned .nilIface/\Used B b (bs++[.int .u8 c]) w'/\Below B w w':=by
 obtain⟨i0,hi,hz0,hz1,hz2⟩:=info_parts Zqc;have HI:=zh hi;have HZ0:=zh hz0;have HZ1:=zh hz1;have HZ2:=zh hz2;clear hi hz0 hz1 hz2;go_enter Tryz.func134,Tryz.ntmps134;go_wp2_with fail;refine(Any.Builder_copyCheck (L:={ Tryz.lays165 with }) Tryz.Builder_Extra_165.toX72 B b bs w h0).mono ?_;rintro e w0 ⟨rfl,h,hbel⟩;have HBEL:=zh hbel;clear hbel;have hBw0:B<=w0.heap.size:=Nat.le_trans hBw HBEL.out.size;have hlt:=Lib.BuilderAt.lt h;obtain⟨hB,v,hbk,hown,hne⟩:=h;have c1:w0.cell? ⟨b,1,none⟩=some v:=by rw [Lib.cell_of_heap hbk];rfl
 have HK:=zh hbk;have HO:=zh hown;have HN:=zh hne;clear hbk hown hne;go_wp2_with (at_builtin;refine wpList_append_own _ rfl _ _ 73 rfl B 5 i0 (.int .u8 0) 1 1 Tryz.underlying73 HI.out HZ0.out HZ1.out HZ2.out rfl (by decide) _ _ _ rfl (HO.out.alloc _) ⟨w0.heap.size,0,none⟩ 1 1 [.int .u8 c] rfl rfl ?c1 ?c2 ?c3 ?c4 ?c5 ?_)
 case c1=>exact ZaB _ _ _ _ rfl
 case c2=>intro u hu;simp at hu;subst hu;rfl
 case c3=>unfold maxLen;omega
 case c4=>omega
 case c5=>simp;omega
 intro v' w1 hown' hgrow _;obtain⟨a',c',rfl⟩:=Zao hown';have hk1:w1.heap[b]?=some (.cells #[.pointer (some ⟨b,0,none⟩),v] 194 (0,0)):=(hgrow.block b (by simp;omega) (fun e=>HN.out e.symm)).trans ((Below.heap_alloc w0 _ b hlt).trans HK.out);have d1:w1.cell? ⟨b,1,none⟩=some v:=by rw [Lib.cell_of_heap hk1];rfl
 have f1:w1.frozen? ⟨b,1,none⟩=false:=Lib.frozen_of_heap hk1 1;have HK1:=zh hk1;have HO1:=zh hown';have HB1:=zh (Below.grown ((Below.refl B w0).alloc hBw0 _) hgrow (by simp;omega) (fun j hj=>(HO.out.lt j hj).1));clear hk1 hown' hgrow;go_wp2_with fail;go_ret;refine⟨rfl,?_,HBEL.out.trans (HB1.out.setCell hB _)⟩;exact Zmo (p:=v) hB HK1.out (by have:=HO1.out;rwa [List.length_append])
end
section
open Go.RowKit RleM
def u8s (l:List UInt8):List Value:=l.map u8v
theorem ZsW (W:World) (b n:Nat) (hn:n<=5):(Instr.sliceAt 223 (.pointer (some ⟨b,0,none⟩)) none (some (.int .i64 (n:Int))) none).run Tryz.prog W=.ok (.slice (some ⟨b,0,none⟩) n 5) W:=by
 have e:Tryz.prog.arrayLen 223=5:=by kernel_rfl
 have hs:(sizeOf (Tryz.prog.elem 223)).run Tryz.prog W=.ok 1 W:=by kernel_rfl
 rw [run_sliceAt_array_h W _ ⟨b,0,none⟩ (by kernel_rfl) .i64 (n:Int) (by omega) (by rw [e];omega),hs];simp [Result.andThen,slicedAt,e,Addr.add]
theorem Zlp (n:Nat):rlsz n<=5:=by unfold rlsz;split<;>omega
theorem Znc {w:World} (x0 x1 x2 x3 x4:UInt8):∀j x,[x0,x1,x2,x3,x4][j]?=some x->(w.alloc (.cells #[.int .u8 (x0.toNat:Int),.int .u8 (x1.toNat:Int),.int .u8 (x2.toNat:Int),.int .u8 (x3.toNat:Int),.int .u8 (x4.toNat:Int)] 223)).cell? ⟨w.heap.size,j,none⟩=some (u8v x):=by
 intro j x hj;rw [cell_of_row _ _ _ _ _ _ (heap_alloc_new w _)];have:j<5:=(List.getElem?_eq_some_iff.1 hj).1;rcases(by omega:j=0\/j=1\/j=2\/j=3\/j=4) with rfl|rfl|rfl|rfl|rfl<;>simp at hj<;>subst hj<;>rfl
theorem Zoh (p:Pc) (w:World) (hT:Sizes w) (h1:1<=p.2) (h2:p.2<=255) :
  Calls Tryz.prog 118 #[pcv p] w fun e w'=>e=.returned (.tuple #[.string ⟨(packP p).toArray⟩,.int .i64 0])/\Below w.heap.size w w':=by
 have HT:=zh hT;have hsz:=Zlp p.2;obtain⟨x0,x1,x2,x3,x4,hx⟩:=Zlo (Zeq p);have HX:=zh hx;have k1:(1:Int)<=(p.2:Int):=by omega
 have k2:(p.2:Int)<=255:=by omega
 clear hT hx;unfold pcv;go_enter Tryz.func118,Tryz.ntmps118;go_wp2_with fail;refine(Znb p _ (HT.out.touch ((Touch.refl (fun _=>False) w).alloc _) (fun h=>h)) h1 h2).mono ?_;rintro e w1 ⟨rfl,hb⟩;rw [HX.out];have HB:=zh hb;clear hb;simp only [List.map_cons,List.map_nil,u8v]
 have hcv:=Zew (w1.alloc (.cells #[.int .u8 (x0.toNat:Int),.int .u8 (x1.toNat:Int),.int .u8 (x2.toNat:Int),.int .u8 (x3.toNat:Int),.int .u8 (x4.toNat:Int)] 223)) w1.heap.size 5 ((ZhS p).take (rlsz p.2)) (rlsz p.2) (by rw [List.length_take,Zeq];omega) (fun j x hj=>by
  rw [HX.out] at hj;exact Znc x0 x1 x2 x3 x4 j x (by rw [List.getElem?_take] at hj;split at hj;exact hj;cases hj))
 rw [Zna] at hcv;have hsl:=ZsW (w1.alloc (.cells #[.int .u8 (x0.toNat:Int),.int .u8 (x1.toNat:Int),.int .u8 (x2.toNat:Int),.int .u8 (x3.toNat:Int),.int .u8 (x4.toNat:Int)] 223)) w1.heap.size (rlsz p.2) hsz;go_wp2_with fail;go_ret2;exact⟨rfl,((((Below.refl w.heap.size w).alloc (Nat.le_refl _) _).trans (HB.out.mono (by simp))).alloc (by have:=HB.out.size;simp at this;omega) _)⟩
structure Packs (w0:World) (b:Nat) (l:List UInt8) (w:World):Prop where
 used:Used w0.heap.size b (u8s l) w
 below:Below w0.heap.size w0 w
theorem Packs.drewN {w0 w:World} {b:Nat} {l:List UInt8} (h:Packs w0 b l w) (m:Nat):Packs w0 b l (w.drewN m):=
 ⟨h.used.drewN m,h.below.trans ⟨rfl,rfl,rfl,Nat.le_refl _,fun _ _=>rfl⟩⟩
def IsPacker (w:World) (b:Nat) (c:UInt8) (n:Nat):Prop:=w.heap[b]?=some (.cells #[.int .u8 (c.toNat:Int),.int .i64 (n:Int)] 174 (0,0))
theorem IsPacker.lt {w:World} {b:Nat} {c:UInt8} {n:Nat} (h:IsPacker w b c n):b<w.heap.size:=(Array.getElem?_eq_some_iff.1 h).1
theorem IsPacker.other {w w':World} {b:Nat} {c:UInt8} {n:Nat} {S:Nat->Prop} (h:IsPacker w b c n) (ht:Touch S w w') (hS:¬S b):IsPacker w' b c n:=(ht.block b h.lt hS).trans h
theorem IsPacker.cells {w:World} {b:Nat} {c:UInt8} {n:Nat} (h:IsPacker w b c n):w.cell? ⟨b,0,none⟩=some (.int .u8 (c.toNat:Int))/\w.cell? ⟨b,1,none⟩=some (.int .i64 (n:Int))/\w.frozen? ⟨b,0,none⟩=false/\w.frozen? ⟨b,1,none⟩=false:=by
 refine⟨?_,?_,frozen_of_row _ _ _ _ _ h,frozen_of_row _ _ _ _ _ h⟩<;>(rw [cell_of_row _ _ _ _ _ _ h];rfl)
theorem IsPacker.put {w:World} {b:Nat} {c d:UInt8} {n m:Nat} (h:IsPacker w b c n) (D M:Int) (hD:D=(d.toNat:Int)) (hM:M=(m:Int)):IsPacker ((w.setCell ⟨b,0,none⟩ (.int .u8 D)).setCell ⟨b,1,none⟩ (.int .i64 M)) b d m:=by
 subst hD hM;unfold IsPacker;rw [heap_setCell_same _ _ 1 _ _ _ (heap_setCell_same _ _ 0 _ _ _ h)];rfl
theorem Zkn {w w1:World} {b:Nat} (h:Touch (·=b) w w1) (u v:Value):Touch (·=b) w ((w1.setCell ⟨b,0,none⟩ u).setCell ⟨b,1,none⟩ v):=
 Touch.setCell (Touch.setCell h (p:=⟨b,0,none⟩) (Or.inl rfl) u) (p:=⟨b,1,none⟩) (Or.inl rfl) v
def packR (c:UInt8) (n:Nat):List UInt8:=if n=0 then[] else packP (c,n)
theorem ZjQ (w:World):Calls Tryz.prog 75 #[] w fun e w'=>e=.returned (.pointer (some ⟨w.heap.size,0,none⟩))/\IsPacker w' w.heap.size 0 0/\Below w.heap.size w w':=by
 go_enter Tryz.func75,Tryz.ntmps75;go_wp2_with fail;go_ret;exact⟨rfl,heap_alloc_new _ _,(Below.refl _ _).alloc (Nat.le_refl _) _⟩
theorem ZhU (b:Nat) (c:UInt8) (n:Nat) (w:World) (h:IsPacker w b c n) (hT:Sizes w) (hb:b≠1) (h0:n=0->c=0) (hn:n<=255) :
  Calls Tryz.prog 79 #[.pointer (some ⟨b,0,none⟩)] w fun e w'=>e=.returned (.string ⟨(packR c n).toArray⟩)/\IsPacker w' b 0 0/\Touch (·=b) w w':=by
 obtain⟨c0,c1,f0,f1⟩:=h.cells;have H:=zh h;have HT:=zh hT;have hlt:=h.lt;clear h hT;by_cases hz:n=0
 ·subst hz;obtain rfl:=h0 rfl;have c1':w.cell? ⟨b,1,none⟩=some (.int .i64 0):=c1;clear c1;go_enter Tryz.func79,Tryz.ntmps79;go_wp2_with fail;go_ret;exact⟨rfl,H.out,Touch.refl _ _⟩
 ·have hb0:((n:Int)==0)=false:=by rw [beq_eq_false_iff_ne];omega
  have HR:=zh (show packR c n=packP (c,n) by unfold packR;rw [if_neg hz]);have h1:1<=n:=by omega
  clear h0;go_enter Tryz.func79,Tryz.ntmps79;go_wp2_with fail;refine(Zoh (c,n) w HT.out h1 hn).mono ?_;rintro e w1 ⟨rfl,hb1⟩;have H1:=zh (H.out.other (Touch.ofBelow (S:=fun _=>False) hb1) (fun h=>h));obtain⟨d0,d1,g0,g1⟩:=H1.out.cells;have HB1:=zh hb1;clear hb1;go_wp2_with fail;go_ret;exact⟨by rw [HR.out];rfl,H1.out.put 0 0 rfl rfl,Zkn (Touch.ofBelow HB1.out) _ _⟩
theorem Zic (x y:Value) (w:World):Calls Tryz.prog 117 #[.bool false,x,y] w fun e w'=>e=.returned (.tuple #[])/\w=w':=by
 go_enter Tryz.func117,Tryz.ntmps117;go_wp2_with fail;go_end0;exact⟨rfl,rfl⟩
theorem Zjc {w w':World} {b k:Nat} {o:Nat} {v:Value} (h:w.cell? ⟨k,o,none⟩=some v) (ht:Touch (·=b) w w') (hk:k≠b):w'.cell? ⟨k,o,none⟩=some v:=by
 have hlt:=World.block_lt_of_cell? w ⟨k,o,none⟩ h;have e:=ht.block k hlt hk;simp only [World.cell?,e] at h ⊢;exact h
theorem Zql {w w1:World} {b t:Nat} (h:Touch (·=b) w w1) (v:Value):Touch (fun k=>k=b\/k=t) w (w1.setCell ⟨t,0,none⟩ v):=
 Touch.setCell (S:=fun k=>k=b\/k=t) (h.mono fun _ h=>Or.inl h) (p:=⟨t,0,none⟩) (Or.inl (Or.inr rfl)) v
theorem Touch.ofDrew {S:Nat->Prop} {w w1:World} (h:Touch S w.drew w1):Touch S w w1:=⟨h.os,h.tape,h.output,h.size,h.block⟩
theorem Znd (b t pv:Nat) (o:List UInt8) (c:UInt8) (n:Nat) (w:World) (h:IsPacker w b c n) (ht:w.heap[t]?=some (.cells #[.string ⟨o.toArray⟩] 9 (0,0))) (hp:w.heap[pv]?=some (.cells #[.pointer (some ⟨b,0,none⟩)] 117 (0,0)))
  (htb:t≠b) (hpb:pv≠b) (hpt:pv≠t) (hT:Sizes w) (hb:b≠1) (h0:n=0->c=0) (hn:n<=255) (ho:o.length<=1000) :
  Calls Tryz.prog 117 #[.bool true,.pointer (some ⟨t,0,none⟩),.pointer (some ⟨pv,0,none⟩)] w fun e w'=>e=.returned (.tuple #[])/\w'.heap[t]?=some (.cells #[.string ⟨(o++packR c n).toArray⟩] 9 (0,0))/\w'.heap[pv]?=some (.cells #[.pointer (some ⟨b,0,none⟩)] 117 (0,0))/\IsPacker w' b 0 0/\Touch (fun k=>k=b\/k=t) w w':=by
 have a0:w.cell? ⟨t,0,none⟩=some (.string ⟨o.toArray⟩):=by rw [cell_of_row _ _ _ _ _ _ ht];rfl
 have a1:w.frozen? ⟨t,0,none⟩=false:=frozen_of_row _ _ _ _ _ ht;have a2:w.cell? ⟨pv,0,none⟩=some (.pointer (some ⟨b,0,none⟩)):=by rw [cell_of_row _ _ _ _ _ _ hp];rfl
 have H:=zh h;have HT:=zh hT;have HTT:=zh ht;have HPP:=zh hp;have hlt:=(Array.getElem?_eq_some_iff.1 ht).1;have hlp:=(Array.getElem?_eq_some_iff.1 hp).1
 have hsz:(⟨o.toArray⟩:ByteArray).size+(⟨(packR c n).toArray⟩:ByteArray).size<=2000:=by
  rw [Zaj,Zaj];unfold packR;split
  ·simp;omega
  ·rw [Zmm];have:=Zlp n;simp only;omega
 have hadd:∀W,(Op.stringOp .add ⟨o.toArray⟩ ⟨(packR c n).toArray⟩).run Tryz.prog W=.ok (.string (⟨o.toArray⟩++⟨(packR c n).toArray⟩)) W:=fun W=>by
  rw [run_string_add_if,if_neg (by omega)]
 clear h hT ht hp hsz;go_enter Tryz.func117,Tryz.ntmps117;go_wp2_with fail
 go_region_with (first|(go_at_call 79;refine(ZhU b c n _ (by exact H.out) (by exact HT.out.same rfl) hb h0 hn).mono ?_;rintro e w1 ⟨rfl,hk1,ht1⟩;have b0:=Zjc (w:=w.drew) (by exact a0) ht1 htb;have b2:=Zjc (w:=w.drew) (by exact a2) ht1 hpb;have e1:w1.heap[t]?=some (.cells #[.string ⟨o.toArray⟩] 9 (0,0)):=(ht1.block t hlt htb).trans HTT.out;have b1:w1.frozen? ⟨t,0,none⟩=false:=frozen_of_row _ _ _ _ _ e1;have HK1:=zh hk1;have HT1:=zh ht1;have HE1:=zh e1;clear hk1 ht1 e1))
 all_goals
  go_end0;refine⟨rfl,?_,?_,?_,?_⟩
  ·rw [heap_setCell_same _ _ 0 _ _ _ HE1.out,<-Zaw];rfl
  ·exact(heap_setCell_other w1 ⟨t,0,none⟩ pv _ hpt).trans ((HT1.out.block pv hlp hpb).trans HPP.out)
  ·exact(heap_setCell_other w1 ⟨t,0,none⟩ b _ (fun e=>htb e.symm)).trans HK1.out
  ·exact Zql (Touch.ofDrew HT1.out) _
structure PS (w:World) (b:Nat) (o:List UInt8) (c:UInt8) (n:Nat) (wr:World):Prop where
 told:wr.heap[w.heap.size+1]?=some (.cells #[.string ⟨o.toArray⟩] 9 (0,0))
 ptr:wr.heap[w.heap.size]?=some (.cells #[.pointer (some ⟨b,0,none⟩)] 117 (0,0))
 row:IsPacker wr b c n
 touch:Touch (·=b) w wr
theorem PS.start {w:World} {b:Nat} {c:UInt8} {n:Nat} (h:IsPacker w b c n):PS w b [] c n ((w.alloc (.cells #[.pointer (some ⟨b,0,none⟩)] 117)).alloc (.cells #[.string ⟨#[]⟩] 9)):=by
 have e:=heap_alloc_new (w.alloc (.cells #[.pointer (some ⟨b,0,none⟩)] 117)) (.cells #[.string ⟨#[]⟩] 9);refine⟨by simpa using e,?_,?_,((Touch.refl _ _).alloc _).alloc _⟩
 ·rw [Below.heap_alloc _ _ _ (by simp)];exact heap_alloc_new _ _
 ·exact h.other (((Touch.refl (fun _=>False) _).alloc _).alloc _) (fun h=>h)
theorem PS.put {w wr:World} {b:Nat} {o:List UInt8} {c:UInt8} {n:Nat} (h:PS w b o c n wr) (hlt:b<w.heap.size) (d:UInt8) (m:Nat) (D M:Int) (hD:D=(d.toNat:Int)) (hM:M=(m:Int)):PS w b o d m ((wr.setCell ⟨b,0,none⟩ (.int .u8 D)).setCell ⟨b,1,none⟩ (.int .i64 M)):=by
 refine⟨?_,?_,h.row.put D M hD hM,Zkn h.touch _ _⟩
 ·exact(heap_setCell_other _ ⟨b,1,none⟩ _ _ (by show w.heap.size+1≠b;omega)).trans ((heap_setCell_other _ ⟨b,0,none⟩ _ _ (by show w.heap.size+1≠b;omega)).trans h.told)
 ·exact(heap_setCell_other _ ⟨b,1,none⟩ _ _ (by show w.heap.size≠b;omega)).trans ((heap_setCell_other _ ⟨b,0,none⟩ _ _ (by show w.heap.size≠b;omega)).trans h.ptr)
theorem PS.drewN {w wr:World} {b:Nat} {o:List UInt8} {c:UInt8} {n:Nat} (h:PS w b o c n wr) (m:Nat):PS w b o c n (wr.drewN m):=
 ⟨h.told,h.ptr,h.row,⟨h.touch.os,h.touch.tape,h.touch.output,h.touch.size,h.touch.block⟩⟩
theorem PS.cells {w wr:World} {b:Nat} {o:List UInt8} {c:UInt8} {n:Nat} (h:PS w b o c n wr):wr.cell? ⟨w.heap.size+1,0,none⟩=some (.string ⟨o.toArray⟩)/\wr.cell? ⟨w.heap.size,0,none⟩=some (.pointer (some ⟨b,0,none⟩)):=by
 constructor
 ·rw [cell_of_row _ _ _ _ _ _ h.told];rfl
 ·rw [cell_of_row _ _ _ _ _ _ h.ptr];rfl
theorem Zko {w wr:World} {b:Nat} {o:List UInt8} {c:UInt8} {n:Nat} (h:PS w b o c n wr) (hlt:b<w.heap.size) (hT:Sizes w) (hb:b≠1) (h0:n=0->c=0) (hn:n<=255) (ho:o.length<=1000) :
  Calls Tryz.prog 117 #[.bool true,.pointer (some ⟨w.heap.size+1,0,none⟩),.pointer (some ⟨w.heap.size,0,none⟩)] wr fun e w'=>e=.returned (.tuple #[])/\PS w b (o++packR c n) 0 0 w':=by
 refine(Znd b (w.heap.size+1) w.heap.size o c n wr h.row h.told h.ptr (by omega) (by omega) (by omega) (hT.touch h.touch (fun e=>hb e.symm)) hb h0 hn ho).mono ?_;rintro e w' ⟨rfl,h1,h2,h3,h4⟩;exact⟨rfl,h1,h2,h3,h.touch.trans h4 (fun i hi=>by rcases hi with hi|hi;exact Or.inl hi;exact Or.inr (by omega))⟩
theorem Zqm (c:UInt8) (n:Nat):(packR c n).length<=5:=by
 unfold packR;split
 ·simp
 ·rw [Zmm];exact Zlp _
def pstep (c:UInt8) (n:Nat) (x:UInt8):List UInt8×(UInt8×Nat):=
 let o:=if x=c then[] else packR c n
 let m:=if x=c then n+1 else 1
 if m=255 then(o++packP (x,255),(0,0)) else(o,(x,m))
theorem Zqn (b:Nat) (c:UInt8) (n:Nat) (x:UInt8) (w:World) (h:IsPacker w b c n) (hT:Sizes w) (hb:b≠1) (h0:n=0->c=0) (hn:n<=254) :
  Calls Tryz.prog 78 #[.pointer (some ⟨b,0,none⟩),.int .u8 (x.toNat:Int)] w fun e w'=>e=.returned (.string ⟨(pstep c n x).1.toArray⟩)/\IsPacker w' b (pstep c n x).2.1 (pstep c n x).2.2/\Touch (·=b) w w':=by
 have hlt:=h.lt;have HS:=zh (PS.start h);have HT:=zh hT;obtain⟨c0,c1,f0,f1⟩:=h.cells;clear h hT;by_cases hx:x=c
 ·have hne:((x.toNat:Int) != (c.toNat:Int))=false:=by rw [hx];simp
  have HX:=zh hx;clear hx;go_enter Tryz.func78,Tryz.ntmps78;go_wp2_with fail;refine(Zic _ _ _).mono ?_;rintro e w' ⟨rfl,rfl⟩;clear hne c0 c1 f0 f1;generalize hwq:(w.alloc (.cells #[.pointer (some ⟨b,0,none⟩)] 117)).alloc (.cells #[.string ⟨#[]⟩] 9)=wq at *;clear hwq;have HQ:Hid (PS w b [] c n wq):=HS;obtain⟨z1,z2⟩:=HQ.out.cells;obtain⟨z3,z4,z5,z6⟩:=HQ.out.row.cells;go_wp2_with fail
  go_still_tail 11,(by kernel_rfl)
  change wpList _ _ _ _ _ (wq.drewN 1);have HP:=zh ((HQ.out.drewN 1).put hlt x (n+1) (x.toNat:Int) ((n:Int)+1) rfl (by omega));by_cases h255:n=254
  ·have HR:=zh (show pstep c n x=([]++packP (x,255),(0,0)) by
    unfold pstep;rw [if_pos HX.out,if_pos HX.out];simp only [h255];rfl)
   have HK:=zh (show packR x 255=packP (x,255) from rfl);have HP2:=zh ((HQ.out.drewN 1).put hlt x 255 (x.toNat:Int) 255 rfl rfl);go_wp2_with fail;clear z1 z2 z3 z4 z5 z6;refine(Zko HP2.out hlt HT.out hb (fun e=>by omega) (by omega) (by simp)).mono ?_;rintro e w2 ⟨rfl,h2⟩;obtain⟨y1,y2⟩:=h2.cells;rw [HK.out] at y1;have H2:=zh h2;clear h2 h255;go_wp2_with fail;go_ret;rw [HR.out];exact⟨rfl,H2.out.row,H2.out.touch⟩
  ·have HR:=zh (show pstep c n x=([],(x,n+1)) by
    unfold pstep;rw [if_pos HX.out,if_pos HX.out];simp only;rw [if_neg (by omega)])
   have hbq:(((n:Nat):Int)+1==255)=false:=by rw [beq_eq_false_iff_ne];omega
   go_wp2_with fail;clear z1 z2 z3 z4 z5 z6;refine(Zic _ _ _).mono ?_;rintro e w' ⟨rfl,rfl⟩;obtain⟨y1,y2⟩:=HP.out.cells;go_wp2_with fail;go_ret;rw [HR.out];exact⟨rfl,HP.out.row,HP.out.touch⟩
 ·have hne:((x.toNat:Int) != (c.toNat:Int))=true:=by
   have h1:=Zia hx;simp [bne,h1]
  have HX:=zh hx;clear hx;go_enter Tryz.func78,Tryz.ntmps78;go_wp2_with fail;refine(Zko HS.out hlt HT.out hb h0 (by omega) (by simp)).mono ?_;rintro e wq ⟨rfl,hq⟩;have HQ:=zh hq;clear hq hne c0 c1 f0 f1;rw [List.nil_append] at HQ;have hpr:=Zqm c n;generalize hO:packR c n=O at *;have HO:=zh hO;clear hO;obtain⟨z1,z2⟩:=HQ.out.cells;obtain⟨z3,z4,z5,z6⟩:=HQ.out.row.cells;go_wp2_with fail
  go_still_tail 11,(by kernel_rfl)
  change wpList _ _ _ _ _ (wq.drewN 1);have HP:=zh ((HQ.out.drewN 1).put hlt x (0+1) (x.toNat:Int) 1 rfl rfl)
  have HR:=zh (show pstep c n x=(O,(x,0+1)) by
   unfold pstep;rw [if_neg HX.out,if_neg HX.out,HO.out];simp only;rw [if_neg (by omega)])
  go_wp2_with fail;clear z1 z2 z3 z4 z5 z6;refine(Zic _ _ _).mono ?_;rintro e w' ⟨rfl,rfl⟩;obtain⟨y1,y2⟩:=HP.out.cells;go_wp2_with fail;go_ret;rw [HR.out];exact⟨rfl,HP.out.row,HP.out.touch⟩
theorem ZhV {s:ByteArray} {k:Nat} (hk:k<s.size):s.data.toList[k]?=some s[k]:=Ztz rfl hk
theorem ZgU {s:ByteArray} {k:Nat} (hk:k<s.size):s.data.toList.take (k+1)=s.data.toList.take k++[s[k]]:=by
 rw [List.take_add_one,ZhV hk];rfl
structure Unp (I:List UInt8->World->Prop) (s:ByteArray) (k:Nat) (a:UInt8) (n:Nat) (o:List UInt8) (wr:World):Prop where
 run:urun (0,0) (s.data.toList.take k)=some ((a,n),o)
 inv:I o wr
 len:o.length<=255*k
 last:0<n->0<k/\s.data.toList[k-1]?=some a
theorem Unp.plain {I:List UInt8->World->Prop} {s:ByteArray} {k:Nat} {a:UInt8} {n:Nat} {o:List UInt8} {wr w':World} (h:Unp I s k a n o wr) (hk:k<s.size) (hn:n≠4)
  (m:Nat) (hm:m=if s[k]=a then n+1 else 1) (hw:I (o++List.replicate 1 s[k]) w'):Unp I s (k+1) s[k] m (o++List.replicate 1 s[k]) w':=by
 obtain⟨h1,h2,h3,h4⟩:=h;refine⟨?_,hw,by simp;omega,fun _=>⟨by omega,by simpa using ZhV hk⟩⟩;rw [ZgU hk,Zh9,h1];simp [ustep,hn,hm]
theorem Unp.count {I:List UInt8->World->Prop} {s:ByteArray} {k:Nat} {a:UInt8} {o:List UInt8} {wr w':World} (h:Unp I s k a 4 o wr) (hk:k<s.size) (hc:¬251<s[k].toNat)
  (hw:I (o++List.replicate s[k].toNat a) w'):Unp I s (k+1) a 0 (o++List.replicate s[k].toNat a) w':=by
 obtain⟨h1,h2,h3,h4⟩:=h;have:=s[k].toNat_lt;refine⟨?_,hw,by simp;omega,fun h=>by omega⟩;rw [ZgU hk,Zh9,h1];simp [ustep,hc]
theorem Zoi {st:UInt8×Nat} (l m:List UInt8) (h:urun st l=none):urun st (l++m)=none:=by rw [Zgt,h];rfl
theorem Unp.bad {I:List UInt8->World->Prop} {s:ByteArray} {k:Nat} {a:UInt8} {o:List UInt8} {wr:World} (h:Unp I s k a 4 o wr) (hk:k<s.size) (hc:251<s[k].toNat):dec s.data.toList=([],25):=by
 obtain⟨h1,h2,h3,h4⟩:=h
 have h5:urun (0,0) (s.data.toList.take (k+1))=none:=by
  rw [ZgU hk,Zh9,h1];simp [ustep,hc]
 have:=Zoi _ (s.data.toList.drop (k+1)) h5;rw [List.take_append_drop] at this;unfold dec res;rw [this];rfl
theorem Unp.done {I:List UInt8->World->Prop} {s:ByteArray} {a:UInt8} {n:Nat} {o:List UInt8} {wr:World} (h:Unp I s s.size a n o wr):dec s.data.toList=(if n=4 then([],24) else(o,0)):=by
 have h1:=h.run;rw [show s.data.toList.take s.size=s.data.toList from List.take_of_length_le (Nat.le_refl _)] at h1;unfold dec res;rw [h1];rfl
def Left (I:List UInt8->World->Prop) (l:List UInt8) (w:World):Prop:=∃o,I o w/\((dec l).2=0->o=(dec l).1)
theorem Zjd (F:FuncId) (caps:Array Value) (I:List UInt8->World->Prop) (s:ByteArray) (w:World) (hs:s.size<=4294967296)
  (he:∀args w,(callFunc F args).run Tryz.prog w=.ok (.enter F args) w) (hd:∀o w n,I o w->I o (w.drewN n))
  (hI:∀o (b:UInt8) (n:Nat) w,I o w->n<=255->o.length<=255*s.size->Calls Tryz.prog F (#[.int .u8 (b.toNat:Int),.int .i64 (n:Int)]++caps) w fun e w'=>e=.returned (.tuple #[])/\I (o++List.replicate n b) w')
  (h0:I [] w):Calls Tryz.prog 184 #[.string s,.func (.func F) #[] caps] w fun e w'=>e=.returned (.int .i64 ((dec s.data.toList).2:Int))/\Left I s.data.toList w':=by
 have HI:=zh hI;have HD:=zh hd;have H0:=zh h0;clear hI hd h0;go_enter Tryz.func184,Tryz.ntmps184;go_wp2_with fail
 go_loopw [5,6,9] (fun v _ i wr=>∃(k n:Nat) (a:UInt8) (o:List UInt8),k<=s.size/\i=.int .i64 k/\v=.int .i64 n/\n<=4/\Hid (Unp I s k a n o wr)) (fun _ _ i _=>s.size-(intOf i).toNat)
 case atStart=>exact⟨0,0,0,[],by omega,rfl,rfl,by omega,zh ⟨rfl,H0.out,by simp,fun h=>by omega⟩⟩
 case round=>
  obtain⟨k,n,a,o,hk,rfl,rfl,hn,hU⟩:=hrel;have hol:o.length<=255*s.size:=by have:=hU.out.len;omega
  by_cases hlt:k<s.size
  ·by_cases h4:n=4
   ·subst h4;obtain⟨hk0,hla⟩:=hU.out.last (by omega);have hk1:k-1<s.size:=by omega
    have hla2:s[k-1]=a:=by have:=ZhV hk1;rw [hla] at this;exact(Option.some.inj this).symm
    have HLA:=zh hla2;clear hla hla2;have kk:(0:Int)<(k:Int):=by omega
    by_cases hc:(251:Int)<(s[k].toNat:Int)
    ·have HBAD:=zh (hU.out.bad hlt (by omega));go_wp2_with fail;go_ret;exact⟨by rw [HBAD.out];rfl,o,hU.out.inv,fun e=>by rw [HBAD.out] at e;cases e⟩
    ·go_wp2_with fail
     have hix:∀W,(Instr.index 9 (.string s) (.int .i64 (IntKind.i64.wrap ((k:Int)-1)))).run Tryz.prog W=.ok (.int .u8 (a.toNat:Int)) W:=fun W=>by
      rw [IntWalk.i64_in _ (by omega),run_index_string W 9 s .i64 ((k:Int)-1) Tryz.underlying9];have e:((k:Int)-1).toNat=k-1:=by omega
      simp [e,HLA.out];omega
     go_still_tail 9,(by kernel_rfl)
     change wpList _ _ _ _ _ (wr.drewN 1);clear hix;go_wp2_with fail;have h255:=s[k].toNat_lt;refine(HI.out o a s[k].toNat _ (HD.out _ _ _ hU.out.inv) (by omega) hol).mono ?_;rintro e w2 ⟨rfl,hi2⟩;have HI2:=zh hi2;clear hi2;go_wp2_with fail;go_roundw
     case rel=>exact⟨k+1,0,a,_,by omega,by go_num,rfl,by omega,zh (hU.out.count hlt (by omega) HI2.out)⟩
     case measure=>simp [intOf];omega
   ·have hn4:((n:Int)==4)=false:=by rw [beq_eq_false_iff_ne];omega
    have h255:=s[k].toNat_lt
    have hbk:∀W,(Instr.index 9 (.string s) (.int .i64 (k:Int))).run Tryz.prog W=.ok (.int .u8 (s[k].toNat:Int)) W:=fun W=>by
     rw [run_index_string W 9 s .i64 (k:Int) Tryz.underlying9];simp [hlt]
    by_cases hn0:n=0
    ·subst hn0;go_wp2_with fail
     go_quiet (fail)
     go_wp2_with fail;refine(HI.out o s[k] 1 _ (HD.out _ _ _ hU.out.inv) (by omega) hol).mono ?_;rintro e w2 ⟨rfl,hi2⟩;have HI2:=zh hi2;clear hi2;go_wp2_with fail;go_roundw
     case rel=>exact⟨k+1,1,s[k],_,by omega,by go_num,rfl,by omega,zh (hU.out.plain hlt h4 1 (by simp) HI2.out)⟩
     case measure=>simp [intOf];omega
    ·obtain⟨hk0,hla⟩:=hU.out.last (by omega);have hk1:k-1<s.size:=by omega
     have hla2:s[k-1]=a:=by have:=ZhV hk1;rw [hla] at this;exact(Option.some.inj this).symm
     have HLA:=zh hla2;clear hla hla2;have hp:0<n:=by omega
     have hix:∀W,(Instr.index 9 (.string s) (.int .i64 (IntKind.i64.wrap ((k:Int)-1)))).run Tryz.prog W=.ok (.int .u8 (a.toNat:Int)) W:=fun W=>by
      rw [IntWalk.i64_in _ (by omega),run_index_string W 9 s .i64 ((k:Int)-1) Tryz.underlying9];have e:((k:Int)-1).toNat=k-1:=by omega
      simp [e,HLA.out];omega
     by_cases he:s[k]=a
     ·have hb:((s[k].toNat:Int)==(a.toNat:Int))=true:=ZjO he;have hb2:((s[k].toNat:Int) != (a.toNat:Int))=false:=by rw [he];simp
      have HE:=zh he;clear he;go_wp2_with fail
      go_quiet (fail)
      go_wp2_with fail;refine(HI.out o s[k] 1 _ (HD.out _ _ _ hU.out.inv) (by omega) hol).mono ?_;rintro e w2 ⟨rfl,hi2⟩;have HI2:=zh hi2;clear hi2;go_wp2_with fail;go_roundw
      case rel=>exact⟨k+1,n+1,s[k],_,by omega,by go_num,by go_num,by omega,zh (hU.out.plain hlt h4 (n+1) (by rw [if_pos HE.out]) HI2.out)⟩
      case measure=>simp [intOf];omega
     ·have hb:((s[k].toNat:Int)==(a.toNat:Int))=false:=Zia he;have hb2:((s[k].toNat:Int) != (a.toNat:Int))=true:=by simp [bne,hb]
      have HE:=zh he;clear he;go_wp2_with fail
      go_quiet (fail)
      go_wp2_with fail;refine(HI.out o s[k] 1 _ (HD.out _ _ _ hU.out.inv) (by omega) hol).mono ?_;rintro e w2 ⟨rfl,hi2⟩;have HI2:=zh hi2;clear hi2;go_wp2_with fail;go_roundw
      case rel=>exact⟨k+1,1,s[k],_,by omega,by go_num,rfl,by omega,zh (hU.out.plain hlt h4 1 (by rw [if_neg HE.out]) HI2.out)⟩
      case measure=>simp [intOf];omega
  ·obtain rfl:k=s.size:=by omega
   have HDN:=zh hU.out.done;by_cases h4:n=4
   ·subst h4;go_wp2_with fail;go_ret;rw [HDN.out];exact⟨rfl,o,hU.out.inv,fun e=>by rw [HDN.out] at e;cases e⟩
   ·have hn4:((n:Int)==4)=false:=by rw [beq_eq_false_iff_ne];omega
    go_wp2_with fail;go_ret;exact⟨by rw [HDN.out,if_neg h4];rfl,o,hU.out.inv,fun _=>by rw [HDN.out,if_neg h4]⟩
structure SureP (l:List UInt8) (T:List UInt8) (c:UInt8) (n:Nat) (QS:List Pc):Prop where
 pieces:pieces l=QS++(if n=0 then[] else[(c,n)])
 told:T=pack QS
 le:n<=254
 none:n=0->c=0/\∀p,QS.getLast?=some p->p.2=255
theorem Zi1 (w0 w:World) (b N:Nat) (c:UInt8) (n:Nat) (h:Counts w0 b N w) (hb:w0.heap.size<=b) (hN:N<=1099511627776) (hn:n<=255) :
  Calls Tryz.prog 209 #[.int .u8 (c.toNat:Int),.int .i64 (n:Int),.pointer (some ⟨b,0,none⟩)] w fun e w'=>e=.returned (.tuple #[])/\Counts w0 b (N+n) w':=by
 have c0:=cell_of_row _ _ 0 _ _ _ h.block;have f0:=frozen_of_row _ _ 0 _ _ h.block;have H:=zh h;clear h;simp at c0;go_enter Tryz.func209,Tryz.ntmps209;go_wp2_with fail;go_end0;exact⟨rfl,H.out.put hb (N+n) _ (by simp)⟩
theorem Zi2 (w0 w:World) (b:Nat) (o:List UInt8) (c:UInt8) (n:Nat) (h:Packs w0 b o w) (hN:o.length<=1099511627776) (hn:n<=255) :
  Calls Tryz.prog 185 #[.int .u8 (c.toNat:Int),.int .i64 (n:Int),.pointer (some ⟨b,0,none⟩)] w fun e w'=>e=.returned (.tuple #[])/\Packs w0 b (o++List.replicate n c) w':=by
 have H:=zh h;clear h;go_enter Tryz.func185,Tryz.ntmps185;go_wp2_with fail
 go_loopw [6] (fun i wr=>∃k:Nat,k<=n/\i=.int .i64 k/\Hid (Packs w0 b (o++List.replicate k c) wr)) (fun i _=>n-(intOf i).toNat)
 case atStart=>exact⟨0,by omega,rfl,by simpa using H⟩
 case round=>
  obtain⟨k,hk,rfl,hP⟩:=hrel;by_cases hlt:k<n
  ·have hs:=hP.out.below.size;go_wp2_with fail;refine(ZjP w0.heap.size b _ (c.toNat:Int) wr hP.out.used (by simp [u8s];omega) hs).mono ?_;rintro e w2 ⟨rfl,hu,hb⟩;have HU:=zh hu;have HB:=zh hb;clear hu hb;go_wp2_with fail;go_roundw
   case rel=>
    refine⟨k+1,by omega,by go_num,zh ⟨?_,hP.out.below.trans HB.out⟩⟩;have:=HU.out;rw [List.replicate_succ',<-List.append_assoc];rw [u8s,List.map_append];exact this
   case measure=>simp [intOf];omega
  ·obtain rfl:k=n:=by omega
   go_wp2_with fail;go_end0;exact⟨rfl,hP.out⟩
theorem ZrZ (l:List UInt8):(dec l).1.length<=255*l.length:=by
 have h:∀(l:List UInt8) (st:UInt8×Nat) (r:(UInt8×Nat)×List UInt8),urun st l=some r->r.2.length<=255*l.length:=by
  intro l
  induction l with
  | nil=>
   intro st r h;have:(st,[])=r:=by simpa [urun] using h
   subst this;simp
  | cons c l ih=>
   intro st r h;rw [urun] at h;obtain⟨q,hq,h2⟩:=Option.bind_eq_some_iff.1 h;obtain⟨q2,hq2,rfl⟩:=Option.map_eq_some_iff.1 h2;have h3:=ih _ _ hq2
   have h4:q.2.length<=255:=by
    unfold ustep at hq;split at hq
    ·split at hq
     ·cases hq
     ·have hc:=c.toNat_lt;obtain rfl:=Option.some.inj hq;simp;omega
    ·obtain rfl:=Option.some.inj hq;simp
   simp only [List.length_append,List.length_cons];omega
 unfold dec res;cases hr:urun (0,0) l with
 | none=>simp [outc]
 | some r=>
  obtain⟨st,o⟩:=r;have:=h l _ _ hr;show(if st.2=4 then(([]:List UInt8),24) else(o,0)).1.length<=_;split
  ·simp
  ·exact this
theorem Zkp (s:ByteArray) (w:World) (hs:s.size<=4294967296) :
  Calls Tryz.prog 182 #[.string s] w fun e w'=>e=.returned (.tuple #[.int .i64 ((dec s.data.toList).1.length:Int),.int .i64 ((dec s.data.toList).2:Int)])/\Below w.heap.size w w':=by
 have HE:=zh (Zoe s.data.toList);go_enter Tryz.func182,Tryz.ntmps182;go_wp2_with fail;refine(Zjd 209 #[.pointer (some ⟨w.heap.size,0,none⟩)] (fun o w'=>Counts w w.heap.size o.length w') s _ hs (enters_of Tryz.func209 (by kernel_rfl) rfl) (fun o w' n h=>h.drewN n) (fun o b n w' h hn ho=>?_) ?_).mono ?_
 ·rw [List.length_append,List.length_replicate];exact Zi1 w w' w.heap.size _ b n h (Nat.le_refl _) (by omega) hn
 ·exact⟨heap_alloc_new _ _,(Below.refl _ _).alloc (Nat.le_refl _) _⟩
 ·rintro e w1 ⟨rfl,o,hc,ho⟩;have c:=cell_of_row _ _ 0 _ _ _ hc.block;have B1:=zh hc.below;have HO:=zh ho;clear hc ho;simp at c;by_cases hz:(dec s.data.toList).2=0
  ·have e1:o=(dec s.data.toList).1:=HO.out hz;subst e1;rw [hz];have HZ:=zh hz;clear hz;go_wp2_with fail;go_ret2;exact⟨by rw [HZ.out];rfl,B1.out⟩
  ·have hb:(((dec s.data.toList).2:Int) != 0)=true:=by simpa using hz
   have hn:(dec s.data.toList).1=[]:=HE.out hz;have HN:=zh hn;clear hn;go_wp2_with fail;go_ret2;exact⟨by rw [HN.out];rfl,B1.out⟩
theorem Zkq (s:ByteArray) (w:World) (hs:s.size<=4294967296) :
  Calls Tryz.prog 154 #[.string s] w fun e w'=>e=.returned (.tuple #[.string ⟨(dec s.data.toList).1.toArray⟩,.int .i64 ((dec s.data.toList).2:Int)])/\Below w.heap.size w w':=by
 have HE:=zh (Zoe s.data.toList);have hlen:=ZrZ s.data.toList;have hz0:s.data.toList.length=s.size:=rfl;have hlen2:(dec s.data.toList).1.length<=1099511627776:=by omega
 clear hlen hz0;go_enter Tryz.func154,Tryz.ntmps154;go_wp2_with fail;refine(Zkp s w hs).mono ?_;rintro e w1 ⟨rfl,hb1⟩;have B1:=zh hb1;have hs1:=hb1.size;clear hb1;by_cases hz:(dec s.data.toList).2=0
 ·rw [hz];have HZ:=zh hz;clear hz;go_wp2_with fail;refine(Tryz.Builder_Grow_fresh w1.heap.size w1.heap.size (dec s.data.toList).1.length _ (Nat.le_refl _) (heap_alloc_new w1 _) (by simp) (by omega)).mono ?_;rintro e w2 ⟨rfl,hu2,hb2⟩;have HU2:=zh hu2;have HB2:=zh (((Below.refl w1.heap.size w1).alloc (Nat.le_refl _) (.cells #[.pointer none,.slice none 0 0] 194)).trans hb2);clear hu2 hb2;go_wp2_with fail;refine(Zjd 185 #[.pointer (some ⟨w1.heap.size,0,none⟩)] (fun o w'=>Packs w1 w1.heap.size o w') s _ hs (enters_of Tryz.func185 (by kernel_rfl) rfl) (fun o w' n h=>h.drewN n) (fun o b n w' h hn ho=>?_) ?_).mono ?_
  ·exact Zi2 w1 w' w1.heap.size o b n h (by omega) hn
  ·exact⟨HU2.out,HB2.out⟩
  ·rintro e w3 ⟨rfl,o,hp,ho⟩;obtain rfl:o=(dec s.data.toList).1:=ho HZ.out;have HU3:=zh hp.used;have HB3:=zh hp.below;have hs3:=hp.below.size;clear hp ho;go_wp2_with fail;refine(Tryz.Builder_String_any w1.heap.size w1.heap.size (dec s.data.toList).1 w3 (Or.inr HU3.out) hs3).mono ?_;rintro e w4 ⟨rfl,hb4⟩;have HB4:=zh (B1.out.trans ((HB3.out.trans hb4).mono hs1));clear hb4;go_wp2_with fail;go_ret2;exact⟨by rw [HZ.out];rfl,HB4.out⟩
 ·have hb:(((dec s.data.toList).2:Int) != 0)=true:=by simpa using hz
  have hn:(dec s.data.toList).1=[]:=HE.out hz;have HN:=zh hn;clear hn;go_wp2_with fail;go_ret2;exact⟨by rw [HN.out];rfl,B1.out⟩
end
section
open Go.RowKit RleM SplM
def crcL (l:List UInt8):BitVec 32:=CrcM.crc l
structure IsSp (B:Nat) (w:World) (t pb sb room:Nat) (c:UInt8) (n:Nat) (blk:List Pc) (bv:Value) (tp:Option Nat):Prop where
 obj:w.heap[t]?=some (.cells #[.int .i64 (room:Int),.pointer (some ⟨pb,0,none⟩),bv,.pointer (some ⟨sb,0,none⟩),.int .i64 ((flat blk).length:Int)] 124 (0,0))
 pk:IsPacker w pb c n
 sum:SumT w sb (crcL (flat blk)) tp
 row:IsRowB w bv (pack blk)
 ne:t≠pb/\t≠sb/\pb≠sb
 lap:∀k,bv.ownBlock=some k->k≠t/\k≠pb/\k≠sb/\tp≠some k
 tab:∀k,tp=some k->k≠t/\k≠pb
 base:B<=t/\B<=pb/\B<=sb
 bown:∀k,bv.ownBlock=some k->B<=k
def ftP (t pb sb:Nat) (bv:Value) (x:Nat):Prop:=x=t\/x=pb\/x=sb\/bv.ownBlock=some x
section
variable {B t pb sb room : Nat} {w w' : World} {c : UInt8} {n : Nat} {blk : List Pc} {bv : Value} {tp : Option Nat}
theorem IsSp.cells (h:IsSp B w t pb sb room c n blk bv tp):w.cell? ⟨t,0,none⟩=some (.int .i64 (room:Int))/\w.cell? ⟨t,1,none⟩=some (.pointer (some ⟨pb,0,none⟩))/\w.cell? ⟨t,2,none⟩=some bv/\w.cell? ⟨t,3,none⟩=some (.pointer (some ⟨sb,0,none⟩))/\w.cell? ⟨t,4,none⟩=some (.int .i64 ((flat blk).length:Int)):=by
 have h:=h.obj;refine⟨?_,?_,?_,?_,?_⟩<;>(rw [cell_of_row _ _ _ _ _ _ h];rfl)
theorem IsSp.frozen (h:IsSp B w t pb sb room c n blk bv tp) (i:Nat):w.frozen? ⟨t,i,none⟩=false:=frozen_of_row _ _ _ _ _ h.obj
theorem IsSp.lt (h:IsSp B w t pb sb room c n blk bv tp):t<w.heap.size:=(Array.getElem?_eq_some_iff.1 h.obj).1
theorem IsSp.other (h:IsSp B w t pb sb room c n blk bv tp) {X:Nat->Prop} (ht:Touch X w w') (h1:∀x,ftP t pb sb bv x->¬X x) (h2:∀k,tp=some k->¬X k):IsSp B w' t pb sb room c n blk bv tp:=
 ⟨(ht.block t h.lt (h1 t (Or.inl rfl))).trans h.obj,h.pk.other ht (h1 pb (Or.inr (Or.inl rfl))),h.sum.other ht (h1 sb (Or.inr (Or.inr (Or.inl rfl)))) h2,h.row.other (fun k hk=>ht.block k (h.row.lt k hk) (h1 k (Or.inr (Or.inr (Or.inr hk))))),h.ne,h.lap,h.tab,h.base,h.bown⟩
theorem IsSp.below (h:IsSp B w t pb sb room c n blk bv tp) (hb:Below w.heap.size w w'):IsSp B w' t pb sb room c n blk bv tp:=
 h.other (Touch.ofBelow (S:=fun _=>False) hb) (fun _ _ e=>e) (fun _ _ e=>e)
theorem Zgi (h:IsSp B w t pb sb room c n blk bv tp) {x:Nat} (hx:ftP t pb sb bv x):x<w.heap.size:=by
 rcases hx with rfl|rfl|rfl|hx
 ·exact h.lt
 ·exact h.pk.lt
 ·exact h.sum.lt.1
 ·exact h.row.lt x hx
theorem Zms (h:IsSp B w t pb sb room c n blk bv tp) {x:Nat} (hx:ftP t pb sb bv x):B<=x:=by
 rcases hx with rfl|rfl|rfl|hx
 ·exact h.base.1
 ·exact h.base.2.1
 ·exact h.base.2.2
 ·exact h.bown x hx
theorem IsSp.packed (h:IsSp B w t pb sb room c n blk bv tp) (ht:Touch (·=pb) w w') {c':UInt8} {n':Nat} (hp:IsPacker w' pb c' n'):IsSp B w' t pb sb room c' n' blk bv tp:=
 ⟨(ht.block t h.lt h.ne.1).trans h.obj,hp,h.sum.other ht h.ne.2.2.symm (fun k hk=>(h.tab k hk).2),h.row.other (fun k hk=>ht.block k (h.row.lt k hk) (h.lap k hk).2.1),h.ne,h.lap,h.tab,h.base,h.bown⟩
theorem IsSp.body (h:IsSp B w t pb sb room c n blk bv tp) {w1:World} {v':Value} {body:List UInt8} (ht:Touch (fun k=>bv.ownBlock=some k) w w1) (hr:IsRowB w1 v' body) (hv:∀k,v'.ownBlock=some k->bv.ownBlock=some k\/w.heap.size<=k) :
  (w1.setCell ⟨t,2,none⟩ v').heap[t]?=some (.cells #[.int .i64 (room:Int),.pointer (some ⟨pb,0,none⟩),v',.pointer (some ⟨sb,0,none⟩),.int .i64 ((flat blk).length:Int)] 124 (0,0)) /\
  IsPacker (w1.setCell ⟨t,2,none⟩ v') pb c n/\SumT (w1.setCell ⟨t,2,none⟩ v') sb (crcL (flat blk)) tp/\IsRowB (w1.setCell ⟨t,2,none⟩ v') v' body/\(∀k,v'.ownBlock=some k->k≠t/\k≠pb/\k≠sb/\tp≠some k)/\Touch (ftP t pb sb bv) w (w1.setCell ⟨t,2,none⟩ v'):=by
 have hlap:∀k,v'.ownBlock=some k->k≠t/\k≠pb/\k≠sb/\tp≠some k:=fun k hk=>by
  rcases hv k hk with e|e
  ·exact h.lap k e
  ·have l1:=h.lt;have l2:=h.pk.lt;have l3:=h.sum.lt;refine⟨by omega,by omega,by omega,fun e2=>?_⟩;have:=(l3.2 k e2).1;omega
 have o1:w1.heap[t]?=some (.cells #[.int .i64 (room:Int),.pointer (some ⟨pb,0,none⟩),bv,.pointer (some ⟨sb,0,none⟩),.int .i64 ((flat blk).length:Int)] 124 (0,0)):=(ht.block t h.lt (fun e=>(h.lap t e).1 rfl)).trans h.obj;have t2:Touch (·=t) w1 (w1.setCell ⟨t,2,none⟩ v'):=Zae (Touch.refl _ _);refine⟨heap_setCell_same _ _ 2 _ _ _ o1,(h.pk.other ht (fun e=>(h.lap pb e).2.1 rfl)).other t2 h.ne.1.symm,(h.sum.other ht (fun e=>(h.lap sb e).2.2.1 rfl) (fun k hk e=>(h.lap k e).2.2.2 hk)).other t2 h.ne.2.1.symm (fun k hk=>(h.tab k hk).1),hr.other (fun k hk=>t2.block k (hr.lt k hk) (hlap k hk).1),hlap,?_⟩;exact(ht.mono (fun i hi=>Or.inr (Or.inr (Or.inr hi)))).trans t2 (fun i hi=>Or.inl (Or.inl hi))
theorem Zoo (a b:List UInt8):CrcM.ng (CrcM.run (CrcM.ng (crcL a)) b)=crcL (a++b):=Zqb a b
theorem Zmt (ps:List Pc) (w:World) (h:IsSp B w t pb sb room c n blk bv tp) (hd:dec (pack ps)=(flat ps,0)) (h1:(pack ps).length<=1000) (h2:(pack blk).length<=1000000) (h3:(flat blk).length<=1000000000000) (h4:(flat ps).length<=1000) :
  Calls Tryz.prog 116 #[.pointer (some ⟨t,2,none⟩),.string ⟨(pack ps).toArray⟩] w fun e w'=>e=.returned (.tuple #[])/\∃bv' tp',IsSp B w' t pb sb room c n (blk++ps) bv' tp'/\Touch (ftP t pb sb bv) w w'/\(∀k,bv'.ownBlock=some k->bv.ownBlock=some k\/w.heap.size<=k):=by
 have hsz:(⟨(pack ps).toArray⟩:ByteArray).size=(pack ps).length:=Zaj _
 have HD:Hid (∀W,Calls Tryz.prog 154 #[.string ⟨(pack ps).toArray⟩] W fun e w'=>e=.returned (.tuple #[.string ⟨(flat ps).toArray⟩,.int .i64 0])/\Below W.heap.size W w'):=zh (fun W=>by
  have:=Zkq ⟨(pack ps).toArray⟩ W (by omega);rw [show(⟨(pack ps).toArray⟩:ByteArray).data.toList=pack ps from rfl,hd] at this;exact this)
 obtain⟨P,hP⟩:∃P:ByteArray,(⟨(pack ps).toArray⟩:ByteArray)=P:=⟨_,rfl⟩
 obtain⟨X,hX⟩:∃X:ByteArray,(⟨(flat ps).toArray⟩:ByteArray)=X:=⟨_,rfl⟩
 have HPD:Hid (P.data.toList=pack ps/\P.size<=1000):=zh ⟨by rw [<-hP],by rw [<-hP,Zaj];exact h1⟩;have HXD:Hid (X.data.toList=flat ps):=zh (by rw [<-hX]);have hXs:X.size=(flat ps).length:=by rw [<-hX];exact Zaj _
 rw [hP,hX] at HD;rw [hP];have H:=zh h;have hlt:=h.lt;clear h hd hP hX hsz;go_enter Tryz.func116,Tryz.ntmps116;go_wp2_with fail;refine(HD.out _).mono ?_;rintro e w1 ⟨rfl,hb1⟩;have K1:=H.out.below hb1;have HB1:=zh hb1;obtain⟨v1,w2,hap,hrow,ht,hown⟩:=Zlu w1 bv (pack blk) P K1.row (by have:=HPD.out.2;omega);rw [HPD.out.1] at hrow;obtain⟨o3,p3,s3,r3,l3,t3⟩:=K1.body ht hrow hown;obtain⟨_,_,c2,_,_⟩:=K1.cells;have o2:w2.heap[t]?=some (.cells #[.int .i64 (room:Int),.pointer (some ⟨pb,0,none⟩),bv,.pointer (some ⟨sb,0,none⟩),.int .i64 ((flat blk).length:Int)] 124 (0,0)):=(ht.block t K1.lt (fun e=>(K1.lap t e).1 rfl)).trans K1.obj;have d2:w2.cell? ⟨t,2,none⟩=some bv:=by rw [cell_of_row _ _ _ _ _ _ o2];rfl
 have g2:w2.frozen? ⟨t,2,none⟩=false:=frozen_of_row _ _ _ _ _ o2;obtain⟨a,cap,hv,_⟩:=K1.row.slice;obtain⟨a1,cap1,hv1,_⟩:=hrow.slice;obtain⟨L1,hL1⟩:∃L1,(pack blk).length=L1:=⟨_,rfl⟩
 obtain⟨L2,hL2⟩:∃L2,(pack blk++pack ps).length=L2:=⟨_,rfl⟩
 rw [hL1] at hv;rw [hL2] at hv1;have HK1:=zh K1;have HOWN:=zh hown;have HV:=zh (And.intro hv hv1);subst hv;subst hv1;obtain⟨W3,hW3⟩:∃W3,w2.setCell ⟨t,2,none⟩ (.slice a1 L2 cap1)=W3:=⟨_,rfl⟩
 rw [hW3] at o3 p3 s3 r3 t3;have c3:W3.cell? ⟨t,3,none⟩=some (.pointer (some ⟨sb,0,none⟩)):=by rw [cell_of_row _ _ _ _ _ _ o3];rfl
 have HO3:=zh o3;have HP3:=zh p3;have HS3:=zh s3;have HR3:=zh r3;have HL3:=zh l3;have HT3:=zh t3;clear K1 hb1 hrow ht hown o2 o3 p3 s3 r3 l3 t3 hL1 hL2;go_wp2_with (refine Zhp rfl _ _ 73 9 rfl _ _ rfl rfl _ _ hap ?_);refine(Zob sb _ tp X _ HS3.out (by unfold maxLen;omega)).mono ?_;rintro e w4 ⟨rfl,⟨tp',hs4,htp⟩,ht4⟩;rw [HXD.out,Zoo] at hs4;have o4:w4.heap[t]?=some (.cells #[.int .i64 (room:Int),.pointer (some ⟨pb,0,none⟩),.slice a1 L2 cap1,.pointer (some ⟨sb,0,none⟩),.int .i64 ((flat blk).length:Int)] 124 (0,0)):=(ht4.block t (Array.getElem?_eq_some_iff.1 HO3.out).1 (HK1.out.ne.2.1)).trans HO3.out;have c4:w4.cell? ⟨t,4,none⟩=some (.int .i64 ((flat blk).length:Int)):=by rw [cell_of_row _ _ _ _ _ _ o4];rfl
 have g4:w4.frozen? ⟨t,4,none⟩=false:=frozen_of_row _ _ _ _ _ o4;have p4:=HP3.out.other ht4 HK1.out.ne.2.2;have r4:=HR3.out.other (fun k hk=>ht4.block k (HR3.out.lt k hk) (HL3.out k hk).2.2.1)
 have l4:∀k,(Value.slice a1 L2 cap1).ownBlock=some k->tp'≠some k:=fun k hk e=>by
  rcases htp with rfl|⟨u,rfl,hu⟩
  ·exact(HL3.out k hk).2.2.2 e
  ·cases e;have:=HR3.out.lt k hk;omega
 have tb4:∀k,tp'=some k->k≠t/\k≠pb:=fun k hk=>by
  rcases htp with rfl|⟨u,rfl,hu⟩
  ·exact HK1.out.tab k hk
  ·cases hk;have l1:=(Array.getElem?_eq_some_iff.1 HO3.out).1;have l2:=HP3.out.lt;exact⟨by omega,by omega⟩
 obtain⟨N,hN⟩:∃N,(flat blk).length=N:=⟨_,rfl⟩
 obtain⟨M,hM⟩:∃M,X.size=M:=⟨_,rfl⟩
 obtain⟨N2,hN2⟩:∃N2,N+M=N2:=⟨_,rfl⟩
 have hMi:(X.size:Int)=(M:Int):=by omega
 have hN2i:(N:Int)+(M:Int)=(N2:Int):=by omega
 have hN2w:IntKind.i64.wrap (N2:Int)=(N2:Int):=IntWalk.i64_in _ (by omega);have hFL:(flat (blk++ps)).length=N2:=by rw [ZaH,List.length_append,<-hXs,hN,hM,hN2]
 rw [hN] at c4
 have HR:Hid (∃bv' tp',IsSp B (w4.setCell ⟨t,4,none⟩ (.int .i64 (N2:Int))) t pb sb room c n (blk++ps) bv' tp'/\Touch (ftP t pb sb (.slice a L1 cap)) w (w4.setCell ⟨t,4,none⟩ (.int .i64 (N2:Int)))/\(∀k,bv'.ownBlock=some k->(Value.slice a L1 cap).ownBlock=some k\/w.heap.size<=k)):=zh (by
  have t5:Touch (·=t) w4 (w4.setCell ⟨t,4,none⟩ (.int .i64 (N2:Int))):=Zae (Touch.refl _ _);have hsz1:=HB1.out.size;have hown2:∀k,(Value.slice a1 L2 cap1).ownBlock=some k->(Value.slice a L1 cap).ownBlock=some k\/w.heap.size<=k:=fun k hk=>(HOWN.out k hk).imp id (fun e=>Nat.le_trans hsz1 e)
  refine⟨.slice a1 L2 cap1,tp',⟨?_,p4.other t5 HK1.out.ne.1.symm,?_,?_,HK1.out.ne,fun k hk=>⟨(HL3.out k hk).1,(HL3.out k hk).2.1,(HL3.out k hk).2.2.1,l4 k hk⟩,tb4,HK1.out.base,fun k hk=>?_⟩,?_,hown2⟩
  ·have:=heap_setCell_same w4 t 4 _ _ (.int .i64 (N2:Int)) o4;rw [hFL];exact this
  ·rw [ZaH];exact hs4.other t5 HK1.out.ne.2.1.symm (fun k hk=>(tb4 k hk).1)
  ·rw [ZbR];exact r4.other (fun k hk=>t5.block k (r4.lt k hk) (HL3.out k hk).1)
  ·rcases HOWN.out k hk with e|e
   ·exact HK1.out.bown k e
   ·have:=HK1.out.base.1;have:=HK1.out.lt;omega
  ·have t04:Touch (ftP t pb sb (.slice a L1 cap)) w W3:=(Touch.ofBelow (S:=ftP t pb sb (.slice a L1 cap)) HB1.out).trans HT3.out (fun i hi=>Or.inl hi);exact(t04.trans ht4 (fun i hi=>Or.inl (Or.inr (Or.inr (Or.inl hi))))).trans t5 (fun i hi=>Or.inl (Or.inl hi)))
 clear o4 p4 r4 l4 tb4 hs4 htp ht4 hFL hXs hN hM hN2;go_wp2_with fail;go_end0;exact⟨rfl,HR.out⟩
end
end
section
open Go.RowKit RleM SplM
theorem IsRowB.conv {w:World} {v:Value} {l:List UInt8} (h:IsRowB w v l) (W:World) (hW:W.heap=w.heap):(convert 73 9 v).run Tryz.prog W=.ok (.string ⟨l.toArray⟩) W:=by
 rcases h with⟨rfl,rfl⟩|⟨g,off,cap,rfl,hg,h1,h2,hc,_⟩
 ·exact ZjN (W:=W) (base:=0) (v:=.slice none 0 0) (n:=0) (l:=[]) (World.ownsRow_nil _ _ _ _)
 ·refine run_convert_bytes_back W 73 9 5 ⟨g,off,none⟩ cap l Tryz.underlying73 Tryz.underlying5 Tryz.underlying9 (fun j hj=>?_);rw [Addr.add_lit,World.cell?_of_block (w:=w) (w':=W) (a:=⟨g,off+j,none⟩) (by rw [hW]),hc j _ (List.getElem?_eq_getElem hj)];rfl
def blkV (blk:List Pc):Array Value:=#[.string ⟨(pack blk).toArray⟩,.int .u32 ((crcL (flat blk)).toNat:Int),.int .i64 ((flat blk).length:Int)]
def blk0:Array Value:=#[.string ⟨#[]⟩,.int .u32 0,.int .i64 0]
theorem ZgV (A:Array Value) (h:A.size=3):(Tryz.prog.info? 56).map (·.size)=some A.size:=by rw [h];kernel_rfl
theorem Zng (b:Nat) (X:BitVec 32) (w:World) (h:w.cell? ⟨b,1,none⟩=some (.int .u32 (X.toNat:Int))) :
  Calls Tryz.prog 119 #[.pointer (some ⟨b,0,none⟩)] w fun e w'=>e=.returned (.int .u32 (X.toNat:Int))/\w'=w:=by
 go_enter Tryz.func119,Tryz.ntmps119;go_wp2_with fail;go_ret;exact⟨rfl,rfl⟩
section
variable {B t pb sb room : Nat} {w w' : World} {c : UInt8} {n : Nat} {blk : List Pc} {bv : Value} {tp : Option Nat}
theorem ZjS (w:World) (h:IsSp B w t pb sb room c n blk bv tp) :
  Calls Tryz.prog 80 #[.pointer (some ⟨t,2,none⟩)] w fun e w'=>e=.returned (.agg (blkV blk))/\IsSp B w' t pb sb room c n [] (.slice none 0 0) tp/\Touch (ftP t pb sb bv) w w':=by
 have H:=zh h;obtain⟨_,_,c2,c3,c4⟩:=h.cells;have g2:=h.frozen 2;have g4:=h.frozen 4;have hcv:=fun W hW=>h.row.conv W hW
 obtain⟨a,cap,hv,_⟩:=h.row.slice;obtain⟨BODY,hBODY⟩:∃BODY:ByteArray,(⟨(pack blk).toArray⟩:ByteArray)=BODY:=⟨_,rfl⟩
 obtain⟨X,hX⟩:∃X,crcL (flat blk)=X:=⟨_,rfl⟩
 obtain⟨N,hN⟩:∃N,(flat blk).length=N:=⟨_,rfl⟩
 have HV:Hid (IsSum w sb X):=zh (by rw [<-hX];exact h.sum.is);rw [show blkV blk=#[.string BODY,.int .u32 (X.toNat:Int),.int .i64 (N:Int)] by unfold blkV;rw [hBODY,hX,hN]];rw [hBODY] at hcv;rw [hN] at c4;obtain⟨L,hL⟩:∃L,(pack blk).length=L:=⟨_,rfl⟩
 rw [hL] at hv;have HVV:=zh hv;have HXX:=zh (And.intro hX hN);have HBD:=zh hBODY;subst hv;clear h hBODY hX hN hL;go_enter Tryz.func80,Tryz.ntmps80;go_wp2_with fail;obtain⟨wq,hwq⟩:∃wq,w.alloc (.cells #[.string ⟨#[]⟩,.int .u32 0,.int .i64 0] 56)=wq:=⟨_,rfl⟩
 have hbq:Below w.heap.size w wq:=by rw [<-hwq];exact(Below.refl _ _).alloc (Nat.le_refl _) _
 have hr0:wq.heap[w.heap.size]?=some (.cells blk0 56 (0,0)):=by rw [<-hwq];exact heap_alloc_new _ _
 have hqs:wq.heap.size=w.heap.size+1:=by rw [<-hwq];show(w.heap.push _).size=_;simp
 have K:=zh (H.out.below hbq);have HBQ:=zh hbq;have HR0:=zh hr0;have HQS:=zh hqs
 have HSB:Hid (∀W,Below wq.heap.size wq W->W.cell? ⟨t,2,none⟩=some (.slice a L cap)/\W.cell? ⟨t,3,none⟩=some (.pointer (some ⟨sb,0,none⟩))/\W.cell? ⟨t,4,none⟩=some (.int .i64 (N:Int))/\W.cell? ⟨sb,1,none⟩=some (.int .u32 (X.toNat:Int))/\(convert 73 9 (.slice a L cap)).run Tryz.prog W=.ok (.string BODY) W):=zh (fun W hb=>by
  have k:=K.out.below hb;obtain⟨_,_,x2,x3,x4⟩:=k.cells;have hv:=k.row.conv W rfl;obtain⟨x5,_⟩:=k.sum.is.cells;rw [HXX.out.2] at x4;rw [HXX.out.1] at x5;rw [HBD.out] at hv;exact⟨x2,x3,x4,x5,hv⟩)
 rw [hwq];clear hwq hbq hr0 hqs c2 c3 c4 g2 g4 hcv;have hbd:Below wq.heap.size wq (wq.drewN 1):=⟨rfl,rfl,rfl,Nat.le_refl _,fun _ _=>rfl⟩
 have hba:∀o,Below wq.heap.size wq ((wq.drewN 1).alloc o):=fun o=>hbd.alloc (Nat.le_refl _) o
 have hbs:∀o x y z,Below wq.heap.size wq (((((wq.drewN 1).alloc o).setCell ⟨wq.heap.size,0,none⟩ x).setCell ⟨wq.heap.size,1,none⟩ y).setCell ⟨wq.heap.size,2,none⟩ z):=fun o x y z=>(((hba o).setCell (p:=⟨wq.heap.size,0,none⟩) (Nat.le_refl _) x).setCell (p:=⟨wq.heap.size,1,none⟩) (Nat.le_refl _) y).setCell (p:=⟨wq.heap.size,2,none⟩) (Nat.le_refl _) z
 go_region_held3 (fun W=>W.cell? ⟨t,2,none⟩=some (.slice a L cap)/\W.cell? ⟨t,3,none⟩=some (.pointer (some ⟨sb,0,none⟩))/\W.cell? ⟨t,4,none⟩=some (.int .i64 (N:Int))/\W.cell? ⟨sb,1,none⟩=some (.int .u32 (X.toNat:Int))/\(convert 73 9 (.slice a L cap)).run Tryz.prog W=.ok (.string BODY) W)
  (first|exact HSB.out _ hbd|exact HSB.out _ (hba _)|exact HSB.out _ (hbs _ _ _ _))
  (first|(go_at_call 119;refine(Zng sb X _ (by first|exact(HSB.out _ hbd).2.2.2.1|exact(HSB.out _ (hba _)).2.2.2.1)).mono ?_;rintro e w' ⟨rfl,rfl⟩))
 all_goals
  clear hbd hba hbs HSB;obtain⟨A,hA⟩:∃A:Array Value,#[Value.string BODY,.int .u32 (X.toNat:Int),.int .i64 (N:Int)]=A:=⟨_,rfl⟩
  rw [hA];have hA3:A.size=3:=by rw [<-hA];rfl
  have hAc:A.all (·.oneCell')=true:=by rw [<-hA];simp [Value.oneCell']
  have HA:=zh hA;obtain⟨wb,hwb⟩:∃wb,(wq.alloc (.cells A 56)).drew=wb:=⟨_,rfl⟩
  have hbb:Below wq.heap.size wq wb:=by rw [<-hwb];exact((Below.refl _ _).alloc (Nat.le_refl _) (.cells A 56)).trans ⟨rfl,rfl,rfl,Nat.le_refl _,fun _ _=>rfl⟩
  have hb0:wb.heap[wq.heap.size]?=some (.cells A 56 (0,0)):=by rw [<-hwb];exact heap_alloc_new wq (.cells A 56)
  rw [hwb];have KB:=K.out.below hbb;have r0:wb.heap[w.heap.size]?=some (.cells blk0 56 (0,0)):=(hbb.block _ (by have:=HQS.out;omega)).trans HR0.out;have tB:Touch (ftP t pb sb (.slice a L cap)) w wb:=(Touch.ofBelow (S:=ftP t pb sb (.slice a L cap)) (HBQ.out.trans (hbb.mono HBQ.out.size)))
  obtain⟨_,_,d2,_,d4⟩:=KB.cells;have g2:=KB.frozen 2;have g4:=KB.frozen 4;obtain⟨W5,hW5⟩:∃W5,wb.setCell ⟨t,2,none⟩ (.slice none 0 0)=W5:=⟨_,rfl⟩
  have o5:=heap_setCell_same wb t 2 _ _ (.slice none 0 0) KB.obj;rw [hW5] at o5;have d54:W5.cell? ⟨t,4,none⟩=some (.int .i64 ((flat blk).length:Int)):=by rw [cell_of_row _ _ _ _ _ _ o5];rfl
  have g54:W5.frozen? ⟨t,4,none⟩=false:=frozen_of_row _ _ _ _ _ o5;obtain⟨W6,hW6⟩:∃W6,W5.setCell ⟨t,4,none⟩ (.int .i64 0)=W6:=⟨_,rfl⟩
  have o6:=heap_setCell_same W5 t 4 _ _ (.int .i64 0) o5;rw [hW6] at o6;have t6:Touch (·=t) wb W6:=by rw [<-hW6,<-hW5];exact Zae (Zae (Touch.refl _ _))
  have o6':W6.heap[t]?=some (.cells #[.int .i64 (room:Int),.pointer (some ⟨pb,0,none⟩),.slice none 0 0,.pointer (some ⟨sb,0,none⟩),.int .i64 0] 124 (0,0)):=o6;have c63:W6.cell? ⟨t,3,none⟩=some (.pointer (some ⟨sb,0,none⟩)):=by rw [cell_of_row _ _ _ _ _ _ o6'];rfl
  have s6:=KB.sum.other t6 KB.ne.2.1.symm (fun k hk=>(KB.tab k hk).1);have HO6:=zh o6';have HP6:=zh (KB.pk.other t6 KB.ne.1.symm);have HT6:=zh (tB.trans t6 (fun i hi=>Or.inl (Or.inl hi)));have hne1:wq.heap.size≠t:=by have:=K.out.lt;omega
  have hne2:w.heap.size≠t:=by have:=H.out.lt;omega
  have HB6:=zh ((t6.block _ (Array.getElem?_eq_some_iff.1 hb0).1 hne1).trans hb0);have HR6:=zh ((t6.block _ (Array.getElem?_eq_some_iff.1 r0).1 hne2).trans r0);have HS6:=zh s6;have HKB:Hid (t≠pb/\t≠sb/\pb≠sb):=zh KB.ne;clear hA hwb hbb hb0 KB r0 tB o5 o6 o6' t6 s6;go_wp2_with fail;refine(Zm5 sb _ tp _ HS6.out).mono ?_;rintro e w7 ⟨rfl,s7,t7⟩;have hb7:=(t7.block _ (Array.getElem?_eq_some_iff.1 HB6.out).1 (fun e=>by have e2:wq.heap.size=sb:=e;have:=K.out.sum.lt.1;omega)).trans HB6.out;have hr7:=(t7.block _ (Array.getElem?_eq_some_iff.1 HR6.out).1 (fun e=>by have e2:w.heap.size=sb:=e;have:=H.out.sum.lt.1;omega)).trans HR6.out;have hi:=ZgV A hA3;have hold:blk0.size=A.size:=by rw [hA3];rfl
  have o7:=(t7.block t (Array.getElem?_eq_some_iff.1 HO6.out).1 HKB.out.2.1).trans HO6.out
  have HR:Hid (IsSp B (w7.setRow w.heap.size A) t pb sb room c n [] (.slice none 0 0) tp/\Touch (ftP t pb sb (.slice a L cap)) w (w7.setRow w.heap.size A)):=zh (by
   have t8:Touch (·=w.heap.size) w7 (w7.setRow w.heap.size A):=⟨rfl,rfl,rfl,by simp [World.setRow],fun j _ hj=>setRow_other w7 _ j _ hj⟩
   have l1:=H.out.lt;have l2:=H.out.pk.lt;have l3:=H.out.sum.lt;refine⟨⟨(t8.block t (Array.getElem?_eq_some_iff.1 o7).1 (by omega)).trans o7,(HP6.out.other t7 HKB.out.2.2).other t8 (by omega),?_,Or.inl ⟨rfl,rfl⟩,HKB.out,fun k hk=>(by cases hk),H.out.tab,H.out.base,fun k hk=>(by cases hk)⟩,(HT6.out.trans t7 (fun i hi=>Or.inl (Or.inr (Or.inr (Or.inl hi))))).trans t8 (fun i hi=>Or.inr (by rw [hi];exact Nat.le_refl _))⟩;have e0:crcL (flat [])=0#32:=CrcM.crc_nil;rw [e0];exact s7.other t8 (by omega) (fun k hk=>by have:=(l3.2 k hk).1;omega))
  clear o7 s7 t7;go_wp2_with (first|(refine wpList_load_row rfl 56 _ rfl wq.heap.size rfl 56 A (0,0) _ hb7 Tryz.underlying56 rfl hi ?_)|(refine wpList_store_row rfl 56 _ _ rfl w.heap.size A rfl rfl 56 blk0 hr7 hi hold hAc ?_));refine bodyPost_ret (v:=.agg A) (results_cell_row rfl _ _ w.heap.size 56 A (0,0) _ rfl (setRow_heap w7 _ blk0 A 56 _ hr7) Tryz.underlying56 rfl hi) rfl ⟨by rw [HA.out],HR.out⟩
end
end
end Go.Proofs.YtlfpbcadcfaboaaGreatDoor
