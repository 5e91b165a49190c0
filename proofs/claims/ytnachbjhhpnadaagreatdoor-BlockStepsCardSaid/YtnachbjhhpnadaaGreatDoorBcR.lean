import Derived.Test.YtnachbjhhpnadaaGreatDoorBcB
import Derived.Test.YtnachbjhhpnadaaGreatDoorBcG
import Derived.Test.YtnachbjhhpnadaaGreatDoorBcH
import Derived.Test.YtnachbjhhpnadaaGreatDoorBcI
import Derived.Test.YtnachbjhhpnadaaGreatDoorBcJ
import Derived.Test.YtnachbjhhpnadaaGreatDoorBcL
import Derived.Test.YtnachbjhhpnadaaGreatDoorBcM
import Derived.Test.YtnachbjhhpnadaaGreatDoorProg
import Derived.Shelf.Strings.Builder1
import Derived.Shelf.Strings.Builder2
import Derived.Shelf.Strings.BuilderF
import Derived.Shelf.Strings.BuilderK
import Derived.Shelf.Strings.Builder2Cap
import Derived.Shelf.Strings.BuilderCap
set_option linter.unusedVariables false
set_option linter.unusedSimpArgs false
set_option maxHeartbeats 8000000
set_option maxRecDepth 100000
namespace Go.Proofs.YtnachbjhhpnadaaGreatDoor
end Go.Proofs.YtnachbjhhpnadaaGreatDoor
namespace Go.Proofs
open Go.Shelf
def Tryz.lays169_ren:Go.Shelf.Ren:=⟨fun|169=>138|n=>n,fun|70=>184|9=>9|0=>0|72=>186|37=>71|127=>256|3=>3|5=>5|n=>n,fun  | n=>n⟩
theorem Tryz.lays169:Go.Proofs.Lays.n169 Tryz.prog Tryz.lays169_ren:={
 mixed:=by kernel_rfl
 f169:=Tryz.func138.trans (congrArg some (by kernel_rfl))
 t0:=Tryz.underlying0
 a0:=Tryz.isAgg0
 z0:=Tryz.sizeOf0
 v0:=Tryz.zeroValue0
 t3:=Tryz.underlying3
 a3:=Tryz.isAgg3
 z3:=Tryz.sizeOf3
 v3:=Tryz.zeroValue3
 t9:=Tryz.underlying9
 a9:=Tryz.isAgg9
 z9:=Tryz.sizeOf9
 v9:=Tryz.zeroValue9
 t37:=Tryz.underlying71
 a37:=Tryz.isAgg71
 z37:=Tryz.sizeOf71
 v37:=Tryz.zeroValue71
 t70:=Tryz.underlying184
 a70:=Tryz.isAgg184
 z70:=Tryz.sizeOf184
 v70:=Tryz.zeroValue184
 t72:=Tryz.underlying186
 a72:=Tryz.isAgg186
 z72:=Tryz.sizeOf186
 v72:=Tryz.zeroValue186
 t127:=Tryz.underlying256
 a127:=Tryz.isAgg256
 z127:=Tryz.sizeOf256
 v127:=Tryz.zeroValue256 }
theorem Tryz.Builder_Extra_169:Builder.Extra Tryz.prog Tryz.lays169_ren:={
 sizeBuilder:=by kernel_rfl
 liesBuilder:=by kernel_rfl
 t5:=Tryz.underlying5
 a5:=Tryz.isAgg5
 z5:=Tryz.sizeOf5
 v5:=Tryz.zeroValue5
 infoByte:=by kernel_rfl
 cellsByte:=by kernel_rfl
 sizeByte:=by kernel_rfl
 neB5:=by decide }
open Go.RowKit in
theorem Tryz.Builder_String_any (B b:Nat) (l:List UInt8) (w:World) (h:Lib.IsBuilder 186 5 B b (Lib.byteCells l) w) (hBw:B<=w.heap.size) :
  Calls Tryz.prog 138 #[.pointer (some ⟨b,0,none⟩)] w fun e w'=>e=.returned (.string ⟨l.toArray⟩)/\Below B w w':=Any.Builder_String_any Tryz.lays169 Tryz.Builder_Extra_169 B b l w h hBw
def Tryz.lays165_ren:Go.Shelf.Ren:=⟨fun|165=>134|240=>198|241=>199|276=>241|277=>242|n=>n,fun|70=>184|3=>3|0=>0|4=>4|9=>9|20=>20|72=>186|37=>71|164=>296|5=>5|n=>n,fun  | n=>n⟩
theorem Tryz.lays165:Go.Proofs.Lays.n165 Tryz.prog Tryz.lays165_ren:={
 mixed:=by kernel_rfl
 f165:=Tryz.func134.trans (congrArg some (by kernel_rfl))
 f240:=Tryz.func198.trans (congrArg some (by kernel_rfl))
 f241:=Tryz.func199.trans (congrArg some (by kernel_rfl))
 f276:=Tryz.func241.trans (congrArg some (by kernel_rfl))
 f277:=Tryz.func242.trans (congrArg some (by kernel_rfl))
 t0:=Tryz.underlying0
 a0:=Tryz.isAgg0
 z0:=Tryz.sizeOf0
 v0:=Tryz.zeroValue0
 t3:=Tryz.underlying3
 a3:=Tryz.isAgg3
 z3:=Tryz.sizeOf3
 v3:=Tryz.zeroValue3
 t4:=Tryz.underlying4
 a4:=Tryz.isAgg4
 z4:=Tryz.sizeOf4
 v4:=Tryz.zeroValue4
 t9:=Tryz.underlying9
 a9:=Tryz.isAgg9
 z9:=Tryz.sizeOf9
 v9:=Tryz.zeroValue9
 t20:=Tryz.underlying20
 a20:=Tryz.isAgg20
 z20:=Tryz.sizeOf20
 v20:=Tryz.zeroValue20
 t37:=Tryz.underlying71
 a37:=Tryz.isAgg71
 z37:=Tryz.sizeOf71
 v37:=Tryz.zeroValue71
 t70:=Tryz.underlying184
 a70:=Tryz.isAgg184
 z70:=Tryz.sizeOf184
 v70:=Tryz.zeroValue184
 t72:=Tryz.underlying186
 a72:=Tryz.isAgg186
 z72:=Tryz.sizeOf186
 v72:=Tryz.zeroValue186
 t164:=Tryz.underlying296
 a164:=Tryz.isAgg296
 z164:=Tryz.sizeOf296
 v164:=Tryz.zeroValue296 }
theorem Tryz.Builder_Extra_165:Builder.Extra Tryz.prog Tryz.lays165_ren:={
 sizeBuilder:=by kernel_rfl
 liesBuilder:=by kernel_rfl
 t5:=Tryz.underlying5
 a5:=Tryz.isAgg5
 z5:=Tryz.sizeOf5
 v5:=Tryz.zeroValue5
 infoByte:=by kernel_rfl
 cellsByte:=by kernel_rfl
 sizeByte:=by kernel_rfl
 neB5:=by decide }
open Go.RowKit in
theorem Tryz.Builder_Grow_fresh (B b n:Nat) (w:World) (hB:B<=b) (hbk:w.heap[b]?=some (.cells #[.pointer none,.slice none 0 0] 186 (0,0))) (hBw:B<=w.heap.size) (hn:n<=281474976710656) :
  Calls Tryz.prog 134 #[.pointer (some ⟨b,0,none⟩),.int .i64 n] w fun e w'=>e=.returned (.tuple #[])/\(Lib.BuilderAt 186 5 B b (.pointer (some ⟨b,0,none⟩)) [] w'/\Below B w w'):=Any.Builder_Grow_fresh Tryz.lays165 Tryz.Builder_Extra_165 B b n w hB hbk hBw hn
end Go.Proofs
namespace Go.Proofs.YtnachbjhhpnadaaGreatDoor
section
open Go.RowKit
def Used (B b:Nat) (bs:List Value) (w:World):Prop:=Lib.BuilderAt 186 5 B b (.pointer (some ⟨b,0,none⟩)) bs w
theorem Used.drewN {B b:Nat} {bs:List Value} {w:World} (h:Used B b bs w) (n:Nat):Used B b bs (w.drewN n):=h
theorem Zf5 (B b:Nat) (bs:List Value) (w:World) (h:Used B b bs w):Calls Tryz.prog 198 #[.pointer (some ⟨b,0,none⟩)] w fun e w'=>e=.returned (.tuple #[])/\w=w':=
 (Any.Builder_copyCheck_used (L:={ Tryz.lays165 with }) Tryz.Builder_Extra_165.toX72 b w (Lib.BuilderAt.cell0 h)).mono fun _ _ ⟨h1,h2⟩=>⟨h1,h2.symm⟩
theorem ZrK {w:World} {b B g:Nat} {cs:Array Value} {v:Value} {n:Nat} {xs:List Value} (h:w.ownsRow B 5 1 v n xs) (hb:w.heap[b]?=some (.cells cs 186 (0,0))):v.ownBlock≠some b:=by
 rcases h.2 with⟨rfl,_⟩|⟨g,cap,cur,rfl,_,hg,_⟩
 ·intro e;cases e
 ·intro e;obtain rfl:g=b:=by simpa [Value.ownBlock] using e
  rw [hb] at hg;simp at hg
theorem Zlp {w:World} {B b:Nat} {p v v':Value} {bs:List Value} (hB:B<=b) (hb:w.heap[b]?=some (.cells #[.pointer (some ⟨b,0,none⟩),v] 186 (0,0))) (h:w.ownsRow B 5 1 v' bs.length bs) :
  Used B b bs (w.setCell ⟨b,1,none⟩ v'):=
 ⟨hB,v',heap_setCell_same _ _ 1 _ _ _ hb,Zah h (fun k hk=>heap_setCell_other w ⟨b,1,none⟩ k v' (fun e=>ZrK (g:=0) h hb (by rw [hk];exact congrArg some e))),ZrK (g:=0) h hb⟩
theorem Zhg (B b:Nat) (bs:List Value) (c:Int) (w:World) (h:Used B b bs w) (hlen:bs.length+1<=140737488355328) (hBw:B<=w.heap.size) :
  Calls Tryz.prog 137 #[.pointer (some ⟨b,0,none⟩),.int .u8 c] w fun e w'=>e=.returned .nilIface/\Used B b (bs++[.int .u8 c]) w'/\Below B w w':=by
 obtain⟨i0,hi,hz0,hz1,hz2⟩:=info_parts Zr1;have hlt:=Lib.BuilderAt.lt h;have H:=zh h;obtain⟨hB,v,hbk,hown,hne⟩:=h;have c1:w.cell? ⟨b,1,none⟩=some v:=by rw [Lib.cell_of_heap hbk];rfl
 have HK:=zh hbk;have HO:=zh hown;have HN:=zh hne;have HI:=zh hi;have HZ0:=zh hz0;have HZ1:=zh hz1;have HZ2:=zh hz2;clear hbk hown hne hi hz0 hz1 hz2;go_enter Tryz.func137,Tryz.ntmps137;go_wp2_with fail;refine(Zf5 B b bs w H.out).mono ?_;rintro e w' ⟨rfl,rfl⟩;go_wp2_with (at_builtin;refine wpList_append_own _ rfl _ _ 71 rfl B 5 i0 (.int .u8 0) 1 1 Tryz.underlying71 HI.out HZ0.out HZ1.out HZ2.out rfl (by decide) _ _ _ rfl (HO.out.alloc _) ⟨w.heap.size,0,none⟩ 1 1 [.int .u8 c] rfl rfl ?c1 ?c2 ?c3 ?c4 ?c5 ?_)
 case c1=>exact ZaD _ _ _ _ rfl
 case c2=>intro u hu;simp at hu;subst hu;rfl
 case c3=>unfold maxLen;omega
 case c4=>omega
 case c5=>simp;omega
 intro v' w1 hown' hgrow _;obtain⟨a',c',rfl⟩:=Zax hown';have hk1:w1.heap[b]?=some (.cells #[.pointer (some ⟨b,0,none⟩),v] 186 (0,0)):=(hgrow.block b (by simp;omega) (fun e=>HN.out e.symm)).trans ((Below.heap_alloc w _ b hlt).trans HK.out);have d1:w1.cell? ⟨b,1,none⟩=some v:=by rw [Lib.cell_of_heap hk1];rfl
 have f1:w1.frozen? ⟨b,1,none⟩=false:=Lib.frozen_of_heap hk1 1;have HK1:=zh hk1;have HO1:=zh hown';have HB1:=zh (Below.grown ((Below.refl B w).alloc hBw _) hgrow (by simp;omega) (fun j hj=>(HO.out.lt j hj).1));clear hk1 hown' hgrow;go_wp2_with fail;go_ret;refine⟨rfl,?_,HB1.out.setCell hB _⟩;exact Zlp (p:=v) hB HK1.out (by have:=HO1.out;rwa [List.length_append])
theorem Zfh (B b:Nat) (bs:List Value) (c:Int) (w:World) (h0:Lib.IsBuilder 186 5 B b bs w) (hlen:bs.length+1<=140737488355328) (hBw:B<=w.heap.size) :
  Calls Tryz.prog 137 #[.pointer (some ⟨b,0,none⟩),.int .u8 c] w fun e w'=>e=.returned .nilIface/\Used B b (bs++[.int .u8 c]) w'/\Below B w w':=by
 obtain⟨i0,hi,hz0,hz1,hz2⟩:=info_parts Zr1;have HI:=zh hi;have HZ0:=zh hz0;have HZ1:=zh hz1;have HZ2:=zh hz2;clear hi hz0 hz1 hz2;go_enter Tryz.func137,Tryz.ntmps137;go_wp2_with fail;refine(Any.Builder_copyCheck (L:={ Tryz.lays165 with }) Tryz.Builder_Extra_165.toX72 B b bs w h0).mono ?_;rintro e w0 ⟨rfl,h,hbel⟩;have HBEL:=zh hbel;clear hbel;have hBw0:B<=w0.heap.size:=Nat.le_trans hBw HBEL.out.size;have hlt:=Lib.BuilderAt.lt h;obtain⟨hB,v,hbk,hown,hne⟩:=h;have c1:w0.cell? ⟨b,1,none⟩=some v:=by rw [Lib.cell_of_heap hbk];rfl
 have HK:=zh hbk;have HO:=zh hown;have HN:=zh hne;clear hbk hown hne;go_wp2_with (at_builtin;refine wpList_append_own _ rfl _ _ 71 rfl B 5 i0 (.int .u8 0) 1 1 Tryz.underlying71 HI.out HZ0.out HZ1.out HZ2.out rfl (by decide) _ _ _ rfl (HO.out.alloc _) ⟨w0.heap.size,0,none⟩ 1 1 [.int .u8 c] rfl rfl ?c1 ?c2 ?c3 ?c4 ?c5 ?_)
 case c1=>exact ZaD _ _ _ _ rfl
 case c2=>intro u hu;simp at hu;subst hu;rfl
 case c3=>unfold maxLen;omega
 case c4=>omega
 case c5=>simp;omega
 intro v' w1 hown' hgrow _;obtain⟨a',c',rfl⟩:=Zax hown';have hk1:w1.heap[b]?=some (.cells #[.pointer (some ⟨b,0,none⟩),v] 186 (0,0)):=(hgrow.block b (by simp;omega) (fun e=>HN.out e.symm)).trans ((Below.heap_alloc w0 _ b hlt).trans HK.out);have d1:w1.cell? ⟨b,1,none⟩=some v:=by rw [Lib.cell_of_heap hk1];rfl
 have f1:w1.frozen? ⟨b,1,none⟩=false:=Lib.frozen_of_heap hk1 1;have HK1:=zh hk1;have HO1:=zh hown';have HB1:=zh (Below.grown ((Below.refl B w0).alloc hBw0 _) hgrow (by simp;omega) (fun j hj=>(HO.out.lt j hj).1));clear hk1 hown' hgrow;go_wp2_with fail;go_ret;refine⟨rfl,?_,HBEL.out.trans (HB1.out.setCell hB _)⟩;exact Zlp (p:=v) hB HK1.out (by have:=HO1.out;rwa [List.length_append])
end
section
open Go.RowKit UsedM MtfM
def decK (l:List UInt8) (zs:List Int):Nat->Option (List UInt8×List UInt8)
 | 0=>some ([],l)
 | k+1=>match decK l zs k with
  | none=>none
  | some (s,m)=>if zs.getD k 0<0\/(m.length:Int)<=zs.getD k 0 then none else some (s++[m.getD (zs.getD k 0).toNat 0],touch m (zs.getD k 0).toNat)
theorem ZcH (l:List UInt8) (zs:List Int) (k:Nat):decK l zs (k+1)=match decK l zs k with
  | none=>none
  | some (s,m)=>if zs.getD k 0<0\/(m.length:Int)<=zs.getD k 0 then none else some (s++[m.getD (zs.getD k 0).toNat 0],touch m (zs.getD k 0).toNat):=rfl
theorem ZdF (l:List UInt8) (zs:List Int):∀(k:Nat) s m,decK l zs k=some (s,m)->s.length=k/\m.length=l.length
 | 0,s,m,h=>by cases h;exact⟨rfl,rfl⟩
 | k+1,s,m,h=>by
  rw [ZcH] at h;split at h
  ·cases h
  ·rename_i ys o ho;have ih:=ZdF l zs k ys o ho;split at h
   ·cases h
   ·rename_i hlt;cases h;rw [ZbD o _ (by omega)];simp [ih.1,ih.2]
theorem Zhh {l:List UInt8} {zs:List Int} {k:Nat} {s m:List UInt8} (h:decK l zs k=some (s,m)) (z:Int) (hz:zs.getD k 0=z) :
  ((z<0\/(m.length:Int)<=z)/\decK l zs (k+1)=none)\/∃(o:Nat) (x:UInt8),z=(o:Int)/\m[o]?=some x/\decK l zs (k+1)=some (s++[x],touch m o):=by
 have hs:=ZcH l zs k;rw [h,hz] at hs;by_cases hb:z<0\/(m.length:Int)<=z
 ·refine Or.inl ⟨hb,?_⟩;rw [hs];simp only;rw [if_pos hb]
 ·obtain⟨o,rfl⟩:∃o:Nat,z=(o:Int):=⟨z.toNat,by omega⟩
  have ho:o<m.length:=by omega
  refine Or.inr ⟨o,m[o],rfl,List.getElem?_eq_getElem ho,?_⟩;rw [hs];simp only;rw [if_neg hb];have:(o:Int).toNat=o:=by omega
  rw [this,List.getD_eq_getElem?_getD,List.getElem?_eq_getElem ho];rfl
end
section
open Go.RowKit BitM UsedM
theorem Zmm (S:Nat->Bool) (n:Nat) (hn:n<256) (hS:S n=true):Lib.byteCells (syms S (n+1))=Lib.byteCells (syms S n)++[.int .u8 (n:Int)]:=by
 rw [Zbx,if_pos hS];unfold Lib.byteCells;rw [List.map_append];congr 1;show[Value.int .u8 ((UInt8.ofNat n).toNat:Int)]=_;rw [UInt8.toNat_ofNat',Nat.mod_eq_of_lt (by omega)]
theorem ZnV (S:Nat->Bool) (n:Nat) (hS:S n=false):syms S (n+1)=syms S n:=by
 rw [Zbx,hS];rfl
theorem ZnW {B b:Nat} {bs:List Value} {w:World} {X Y:Int} (h:Used B b (bs++[.int .u8 X]) w) (e:X=Y):Used B b (bs++[.int .u8 Y]) w:=e▸h
theorem ZnX (S:Nat->Bool) (n:Nat) (hn:n<=256):(Lib.byteCells (syms S n)).length<=256:=by
 have:=Zcs S n;unfold Lib.byteCells;rw [List.length_map];omega
theorem Zlt (S:Nat->Bool) (w:World) :
  Calls Tryz.prog 100 #[.agg (arr S)] w fun e w'=>e=.returned (.string ⟨(syms S 256).toArray⟩)/\Below w.heap.size w w':=by
 have HX:=zh (fun k (hk:k<16) F (hF:fld S k=F)=>Zfg S k F hk hF);have hi:=Zln S;obtain⟨A,hA⟩:∃A,arr S=A:=⟨_,rfl⟩
 rw [hA] at HX hi ⊢;have hg:∀o,((w.alloc (.cells A 132)).alloc o).heap[w.heap.size]?=some (.cells A 132 (0,0)):=fun o=>heap_alloc2_old _ _ _
 have hstart:=Lib.fresh_isBuilder 186 5 (w.alloc (.cells A 132));have HS:=zh hstart;clear hA hstart;go_enter Tryz.func100,Tryz.ntmps100;go_wp2_with (refine wpList_load_row rfl 132 _ rfl w.heap.size rfl 132 A (0,0) _ (hg _) Tryz.underlying132 rfl hi ?_);clear hg hi
 go_loopw [8] (fun i wr=>∃k:Nat,k<=16/\i=.int .i64 k/\Lib.IsBuilder 186 5 (w.heap.size+1) (w.heap.size+1) (Lib.byteCells (syms S (16*k))) wr/\Below (w.heap.size+1) (w.alloc (.cells A 132)) wr) (fun i _=>16-(intOf i).toNat)
 case atStart=>exact⟨0,by omega,rfl,by rw [Nat.mul_zero,Znd];simpa [Lib.byteCells] using HS.out,(Below.refl _ _).alloc (by simp) _⟩
 case round=>
  obtain⟨k,hk,rfl,hB,hW⟩:=hrel;have HB:=zh hB;have HW:=zh hW;clear hB hW;by_cases hlt:k<16
  ·have hk2:(k:Int)<16:=by omega
   have hxk:=HX.out k hlt _ rfl;have HF:=zh (ZeW S k);have HAND:=zh (fun j (hj:j<16)=>Znc S k j hj);generalize fld S k=F at *;go_wp2_with fail
   go_loopw [12] (fun i wr=>∃j:Nat,j<=16/\i=.int .i64 j/\Lib.IsBuilder 186 5 (w.heap.size+1) (w.heap.size+1) (Lib.byteCells (syms S (16*k+j))) wr/\Below (w.heap.size+1) (w.alloc (.cells A 132)) wr) (fun i _=>16-(intOf i).toNat)
   case atStart=>exact⟨0,by omega,rfl,HB.out,HW.out⟩
   case round=>
    clear HB HW;obtain⟨j,hj,rfl,hB,hW⟩:=hrel;have HB:=zh hB;have HW:=zh hW;clear hB hW;by_cases hlj:j<16
    ·have hj2:(j:Int)<16:=by omega
     obtain⟨Z,hZ⟩:∃Z,2^(15-j)=Z:=⟨_,rfl⟩
     have hZ1:Z<=32768:=by
      have:2^(15-j)<=2^15:=Nat.pow_le_pow_right (by omega) (by omega);omega
     have hZ0:0<Z:=by
      have:=Nat.two_pow_pos (15-j);omega
     have ha:=HAND.out j hlj;rw [hZ] at ha;have htest:=Zig F Z (S (16*k+j)) HF.out hZ1 hZ0 ha;have HZ:=zh hZ;clear hZ ha hZ0 hZ1
     have hsz:w.heap.size+1<=wr.heap.size:=by
      have:=HW.out.size;simpa using this
     by_cases hS:S (16*k+j)=true
     ·have HC:=zh (Zmm S (16*k+j) (by omega) hS);have hlen:=ZnX S (16*k+j) (by omega);rw [hS] at htest;clear hS;go_wp2_with fail;refine(Zd3 _ j Z _ rfl (by omega) HZ.out).mono ?_;rintro e w' ⟨rfl,rfl⟩;go_wp2_with fail;refine(Zfh _ _ _ _ _ HB.out (by omega) hsz).mono ?_;rintro e w1 ⟨rfl,hU,hb⟩;have HU:=zh (ZnW (Y:=((16*k+j:Nat):Int)) hU (by omega));have HW1:=zh (HW.out.trans hb);clear hU hb;go_wp2_with fail;go_roundw
      case rel=>exact⟨j+1,by omega,by go_num,by rw [<-Nat.add_assoc,HC.out];exact Or.inr HU.out,HW1.out⟩
      case measure=>simp [intOf];omega
     ·have hSf:S (16*k+j)=false:=by simpa using hS
      have HC:=zh (ZnV S (16*k+j) hSf);rw [hSf] at htest;clear hS hSf;go_wp2_with fail;refine(Zd3 _ j Z _ rfl (by omega) HZ.out).mono ?_;rintro e w' ⟨rfl,rfl⟩;go_wp2_with fail;go_roundw
      case rel=>exact⟨j+1,by omega,by go_num,by rw [<-Nat.add_assoc,HC.out];exact HB.out,HW.out⟩
      case measure=>simp [intOf];omega
    ·obtain rfl:j=16:=by omega
     go_wp2_with fail;go_roundw
     case rel=>exact⟨k+1,by omega,by go_num,HB.out,HW.out⟩
     case measure=>simp [intOf];omega
  ·obtain rfl:k=16:=by omega
   have hsz:w.heap.size+1<=wr.heap.size:=by
    have:=HW.out.size;simpa using this
   go_wp2_with fail;refine(Tryz.Builder_String_any _ _ _ _ HB.out hsz).mono ?_;rintro e w1 ⟨rfl,hb⟩;have HW1:=zh (((Below.refl w.heap.size w).alloc (Nat.le_refl _) _).trans ((HW.out.trans hb).mono (Nat.le_succ _)));clear hb;go_wp2_with fail;go_ret;exact⟨rfl,HW1.out⟩
theorem ZjN (s:ByteArray) (w:World) (hs:s.size<=maxLen) :
  Calls Tryz.prog 51 #[.string s] w fun e w'=>e=.returned (.string ⟨(syms (has s.data.toList) 256).toArray⟩)/\Below w.heap.size w w':=by
 go_enter Tryz.func51,Tryz.ntmps51;go_wp2_with fail;refine(Zlo s w hs).mono ?_;rintro e w1 ⟨rfl,hb⟩;have HB:=zh hb;clear hb;generalize hS:has s.data.toList=S at *;have HT:=zh (Zlt S w1);generalize arr S=A at *;go_wp2_with fail;refine HT.out.mono ?_;rintro e w2 ⟨rfl,hb⟩;have HB2:=zh (HB.out.trans (hb.mono HB.out.size));clear hb;go_wp2_with fail;go_ret;exact⟨by rw [hS];rfl,HB2.out⟩
def Told (w w':World) (b:Nat) (v:Value) (l:List UInt8) (dr sp p:Nat) (t:ByteArray) (err p':Nat):Prop:=
 IsReader w' b v l dr sp p'/\Touch (·=b) w w'/\match rdk ((bitsOf l).drop (p-8*dr)) 16 with
  | none=>t=⟨#[]⟩/\err=3/\p'=p
  | some (n,S)=>(syms S 256=[]/\t=⟨#[]⟩/\err=25/\p'=p)\/(syms S 256≠[]/\t=⟨(syms S 256).toArray⟩/\err=0/\p'=p+n)
theorem ZnY (b:Nat) (v:Value) (l:List UInt8) (dr sp p:Nat) (w:World) (h:IsReader w b v l dr sp p) (hs:dr+l.length<=1099511627776) :
  Calls Tryz.prog 188 #[.pointer (some ⟨b,0,none⟩)] w fun e w'=>∃(t:ByteArray) (err p':Nat),e=.returned (.tuple #[.string t,.int .i64 (err:Int)])/\Told w w' b v l dr sp p t err p':=by
 have hp1:=h.2.2.2.1;have hp2:=h.2.2.2.2;have H:=zh h;clear h;go_enter Tryz.func188,Tryz.ntmps188;go_wp2_with fail;refine(ZcA b v l dr sp p w H.out).mono ?_;rintro e w' ⟨rfl,rfl⟩;go_wp2_with fail;refine(Zqe b v l dr sp p w H.out hs).mono ?_;rintro e w1 ⟨A,err,p1,rfl,hr,ht,hA,hone,hm⟩;have hg0:(w1.alloc (.cells #[.int .u32 0,.int .u32 0,.int .u32 0,.int .u32 0,.int .u32 0,.int .u32 0,.int .u32 0,.int .u32 0,.int .u32 0,.int .u32 0,.int .u32 0,.int .u32 0,.int .u32 0,.int .u32 0,.int .u32 0,.int .u32 0] 132)).heap[w1.heap.size]?=some (.cells #[.int .u32 0,.int .u32 0,.int .u32 0,.int .u32 0,.int .u32 0,.int .u32 0,.int .u32 0,.int .u32 0,.int .u32 0,.int .u32 0,.int .u32 0,.int .u32 0,.int .u32 0,.int .u32 0,.int .u32 0,.int .u32 0] 132 (0,0)):=heap_alloc_new _ _;have hg1:=setRow_heap _ _ _ A _ _ hg0;have hi:=ZrL A hA;have hold:(#[.int .u32 0,.int .u32 0,.int .u32 0,.int .u32 0,.int .u32 0,.int .u32 0,.int .u32 0,.int .u32 0,.int .u32 0,.int .u32 0,.int .u32 0,.int .u32 0,.int .u32 0,.int .u32 0,.int .u32 0,.int .u32 0]:Array Value).size=A.size:=hA.symm;have hb1:Below w1.heap.size w1 ((w1.alloc (.cells #[.int .u32 0,.int .u32 0,.int .u32 0,.int .u32 0,.int .u32 0,.int .u32 0,.int .u32 0,.int .u32 0,.int .u32 0,.int .u32 0,.int .u32 0,.int .u32 0,.int .u32 0,.int .u32 0,.int .u32 0,.int .u32 0] 132)).setRow w1.heap.size A):=Zae (B:=w1.heap.size) ((Below.refl _ _).alloc (Nat.le_refl _) _) (by exact Nat.le_refl _) A;generalize hW2:(w1.alloc (.cells #[.int .u32 0,.int .u32 0,.int .u32 0,.int .u32 0,.int .u32 0,.int .u32 0,.int .u32 0,.int .u32 0,.int .u32 0,.int .u32 0,.int .u32 0,.int .u32 0,.int .u32 0,.int .u32 0,.int .u32 0,.int .u32 0] 132)).setRow w1.heap.size A=w2 at *;have HR:=zh (hr.other (Touch.ofBelow (S:=fun _=>False) hb1) (fun _ _ h=>h));have HT:=zh (ht.trans (Touch.ofBelow (S:=fun _=>False) hb1) (fun i hi=>hi.elim));have HM:=zh hm;clear hr ht hm hA hb1
 have hcase:(err=0/\∃n S,rdk ((bitsOf l).drop (p-8*dr)) 16=some (n,S)/\syms S 256≠[]/\A=arr S/\p1=p+n)\/((err != 0)=true/\(match rdk ((bitsOf l).drop (p-8*dr)) 16 with
   | none=>err=3
   | some (n,S)=>syms S 256=[]/\err=25)):=by
  have hm:=HM.out;rcases hrd:rdk ((bitsOf l).drop (p-8*dr)) 16 with _|⟨n,S⟩
  ·rw [hrd] at hm;have hm':err=3:=hm;subst hm';exact Or.inr ⟨rfl,rfl⟩
  ·rw [hrd] at hm;rcases hm with⟨h1,rfl⟩|⟨h1,rfl,h2,h3⟩
   ·exact Or.inr ⟨rfl,h1,rfl⟩
   ·exact Or.inl ⟨rfl,n,S,rfl,h1,h2,h3⟩
 rcases hcase with⟨rfl,n,S,hrd,hsy,rfl,rfl⟩|⟨hne,hmm⟩
 ·have HX:=zh (fun w=>Zlt S w);have HRD:=zh hrd;have HSY:=zh hsy;clear hrd hsy;generalize hAA:arr S=A at *;go_wp2_with (first|(refine wpList_load_row rfl 132 _ rfl w1.heap.size rfl 132 A (0,0) _ (by exact hg1) Tryz.underlying132 rfl hi ?_)|(refine wpList_store_row rfl 132 _ _ rfl w1.heap.size A rfl rfl 132 _ hg0 hi hold hone ?_;rw [hW2]));refine(HX.out w2).mono ?_;rintro e w3 ⟨rfl,hb3⟩;have HR3:=zh (HR.out.other (Touch.ofBelow (S:=fun _=>False) hb3) (fun _ _ h=>h));have HT3:=zh (HT.out.trans (Touch.ofBelow (S:=fun _=>False) hb3) (fun i hi=>hi.elim));clear hb3;go_wp2_with fail;go_ret2;exact⟨_,0,p+n,rfl,HR3.out,HT3.out,by rw [HRD.out];exact Or.inr ⟨HSY.out,rfl,rfl,rfl⟩⟩
 ·have hne2:((err:Int) != 0)=true:=by
   rw [bne_iff_ne] at hne ⊢;omega
  have HMM:=zh hmm;clear hmm hne;go_wp2_with (first|(refine wpList_load_row rfl 132 _ rfl w1.heap.size rfl 132 A (0,0) _ (by exact hg1) Tryz.underlying132 rfl hi ?_)|(refine wpList_store_row rfl 132 _ _ rfl w1.heap.size A rfl rfl 132 _ hg0 hi hold hone ?_;rw [hW2]));refine(Zbc b v l dr sp p1 p w2 HR.out hs hp1 hp2).mono ?_;rintro e w3 ⟨rfl,hr3,ht3⟩;have HR3:=zh hr3;have HT3:=zh (HT.out.trans ht3 (fun i hi=>Or.inl hi));clear hr3 ht3;go_wp2_with fail;go_ret2;refine⟨_,err,p,rfl,HR3.out,HT3.out,?_⟩;have hm:=HMM.out;rcases hrd:rdk ((bitsOf l).drop (p-8*dr)) 16 with _|⟨n,S⟩
  ·rw [hrd] at hm;exact⟨rfl,hm,rfl⟩
  ·rw [hrd] at hm;exact Or.inl ⟨hm.1,rfl,hm.2,rfl⟩
end
section
open Go.RowKit UsedM MtfM
end
section
open Go.RowKit BitM UsedM
end
section
open Go.RowKit UsedM MtfM
theorem ZnZ {l s:List UInt8} {k:Nat} {zs:List Int} {m:List UInt8} (h:encK l s k=some (zs,m)) (hk:k<s.length) (hm:s[k]∈m) :
  ∃o:Nat,m[o]?=some s[k]/\Lib.indexByte m s[k]=(o:Int)/\encK l s (k+1)=some (zs++[(o:Int)],touch m o):=by
 obtain⟨o,h1,h2,h3⟩:=Znj hm;refine⟨o,h3,h1,?_⟩;have hgd:s.getD k 0=s[k]:=by rw [List.getD_eq_getElem?_getD,List.getElem?_eq_getElem hk];rfl
 rw [Za3,h,hgd];simp only [h1];rw [if_neg (by omega)];rfl
theorem Zlu (l s:List UInt8) (hl:∀x,x∈s->x∈l):∀k,k<=s.length->∃zs m,encK l s k=some (zs,m)/\(∀x,x∈m↔x∈l)
 | 0,_=>⟨[],l,rfl,fun x=>Iff.rfl⟩
 | k+1,hk=>by
  obtain⟨zs,m,h,hm⟩:=Zlu l s hl k (by omega);obtain⟨o,h1,h2,h3⟩:=ZnZ h (by omega) ((hm _).2 (hl _ (List.getElem_mem _)));have ho:=(List.getElem?_eq_some_iff.1 h1).1;exact⟨_,_,h3,fun x=>(Zni m o ho x).trans (hm x)⟩
theorem Zlv (l s:List UInt8):∀(d k:Nat) zs m ys n,encK l s k=some (zs,m)->encK l s (k+d)=some (ys,n)->∃t,ys=zs++t
 | 0,k,zs,m,ys,n,h,h2=>by
  rw [Nat.add_zero,h] at h2;cases h2;exact⟨[],by simp⟩
 | d+1,k,zs,m,ys,n,h,h2=>by
  rw [<-Nat.add_assoc,Za3] at h2;split at h2
  ·cases h2
  ·rename_i us o ho;obtain⟨t,ht⟩:=Zlv l s d k zs m us o h ho;split at h2
   ·cases h2
   ·cases h2;exact⟨t++[Lib.indexByte o (s.getD (k+d) 0)],by rw [ht,List.append_assoc]⟩
theorem Zn0 {l s:List UInt8} {ys:List Int} {n:List UInt8} (h:encK l s s.length=some (ys,n)) (k:Nat) (hk:k<s.length) :
  ∃zs m,encK l s k=some (zs,m)/\∃o:Nat,m[o]?=some s[k]/\Lib.indexByte m s[k]=(o:Int)/\ys.getD k 0=(o:Int)/\encK l s (k+1)=some (zs++[(o:Int)],touch m o):=by
 rcases hz:encK l s k with _|⟨zs,m⟩
 ·have:=ZbX l s (s.length-k) k hz;rw [show k+(s.length-k)=s.length by omega,h] at this;cases this
 ·refine⟨zs,m,rfl,?_⟩;have hgd:s.getD k 0=s[k]:=by rw [List.getD_eq_getElem?_getD,List.getElem?_eq_getElem hk];rfl
  rcases Za5 m s[k] with hp|⟨o,hp,ho,hx⟩
  ·have hn:encK l s (k+1)=none:=by rw [Za3,hz,hgd];simp only [hp];rfl
   have:=ZbX l s (s.length-(k+1)) (k+1) hn;rw [show k+1+(s.length-(k+1))=s.length by omega,h] at this;cases this
  ·have hs:encK l s (k+1)=some (zs++[(o:Int)],touch m o):=by
    rw [Za3,hz,hgd];simp only [hp];rw [if_neg (by omega)];rfl
   refine⟨o,hx,hp,?_,hs⟩;obtain⟨t,ht⟩:=Zlv l s (s.length-(k+1)) (k+1) _ _ ys n hs (by rw [show k+1+(s.length-(k+1))=s.length by omega];exact h);have hl:=(encK_len l s k zs m hz).1;rw [ht,List.getD_eq_getElem?_getD,List.append_assoc,List.getElem?_append_right (by omega),hl,Nat.sub_self];rfl
theorem Zn1 {l s:List UInt8} {ys:List Int} {n:List UInt8} (h:encK l s s.length=some (ys,n)):∀k,k<=s.length->∃zs m,encK l s k=some (zs,m)/\decK l ys k=some (s.take k,m)
 | 0,_=>⟨[],l,rfl,rfl⟩
 | k+1,hk=>by
  obtain⟨zs,m,h1,h2⟩:=Zn1 h k (by omega);obtain⟨zs',m',h3,o,hx,hp,hy,hs⟩:=Zn0 h k (by omega);rw [h1] at h3;cases h3;refine⟨_,_,hs,?_⟩;have ho:=(List.getElem?_eq_some_iff.1 hx).1;rcases Zhh h2 (o:Int) hy with⟨hb,_⟩|⟨o',x,ho',hx',hd⟩
  ·omega
  ·have:o'=o:=by omega
   subst this;rw [hx] at hx';cases hx';rw [hd,List.take_succ_eq_append_getElem (by omega)]
theorem Zqf {l s:List UInt8} {ys:List Int} {n:List UInt8} (h:encK l s s.length=some (ys,n)) (k:Nat) (hk:k<s.length):∃o:Nat,ys.getD k 0=(o:Int)/\o<l.length:=by
 obtain⟨zs,m,h1,o,hx,hp,hy,hs⟩:=Zn0 h k hk;have ho:=(List.getElem?_eq_some_iff.1 hx).1;have:=(encK_len _ _ _ _ _ h1).2;exact⟨o,hy,by omega⟩
end
section
namespace BlkM
open Go.RowKit BitM HufM CanM CodM UsedM MtfM
theorem ZjO (q r:List Bool):∀k n S,k<=16->rdk q k=some (n,S)->rdk (q++r) k=some (n,S)
 | 0,n,S,_,h=>by
  rw [Zb9] at h ⊢;by_cases hl:q.length<16
  ·rw [if_pos hl] at h;cases h
  ·rw [if_neg hl] at h;rw [if_neg (by rw [List.length_append];omega)];exact h
 | k+1,n,S,hk,h=>by
  rw [ZaR] at h;split at h
  ·cases h
  ·rename_i m T hm;have ih:=ZjO q r k m T (by omega) hm;have hle:=Zem q k m T hm
   have hg:(q++r).getD k false=q.getD k false:=by
    rw [List.getD_eq_getElem?_getD,List.getD_eq_getElem?_getD,List.getElem?_append_left (by omega)]
   rw [ZaR,ih];simp only [hg];split at h
   ·rename_i hb;rw [if_pos hb];split at h
    ·cases h
    ·rename_i hl;rw [if_neg (by rw [List.length_append];omega)];rw [<-h];congr 2
     funext b
     by_cases hbk:b / 16=k
     ·rw [if_pos hbk,if_pos hbk,List.getD_eq_getElem?_getD,List.getD_eq_getElem?_getD,List.getElem?_append_left (by omega)]
     ·rw [if_neg hbk,if_neg hbk]
   ·rename_i hb;rw [if_neg hb];exact h
inductive RU where
 | ok (s:List UInt8) (n:Nat)
 | err (e:Int)
def rdU (q:List Bool):RU:=match rdk q 16 with
 | none=>.err 3
 | some (n,S)=>if syms S 256=[] then .err 25 else .ok (syms S 256) n
theorem Zqg {q:List Bool} (h:rdk q 16=none):rdU q=.err 3:=by unfold rdU;rw [h]
theorem Zn2 {q:List Bool} {n:Nat} {S:Nat->Bool} (h:rdk q 16=some (n,S)) (he:syms S 256=[]):rdU q=.err 25:=by
 unfold rdU;rw [h];simp only;rw [if_pos he]
theorem Zlw {q:List Bool} {n:Nat} {S:Nat->Bool} (h:rdk q 16=some (n,S)) (he:syms S 256≠[]):rdU q=.ok (syms S 256) n:=by
 unfold rdU;rw [h];simp only;rw [if_neg he]
theorem Zil {q:List Bool} {s:List UInt8} {j:Nat} (h:rdU q=.ok s j):IsSyms s/\s.length<=256/\1<=s.length/\j<=q.length/\16<=j:=by
 unfold rdU at h;split at h
 ·cases h
 ·rename_i n S hk;split at h
  ·cases h
  ·rename_i he;cases h;have h1:=Zem q 16 _ _ hk;have h2:=Zcs S 256
   have h3:IsSyms (syms S 256):=Zc4 S (by
    by_cases hx:∃b,b<256/\S b=true
    ·exact hx
    ·exact absurd ((ZeF S).2 (fun b hb=>by
      cases e:S b with
      | false=>rfl
      | true=>exact absurd ⟨b,hb,e⟩ hx)) he)
   exact⟨h3,h2,List.length_pos_iff.2 he,h1.1,h1.2.1⟩
def zst (n:Int) (room:Nat) (o:Option ZerM.St) (c:Int):Option ZerM.St:=match o with
 | none=>none
 | some s=>if ZerM.putE n room s c=0 then some (ZerM.putS n s c) else none
def zrun (n:Int) (room:Nat) (l:List Int):Option ZerM.St:=l.foldl (zst n room) (some ZerM.ini)
theorem Zfj (n:Int) (room:Nat) (l:List Int) (c:Int):zrun n room (l++[c])=zst n room (zrun n room l) c:=by unfold zrun;rw [List.foldl_append];rfl
theorem Zbn (n:Int) (room:Nat):∀t:List Int,t.foldl (zst n room) none=none
 | []=>rfl
 | _::t=>Zbn n room t
theorem Zn3 {n:Int} {room:Nat} {l:List Int} (h:zrun n room l=none) (t:List Int):zrun n room (l++t)=none:=by
 unfold zrun at h ⊢;rw [List.foldl_append,h,Zbn]
theorem zrun_put {n:Int} {room:Nat} {l:List Int} {s:ZerM.St} {c:Int} (h:zrun n room l=some s) (hp:ZerM.putE n room s c=0):zrun n room (l++[c])=some (ZerM.putS n s c):=by
 rw [Zfj,h];show(if ZerM.putE n room s c=0 then _ else _)=_;rw [if_pos hp]
theorem zrun_not {n:Int} {room:Nat} {l:List Int} {s:ZerM.St} {c:Int} (h:zrun n room l=some s) (hp:ZerM.putE n room s c≠0) (t:List Int):zrun n room (l++[c]++t)=none:=by
 refine Zn3 ?_ t;rw [Zfj,h];show(if ZerM.putE n room s c=0 then _ else _)=_;rw [if_neg hp]
theorem Zn4 {n:Int} {room:Nat}:∀(l:List Int) (s s2:ZerM.St),ZerM.Ok room s->l.foldl (zst n room) (some s)=some s2->ZerM.Ok room s2
 | [],s,s2,hk,h=>by cases h;exact hk
 | c::t,s,s2,hk,h=>by
  rw [List.foldl_cons] at h;by_cases hp:ZerM.putE n room s c=0
  ·have e:zst n room (some s) c=some (ZerM.putS n s c):=if_pos hp;rw [e] at h;exact Zn4 t _ _ (hk.put hp) h
  ·have e:zst n room (some s) c=none:=if_neg hp;rw [e,Zbn] at h;cases h
theorem Zhi {n:Int} {room:Nat} {l:List Int} {s:ZerM.St} (h:zrun n room l=some s):ZerM.Ok room s:=Zn4 l _ _ (ZerM.Ok.ini room) h
theorem Zlx {n:Int} {room:Nat}:∀(l:List Int) (s:ZerM.St) (p:List Int),ZerM.dec n room s l=(p,0)->∃s2,l.foldl (zst n room) (some s)=some s2/\s2.done=true/\s2.out=p
 | [],s,p,h=>by
  unfold ZerM.dec at h;split at h
  ·rename_i hd;cases h;exact⟨s,rfl,hd,rfl⟩
  ·cases h
 | c::t,s,p,h=>by
  by_cases hp:ZerM.putE n room s c=0
  ·rw [ZerM.dec_go hp] at h;have e:zst n room (some s) c=some (ZerM.putS n s c):=if_pos hp;rw [List.foldl_cons,e];exact Zlx t _ _ h
  ·rw [ZerM.dec_stop hp] at h;have h2:=congrArg Prod.snd h;simp only at h2;split at h2
   ·cases h2
   ·exact absurd h2 hp
theorem Zn5 {gs:List (List Int)} {ps:List Nat} {N most:Nat} (hw:∀n,n / 50<ps.length->WholeP (tb gs ps n)):∀(f:Nat) (q:List Bool) (l:List Int),l.length+q.length<most->∃t,CodM.lst (rdS gs ps N most f q l)=l++t
 | 0,q,l,_=>⟨[],by rw [rdS,List.append_nil];rfl⟩
 | f+1,q,l,hm=>by
  rw [rdS];by_cases hp:ps.length<=l.length / 50
  ·rw [if_pos hp];exact⟨[],by rw [List.append_nil];rfl⟩
  ·rw [if_neg hp];have hwh:=hw l.length (by omega);cases hg:getM (tb gs ps l.length) q with
   | none=>exact⟨[],by rw [List.append_nil];rfl⟩
   | some i=>
    obtain⟨h1,h2⟩:=Zd1 hg;have h3:=Zc8 hwh.1 h1;have h4:ln (tb gs ps l.length) i<=q.length:=h2.1;show ∃t,CodM.lst (if l.length=most then _ else if i+1=N then _ else(rdS gs ps N most f (q.drop (ln (tb gs ps l.length) i)) (l++[(i:Int)])).skip (ln (tb gs ps l.length) i))=l++t;rw [if_neg (by omega)];by_cases hN:i+1=N
    ·rw [if_pos hN];exact⟨[(i:Int)],rfl⟩
    ·rw [if_neg hN,Zlh];obtain⟨t,ht⟩:=Zn5 (N:=N) (most:=most) hw f (q.drop (ln (tb gs ps l.length) i)) (l++[(i:Int)]) (by rw [List.length_append,List.length_drop];simp;omega);exact⟨(i:Int)::t,by rw [ht,List.append_assoc];rfl⟩
theorem RtC.pre {Q:List Bool} {N most a:Nat} {L:List Int} {c:CSt} (h:RtC Q N most a L c) (hL:L.length<=a) (ha:a<=Q.length) (hm:Q.length<most):∃t,CodM.lst (rdC Q N most)=L++t:=by
 cases c with
 | fields=>rw [h.2];exact⟨_,rfl⟩
 | pick t n ps o=>rw [h.2.2.2];exact⟨_,rfl⟩
 | len t ps gs ls now=>
  obtain⟨_,_,_,_,rfl,_⟩:=h;exact⟨_,rfl⟩
 | sym t ps gs cnt done=>
  obtain⟨hh,hW,hg,hcl,hc50,hif⟩:=h;cases done with
  | true=>
   rw [if_pos rfl] at hif;rw [hif];exact⟨[],by rw [List.append_nil];rfl⟩
  | false=>
   rw [if_neg (by simp)] at hif;rw [hif.2,Zlh];exact Zn5 (fun n hn=>(hW.tb hh hg (n:=n) hn).2.2) _ _ _ (by rw [List.length_drop];omega)
inductive R20 where
 | ok (last:List UInt8) (origin sum bits held:Nat)
 | err (e:Int)
def lastOf (s:List UInt8) (zs:List Int):List UInt8:=match decK s zs zs.length with
 | none=>[]
 | some (ys,_)=>ys
noncomputable def rdW (sum origin:Nat) (s:List UInt8) (q:List Bool) (room j:Nat):R20:=
 match zrun (s.length:Int) room (CodM.lst (rdC q (s.length+2) 400000)) with
 | none=>.err 25
 | some st=>match rdC q (s.length+2) 400000 with
  | .err e _=>.err e
  | .ok _ n=>if (lastOf s st.out).length<=origin then .err 23 else .ok (lastOf s st.out) origin sum (j+n) (heldC q (s.length+2)+(lastOf s st.out).length)
noncomputable def rdB (Q:List Bool) (room:Nat):R20:=
 if Q.length<57 then .err 3
 else if num ((Q.drop 32).take 1)≠0 then .err 25
 else match rdU (Q.drop 57) with
  | .err e=>.err e
  | .ok s j=>rdW (num (Q.take 32)) (num ((Q.drop 33).take 24)) s (Q.drop (57+j)) room (57+j)
theorem Zim {Q:List Bool} {room:Nat} (h:Q.length<57):rdB Q room=.err 3:=if_pos h
theorem Zly {Q:List Bool} {room:Nat} (h:57<=Q.length) (hf:num ((Q.drop 32).take 1)≠0):rdB Q room=.err 25:=by
 unfold rdB;rw [if_neg (by omega),if_pos hf]
def Head (Q:List Bool) (sum origin:Nat):Prop:=57<=Q.length/\num ((Q.drop 32).take 1)=0/\num (Q.take 32)=sum/\num ((Q.drop 33).take 24)=origin
theorem Zhj {Q:List Bool} {room sum origin:Nat} {e:Int} (h:Head Q sum origin) (hu:rdU (Q.drop 57)=.err e):rdB Q room=.err e:=by
 obtain⟨h1,h2,h3,h4⟩:=h;unfold rdB;rw [if_neg (by omega),if_neg (fun e=>e h2),hu]
theorem Zdc {Q:List Bool} {room sum origin j:Nat} {s:List UInt8} (h:Head Q sum origin) (hu:rdU (Q.drop 57)=.ok s j):rdB Q room=rdW sum origin s (Q.drop (57+j)) room (57+j):=by
 obtain⟨h1,h2,h3,h4⟩:=h;unfold rdB;rw [if_neg (by omega),if_neg (fun e=>e h2),hu,h3,h4]
theorem Zn6 {sum origin room j:Nat} {s:List UInt8} {q:List Bool} (h:zrun (s.length:Int) room (CodM.lst (rdC q (s.length+2) 400000))=none):rdW sum origin s q room j=.err 25:=by
 unfold rdW;rw [h]
theorem Zn7 {sum origin room j:Nat} {s:List UInt8} {q:List Bool} {e:Int} {L:List Int} {st:ZerM.St} (h:rdC q (s.length+2) 400000=.err e L) (hz:zrun (s.length:Int) room L=some st):rdW sum origin s q room j=.err e:=by
 unfold rdW;rw [h];simp only [CodM.lst];rw [hz]
theorem Zn8 {sum origin room j n:Nat} {s:List UInt8} {q:List Bool} {L:List Int} {st:ZerM.St} (h:rdC q (s.length+2) 400000=.ok L n) (hz:zrun (s.length:Int) room L=some st) :
  rdW sum origin s q room j=if (lastOf s st.out).length<=origin then .err 23 else .ok (lastOf s st.out) origin sum (j+n) (heldC q (s.length+2)+(lastOf s st.out).length):=by
 unfold rdW;rw [h];simp only [CodM.lst];rw [hz]
theorem Zlz (l:List UInt8) (zs t:List Int):∀k,k<=zs.length->decK l (zs++t) k=decK l zs k
 | 0,_=>rfl
 | k+1,hk=>by
  rw [ZcH,ZcH,Zlz l zs t k (by omega)];have e:(zs++t).getD k 0=zs.getD k 0:=by rw [List.getD_eq_getElem?_getD,List.getD_eq_getElem?_getD,List.getElem?_append_left (by omega)]
  rw [e]
theorem Zin {l:List UInt8} {zs:List Int} {s m:List UInt8} (h:decK l zs zs.length=some (s,m)) {o:Nat} {x:UInt8} (hx:m[o]?=some x):decK l (zs++[(o:Int)]) (zs++[(o:Int)]).length=some (s++[x],touch m o):=by
 have h1:decK l (zs++[(o:Int)]) zs.length=some (s,m):=by rw [Zlz l zs _ _ (Nat.le_refl _),h]
 have ho:=(List.getElem?_eq_some_iff.1 hx).1;have hg:(zs++[(o:Int)]).getD zs.length 0=(o:Int):=by rw [List.getD_eq_getElem?_getD,List.getElem?_append_right (Nat.le_refl _),Nat.sub_self];rfl
 rcases Zhh h1 (o:Int) hg with⟨hb,_⟩|⟨o',x',ho',hx',hd⟩
 ·omega
 ·have:o'=o:=by omega
  subst this;rw [hx] at hx';cases hx';rw [List.length_append];exact hd
def Wt (l:List UInt8) (out:List Int) (fr ot:Nat) (ys m:List UInt8):Prop:=
 ∃zs,out=zs++List.replicate fr 0++(if 0<ot then[(ot:Int)] else[])/\decK l zs zs.length=some (ys,m)
theorem Wt.start (l:List UInt8):Wt l [] 0 0 [] l:=⟨[],rfl,rfl⟩
theorem Wt.len {l:List UInt8} {out:List Int} {fr ot:Nat} {ys m:List UInt8} (h:Wt l out fr ot ys m):ys.length+fr+(if 0<ot then 1 else 0)=out.length/\m.length=l.length:=by
 obtain⟨zs,rfl,hd⟩:=h;have:=ZdF l zs _ _ _ hd;refine⟨?_,this.2⟩;rw [List.length_append,List.length_append,List.length_replicate,this.1];by_cases h0:0<ot
 ·rw [if_pos h0,if_pos h0];rfl
 ·rw [if_neg h0,if_neg h0];rfl
theorem Wt.all {l:List UInt8} {out:List Int} {ys m:List UInt8} (h:Wt l out 0 0 ys m):lastOf l out=ys:=by
 obtain⟨zs,rfl,hd⟩:=h;have e:zs++List.replicate 0 (0:Int)++(if 0<0 then[((0:Nat):Int)] else[])=zs:=by simp
 rw [e];unfold lastOf;rw [hd]
theorem Wt.put {l:List UInt8} {n:Int} {s:ZerM.St} {c:Int} {ys m:List UInt8} (h:Wt l s.out 0 0 ys m) (hc:0<=c) (hn:c<=n+1) :
  Wt l (ZerM.putS n s c).out (ZerM.putZ s c) (max (ZerM.putP n c) 0).toNat ys m/\((max (ZerM.putP n c) 0).toNat:Int)=max (ZerM.putP n c) 0/\(1<=n->max (ZerM.putP n c) 0<n):=by
 obtain⟨zs,he,hd⟩:=h;have e:zs++List.replicate 0 (0:Int)++(if 0<0 then[((0:Nat):Int)] else[])=zs:=by simp
 rw [e] at he;by_cases h2:c<2
 ·have hp:ZerM.putP n c=-1:=by unfold ZerM.putP;rw [if_pos (Or.inl h2)]
  have hz:ZerM.putZ s c=0:=by unfold ZerM.putZ;rw [if_pos h2]
  rw [hp,hz,ZerM.putS_part h2];refine⟨⟨zs,?_,hd⟩,by decide,fun h=>by show(0:Int)<n;omega⟩;show s.out=zs++List.replicate 0 (0:Int)++(if 0<0 then[((0:Nat):Int)] else[]);rw [e,he]
 ·have hz:ZerM.putZ s c=ZerM.val s.rc:=by unfold ZerM.putZ;rw [if_neg h2]
  by_cases hl:c=n+1
  ·have hp:ZerM.putP n c=-1:=by unfold ZerM.putP;rw [if_pos (Or.inr hl)]
   rw [hp,hz,ZerM.putS_end h2 hl];refine⟨⟨zs,?_,hd⟩,by decide,fun h=>by show(0:Int)<n;omega⟩;show s.out++List.replicate (ZerM.val s.rc) 0=zs++List.replicate (ZerM.val s.rc) (0:Int)++(if 0<0 then[((0:Nat):Int)] else[]);rw [he];simp
  ·have hp:ZerM.putP n c=c-1:=by unfold ZerM.putP;rw [if_neg (by omega)]
   have hm:max (c-1) 0=c-1:=by omega
   rw [hp,hz,ZerM.putS_one h2 hl,hm];refine⟨⟨zs,?_,hd⟩,by omega,fun h=>by omega⟩;show s.out++List.replicate (ZerM.val s.rc) 0++[c-1]=_;rw [if_pos (by omega),he,show(((c-1).toNat:Nat):Int)=c-1 by omega]
theorem Wt.take {l:List UInt8} {out:List Int} {fr ot:Nat} {ys m:List UInt8} (h:Wt l out fr ot ys m) (hw:0<fr\/0<ot) (hl:1<=l.length) (ho:ot<l.length) :
  ∃x,m[if 0<fr then 0 else ot]?=some x/\Wt l out (if 0<fr then fr-1 else fr) (if 0<fr then ot else 0) (ys++[x]) (touch m (if 0<fr then 0 else ot)):=by
 obtain⟨zs,he,hd⟩:=h;have hml:=(ZdF l zs _ _ _ hd).2;by_cases h0:0<fr
 ·rw [if_pos h0,if_pos h0,if_pos h0];obtain⟨x,hx⟩:∃x,m[0]?=some x:=⟨m[0]'(by omega),List.getElem?_eq_getElem (by omega)⟩
  refine⟨x,hx,zs++[((0:Nat):Int)],?_,Zin hd hx⟩;rw [he];obtain⟨f,rfl⟩:∃f,fr=f+1:=⟨fr-1,by omega⟩
  rw [List.replicate_succ,Nat.add_sub_cancel];simp
 ·rw [if_neg h0,if_neg h0,if_neg h0];have h1:0<ot:=hw.resolve_left h0;obtain⟨x,hx⟩:∃x,m[ot]?=some x:=⟨m[ot]'(by omega),List.getElem?_eq_getElem (by omega)⟩
  refine⟨x,hx,zs++[(ot:Int)],?_,Zin hd hx⟩;obtain rfl:fr=0:=by omega
  rw [he,if_pos h1,if_neg (by omega)];simp
end BlkM
end
section
namespace BlkM
open Go.RowKit BitM HufM CanM CodM UsedM MtfM TabM FreqM
def symsK (l:List UInt8):List UInt8:=syms (has l) 256
def placesK (l:List UInt8):List Int:=match encK (symsK l) l l.length with
 | none=>[]
 | some (zs,_)=>zs
def codesK (l:List UInt8):List Int:=ZerM.enc (placesK l) ((symsK l).length:Int)
def sizeK (l:List UInt8):Nat:=(symsK l).length+2
theorem ZiA (l:List UInt8) (x:UInt8):x∈symsK l↔x∈l:=by
 unfold symsK;rw [ZeE _ _ (Nat.le_refl _),ZdU];exact⟨fun h=>h.2,fun h=>⟨x.toNat_lt,h⟩⟩
theorem ZlD {l:List UInt8} (h:l≠[]):symsK l≠[]:=by
 obtain⟨x,t,rfl⟩:=List.exists_cons_of_ne_nil h;exact List.ne_nil_of_mem ((ZiA _ x).2 List.mem_cons_self)
theorem Zhp (l:List UInt8):(symsK l).length<=256:=Zcs _ _
theorem Zfu {l:List UInt8} (h:l≠[]):1<=(symsK l).length:=List.length_pos_iff.2 (ZlD h)
theorem Zhq {l:List UInt8} (h:l≠[]):IsSyms (symsK l):=by
 obtain⟨x,t,rfl⟩:=List.exists_cons_of_ne_nil h;exact Zc4 _ ⟨x.toNat,x.toNat_lt,(ZdU _ x).2 List.mem_cons_self⟩
theorem Zb0 (l:List UInt8):∃m,encK (symsK l) l l.length=some (placesK l,m):=by
 obtain⟨zs,m,h,_⟩:=Zlu (symsK l) l (fun x hx=>(ZiA l x).2 hx) l.length (Nat.le_refl _);unfold placesK;rw [h];exact⟨m,rfl⟩
theorem Za8 (l:List UInt8):(placesK l).length=l.length:=by
 obtain⟨m,h⟩:=Zb0 l;exact(encK_len _ _ _ _ _ h).1
theorem ZmC (l:List UInt8):∀p∈placesK l,0<=p/\p<((symsK l).length:Int):=fun p hp=>by
 obtain⟨m,h⟩:=Zb0 l;obtain⟨k,hk,rfl⟩:=List.mem_iff_getElem.1 hp;obtain⟨o,h1,h2⟩:=Zqf h k (by rw [<-Za8 l];exact hk);rw [List.getD_eq_getElem?_getD,List.getElem?_eq_getElem hk] at h1;have h3:(placesK l)[k]=(o:Int):=h1;rw [h3];omega
theorem encOkK {l:List UInt8} (h:l≠[]):ZerM.EncOk (placesK l) ((symsK l).length:Int):=⟨by have:=Zfu h;omega,by have:=Zhp l;omega,ZmC l⟩
theorem Zfv (n:Int) (hn:1<=n):∀(l:List Int) (z:Nat),(∀p∈l,0<=p/\p<n)->∃t,ZerM.encR n z l=t++[n+1]/\∀x∈t,0<=x/\x<=n
 | [],z,_=>⟨ZerM.rowC z,rfl,fun x hx=>by have:=ZerM.bin_rowC z x hx;omega⟩
 | p::t,z,h=>by
  have hp:=h p List.mem_cons_self;have ht:∀q∈t,0<=q/\q<n:=fun q hq=>h q (List.mem_cons_of_mem _ hq)
  by_cases h0:p=0
  ·show ∃t',(if p=0 then ZerM.encR n (z+1) t else _)=_/\_;rw [if_pos h0];exact Zfv n hn t (z+1) ht
  ·show ∃t',(if p=0 then _ else ZerM.rowC z++(p+1)::ZerM.encR n 0 t)=_/\_;rw [if_neg h0];obtain⟨u,hu,hx⟩:=Zfv n hn t 0 ht;refine⟨ZerM.rowC z++(p+1)::u,by rw [hu];simp,fun x hm=>?_⟩;rcases List.mem_append.1 hm with h1|h1
   ·have:=ZerM.bin_rowC z x h1;omega
   ·rcases List.mem_cons.1 h1 with h2|h2
    ·omega
    ·exact hx x h2
theorem ZqD {t:List Int} {n:Int} (hn:1<=n) (hn2:n<=256) (h:∀x∈t,0<=x/\x<=n):May14 (t++[n+1]) (n+2):=by
 refine⟨by omega,by omega,by simp,fun x hx=>?_,fun i hi=>?_⟩
 ·rcases List.mem_append.1 hx with h1|h1
  ·have:=h x h1;omega
  ·rw [List.mem_singleton] at h1;omega
 ·rw [List.length_append] at hi ⊢;have hi2:i<t.length+1:=hi;show _↔i+1=t.length+1;by_cases h1:i<t.length
  ·have e:(t++[n+1]).getD i 0=t[i]:=by rw [List.getD_eq_getElem?_getD,List.getElem?_append_left h1,List.getElem?_eq_getElem h1];rfl
   have:=h t[i] (List.getElem_mem h1);rw [e];omega
  ·obtain rfl:i=t.length:=by omega
   have e:(t++[n+1]).getD t.length 0=n+1:=by rw [List.getD_eq_getElem?_getD,List.getElem?_append_right (Nat.le_refl _),Nat.sub_self];rfl
   rw [e];omega
theorem mayK {l:List UInt8} (h:l≠[]):May14 (codesK l) (sizeK l:Int):=by
 have h1:=encOkK h;obtain⟨t,ht,hx⟩:=Zfv _ h1.1 (placesK l) 0 h1.2.2;unfold codesK;rw [ZerM.enc_eq,ht];have:=ZqD h1.1 h1.2.1 hx;have e:((sizeK l:Nat):Int)=((symsK l).length:Int)+2:=by unfold sizeK;omega
 rw [e];exact this
theorem ZcT (l:List UInt8):(codesK l).length<=l.length+1:=by
 have:=ZerM.enc_len (placesK l) ((symsK l).length:Int);rw [Za8] at this;exact this
noncomputable def rowK (l:List UInt8):List Bool:=allC (rnd (codesK l) (sizeK l) 4) (pks (codesK l) (sizeK l)) (codesK l)
noncomputable def allK (l:List UInt8) (origin sum:Nat):List Bool:=field sum 32++[false]++field origin 24++ubits (has l)++rowK l
theorem ZqE (l:List UInt8):lastOf (symsK l) (placesK l)=l:=by
 obtain⟨m,h⟩:=Zb0 l;obtain⟨zs,m2,_,h2⟩:=Zn1 h l.length (Nat.le_refl _);unfold lastOf;rw [Za8,h2];exact List.take_length
theorem Zsx {l:List UInt8} {origin sum room:Nat} (h:l≠[]) (hl:l.length<=900) (ho:origin<l.length) (hs:sum<4294967296) (hr:l.length<=room) (more:List Bool) :
  ∃held,rdB (allK l origin sum++more) room=.ok l origin sum (allK l origin sum).length held:=by
 have hf1:(field sum 32).length=32:=Zac _ _;have hf3:(field origin 24).length=24:=Zac _ _
 have e0:allK l origin sum++more=field sum 32++([false]++(field origin 24++(ubits (has l)++(rowK l++more)))):=by
  unfold allK;simp only [List.append_assoc]
 have d32:(allK l origin sum++more).drop 32=[false]++(field origin 24++(ubits (has l)++(rowK l++more))):=by
  rw [e0,List.drop_append_of_le_length (by omega),List.drop_of_length_le (by omega),List.nil_append]
 have d33:(allK l origin sum++more).drop 33=field origin 24++(ubits (has l)++(rowK l++more)):=by
  rw [show 33=32+1 by rfl,<-List.drop_drop,d32,List.drop_append_of_le_length (by decide)];exact List.nil_append _
 have d57:(allK l origin sum++more).drop 57=ubits (has l)++(rowK l++more):=by
  rw [show 57=33+24 by rfl,<-List.drop_drop,d33,List.drop_append_of_le_length (by omega),List.drop_of_length_le (by omega),List.nil_append]
 have hH:Head (allK l origin sum++more) sum origin:=by
  refine⟨?_,?_,?_,?_⟩
  ·rw [e0];simp only [List.length_append,hf1,hf3,List.length_singleton];omega
  ·rw [d32,List.take_append_of_le_length (by decide)];rfl
  ·rw [e0,List.take_append_of_le_length (by omega),List.take_of_length_le (by omega),Zau];exact Nat.mod_eq_of_lt hs
  ·rw [d33,List.take_append_of_le_length (by omega),List.take_of_length_le (by omega),Zau];exact Nat.mod_eq_of_lt (by omega)
 have hk:=ZhS (has l) (rowK l++more) 16 (Nat.le_refl _);rw [ZrX _ (fun b hb=>Zjm l b hb),<-Zbg,<-d57] at hk;have hu:=Zlw hk (ZlD h)
 have hdj:(allK l origin sum++more).drop (57+(ubits (has l)).length)=rowK l++more:=by
  rw [<-List.drop_drop,d57,List.drop_append_of_le_length (Nat.le_refl _),List.drop_of_length_le (Nat.le_refl _),List.nil_append]
 have hcl:=ZcT l;have hrd:=(mayK h).rd (by omega) more 400000;rw [if_pos (by omega)] at hrd;have h1:=encOkK h;have hdec:=ZerM.dec_encR _ room h1.1 (placesK l) [] 0 h1.2.2 (by rw [Za8];simp;exact hr);obtain⟨st,hz,hd,hout⟩:=Zlx _ _ _ hdec
 have hz2:zrun ((symsK l).length:Int) room (codesK l)=some st:=by
  unfold zrun codesK;rw [ZerM.enc_eq];exact hz
 have hout2:st.out=placesK l:=by rw [hout];simp
 have hall:(allK l origin sum).length=57+(ubits (has l)).length+(rowK l).length:=by
  unfold allK;simp only [List.length_append,hf1,hf3,List.length_singleton]
 have hR:rdC ((allK l origin sum++more).drop (57+(ubits (has l)).length)) ((symsK l).length+2) 400000=.ok (codesK l) (rowK l).length:=by
  rw [hdj];exact hrd
 have hfin:=Zn8 (sum:=sum) (origin:=origin) (j:=57+(ubits (has l)).length) hR hz2;rw [hout2,ZqE,if_neg (by omega)] at hfin;have hB:=Zdc (room:=room) hH hu;have hsy:syms (has l) 256=symsK l:=rfl;rw [hsy] at hB;rw [hB,hfin,hall];exact⟨_,rfl⟩
end BlkM
end
section
open Go.RowKit BitM HufM CanM CodM UsedM MtfM TabM FreqM BlkM
theorem ZiB (l:List UInt8):has (symsK l)=has l:=by
 funext n
 by_cases h:n<256
 ·exact ZkU (has l) n h
 ·rw [Zjm _ _ (by omega),Zjm _ _ (by omega)]
theorem Bnds.touch {w w':World} {S:Nat->Prop} (h:Bnds w) (ht:Touch S w w') (hS:¬S 1):Bnds w':=by
 have hl:=h.lt;obtain⟨t,fr,h⟩:=h;exact⟨t,fr,(ht.block _ hl hS).trans h⟩
theorem ZqG {w:World} {base:Nat} {zs:List Int} {a:Option Addr} {n c:Nat} (h:OwnI w base (.slice a n c) zs):n<=c/\c<=9223372036854775807:=by
 rcases h.2 with⟨h1,_⟩|⟨g,cap,cur,h1,_,_,h4,h5,_⟩
 ·simp only [Value.slice.injEq] at h1;omega
 ·simp only [Value.slice.injEq] at h1;obtain⟨_,rfl,rfl⟩:=h1;unfold maxLen at h5;omega
theorem Wrote.used {w w1 w2:World} {g:Nat} {v:Value} {tk:Nat} {q f:List Bool} {v1:Value} (h2:Touch (foot g v) w w1) (h3:∀k,v1.ownBlock=some k->v.ownBlock=some k\/w.heap.size<=k) (k:UsWrote w1 w2 g v1 q tk f):Wrote w g v tk (q++f) w2:=by
 obtain⟨v2,k1,k2,k3⟩:=k;have hs:=h2.size
 have hv:∀i,foot g v1 i->foot g v i\/w.heap.size<=i:=fun i hi=>by
  rcases hi with rfl|hi
  ·exact Or.inl (Or.inl rfl)
  ·exact(h3 i hi).imp Or.inr id
 exact⟨v2,k1,h2.trans k2 hv,fun i hi=>by
  rcases k3 i hi with h|h
  ·exact h3 i h
  ·exact Or.inr (by omega)⟩
theorem Wrote.wrote {w w1 w2:World} {g:Nat} {v:Value} {tk:Nat} {q:List Bool} {v1:Value} (h2:Touch (foot g v) w w1) (h3:∀k,v1.ownBlock=some k->v.ownBlock=some k\/w.heap.size<=k) (k:Wrote w1 g v1 tk q w2):Wrote w g v tk q w2:=by
 obtain⟨v2,k1,k2,k3⟩:=k;have hs:=h2.size
 have hv:∀i,foot g v1 i->foot g v i\/w.heap.size<=i:=fun i hi=>by
  rcases hi with rfl|hi
  ·exact Or.inl (Or.inl rfl)
  ·exact(h3 i hi).imp Or.inr id
 exact⟨v2,k1,h2.trans k2 hv,fun i hi=>by
  rcases k3 i hi with h|h
  ·exact h3 i h
  ·exact Or.inr (by omega)⟩
theorem Zes (b:Nat) (v:Value) (q0:List Bool) (tk:Nat) (s:ByteArray) (O sum:Nat) (w:World) (hw:IsWriter w b v q0 tk) (hB:Bnds w) (hs:s.size<=300) (ho:O<s.size) (hsum:sum<4294967296) (hq:q0.length<=100000) (hgb:1<b) :
  Calls Tryz.prog 19 #[.pointer (some ⟨b,0,none⟩),.string s,.int .i64 (O:Int),.int .u32 (sum:Int)] w fun e w'=>e=.returned (.int .i64 0)/\Wrote w b v tk (q0++allK s.data.toList O sum) w':=by
 have h1:¬(900000:Int)<(s.size:Int):=by omega
 have h2:¬(s.size:Int)<=(O:Int):=by omega
 obtain⟨l,hl⟩:∃l,s.data.toList=l:=⟨_,rfl⟩
 have hll:l.length=s.size:=by rw [<-hl];rfl
 have hne:l≠[]:=fun e=>by rw [e] at hll;simp at hll;omega
 obtain⟨Sy,hSy⟩:∃Sy:ByteArray,(⟨(syms (has l) 256).toArray⟩:ByteArray)=Sy:=⟨_,rfl⟩
 have hSl:Sy.data.toList=symsK l:=by rw [<-hSy];rfl
 have hSz:Sy.size=(symsK l).length:=by rw [<-hSl];rfl
 have h256:=Zhp l;have hpos:=Zfu hne;have HSY:=zh (fun W=>ZjN s W (by unfold maxLen;omega));rw [hl,hSy] at HSY;have HEN:=zh (fun W=>Zml s Sy W hs (by omega));rw [hl,hSl] at HEN
 have HPP:Hid (∀zs err,EncP l (symsK l) zs err->zs=placesK l):=zh (fun zs err h=>by
  obtain⟨m,hm⟩:=Zb0 l;rcases h with⟨h,_⟩|⟨_,h,_⟩|⟨_,⟨m2,h⟩,_⟩
  ·exact absurd (Zhq hne) h
  ·rw [hm] at h;cases h
  ·rw [hm] at h;cases h;rfl)
 have HCC:Hid (∀ys err,ZerM.EncP (placesK l) (Sy.size:Int) ys err->ys=codesK l):=zh (fun ys err h=>by
  rw [hSz] at h;rcases h with⟨h,_⟩|⟨_,h,_⟩
  ·exact absurd (encOkK hne) h
  ·exact h)
 have hpl:=Za8 l;have hcl:=ZcT l;have HZN:=zh (fun(u:Value) W (h:IsInts W u (placesK l))=>ZjY u (placesK l) (Sy.size:Int) W h (by omega));have HUW:=zh (fun(v:Value) (q:List Bool) W (h:IsWriter W b v q tk) (h2:q.length<=1000000)=>ZnU b v q tk Sy W h (by unfold maxLen;omega) (by rw [hSl];exact Zhq hne) h2);have HUB:Hid (ubits (has Sy.data.toList)=ubits (has l)):=zh (by rw [hSl,ZiB]);have HMK:Hid (May14 (codesK l) (sizeK l:Int)):=zh (mayK hne);have hsk:(Sy.size:Int)+2=((sizeK l:Nat):Int):=by unfold sizeK;omega
 obtain⟨NK,hNK⟩:∃N,sizeK l=N:=⟨_,rfl⟩
 have hNK2:NK<=258:=by rw [<-hNK];unfold sizeK;omega
 have hnkw:IntKind.i64.wrap (NK:Int)=(NK:Int):=IntWalk.i64_in _ (by omega);rw [hNK] at hsk HMK
 have HALL:Hid (q0++allK l O sum=q0++field sum 32++field 0 1++field O 24++ubits (has l)++allC (rnd (codesK l) NK 4) (pks (codesK l) NK) (codesK l)):=zh (by
  unfold allK rowK;rw [hNK];have e:field 0 1=[false]:=rfl;rw [e];simp only [List.append_assoc])
 have hub:(ubits (has l)).length<=272:=by rw [Zbg];have:=cnt_le (has l) 16;omega
 have HUL:=zh hub
 have hOw:IntKind.u32.wrap (O:Int)=(O:Int):=by
  simp [IntKind.wrap,IntKind.bits,IntKind.signed];omega
 have HW:=zh hw;have HBN:=zh hB;have HOL:Hid (O<2^24):=zh (by have:(2:Nat)^24=16777216:=(by decide);omega);have HSU:Hid (sum<2^32):=zh hsum;have HCL:Hid ((codesK l).length<=1000):=zh (by omega);have HQ0:=zh hq;have HGB:=zh hgb;rw [hl];clear hgb hw hB hSy hSl hSz h256 hpos hpl hcl hub hsum hq hl hll hne hNK;go_enter Tryz.func19,Tryz.ntmps19;go_wp2_with fail;refine(HSY.out _).mono ?_;rintro e w1 ⟨rfl,hb1⟩;have HT1:=zh hb1;have HW1:=zh (HW.out.other (Touch.ofBelow (S:=fun _=>False) hb1) (fun _ _ h=>h));clear hb1;go_wp2_with fail;refine(HEN.out _).mono ?_;rintro e w2 ⟨u2,zs2,er2,rfl,hi2,hb2,hp2⟩;obtain rfl:=HPP.out _ _ hp2;have HI2:=zh hi2;have HT2:=zh (HT1.out.trans (hb2.mono HT1.out.size));clear hi2 hb2 hp2;go_wp2_with fail;refine(HZN.out _ _ HI2.out).mono ?_;rintro e w3 ⟨u3,zs3,er3,rfl,ho3,hb3,hp3⟩;obtain rfl:=HCC.out _ _ hp3;obtain⟨a3,c3,rfl⟩:=ho3.slice;obtain⟨hc3,hc4⟩:=ZqG ho3;have HO3:=zh ho3;have HC3:=zh (And.intro hc3 hc4);have hsz2:=HT2.out.size
 have HF3:Hid (∀k,(Value.slice a3 (codesK l).length c3).ownBlock=some k->¬foot b v k):=zh (fun k hk hf=>by
  have h5:=(ho3.lt k hk).1;have h6:=(HW.out.lt k hf).1;omega)
 have HB3:=zh (HT2.out.trans (hb3.mono HT2.out.size));have HW3:=zh (HW.out.other (Touch.ofBelow (S:=fun _=>False) HB3.out) (fun _ _ h=>h));have HBN3:=zh (HBN.out.below HB3.out);have HWR3:Hid (Wrote w3 b v tk q0 w3):=zh (Wrote.start HW3.out);have HK3:Hid (∀k,(Value.slice a3 (codesK l).length c3).ownBlock=some k->k<w3.heap.size):=zh (fun k hk=>(ho3.lt k hk).2);clear ho3 hb3 hp3 hc3 hc4 hsz2;have P4:=HWR3.out.put sum 32 (by omega) HSU.out (by have:=HQ0.out;omega);rw [show((32:Nat):Int)=32 from rfl] at P4;have HP4:=zh P4;clear P4;go_wp2_with fail;refine HP4.out.mono ?_;rintro e w4 ⟨rfl,k4⟩;have P5:=k4.put 0 1 (by omega) (by omega) (by rw [List.length_append,Zac];have:=HQ0.out;omega);rw [show((0:Nat):Int)=0 from rfl,show((1:Nat):Int)=1 from rfl] at P5;have HP5:=zh P5;clear P5 k4;go_wp2_with fail;refine HP5.out.mono ?_;rintro e w5 ⟨rfl,k5⟩;have P6:=k5.put O 24 (by omega) HOL.out (by rw [List.length_append,List.length_append,Zac,Zac];have:=HQ0.out;omega);rw [show((24:Nat):Int)=24 from rfl] at P6;have HP6:=zh P6;clear P6 k5;go_wp2_with fail;refine HP6.out.mono ?_;rintro e w6 ⟨rfl,v6,k1,k2,k3⟩;have HU6:=zh (HUW.out v6 _ w6 k1 (by rw [List.length_append,List.length_append,List.length_append,Zac,Zac,Zac];have:=HQ0.out;omega));have HT6:=zh k2;have HV6:=zh k3;clear k1 k2 k3;go_wp2_with fail;refine HU6.out.mono ?_;rintro e w7 ⟨rfl,k7⟩;obtain⟨v7,l1,l2,l3⟩:=Wrote.used HT6.out HV6.out k7;rw [HUB.out] at l1
 have hft:∀k,foot b v7 k->foot b v k\/w3.heap.size<=k:=fun k hk=>by
  rcases hk with rfl|hk
  ·exact Or.inl (Or.inl rfl)
  ·exact(l3 k hk).imp Or.inr id
 have HC7:=zh (Zmz b v7 _ tk a3 (codesK l).length c3 (codesK l) NK w7 l1 (HO3.out.ints.other l2 HF3.out) rfl HCL.out HC3.out.1 HC3.out.2 (HBN3.out.touch l2 (fun hf=>by
   have h1:=(HW3.out.lt _ hf).2;have h2:=HGB.out;omega)) HMK.out (fun k hk hf=>by
   rcases hft k hf with h|h
   ·exact HF3.out k hk h
   ·have:=HK3.out k hk;omega) (by
   rw [List.length_append,List.length_append,List.length_append,List.length_append,Zac,Zac,Zac];have:=HQ0.out;have:=HUL.out;omega))
 have HT7:=zh l2;have HV7:=zh l3;clear k7 l1 l2 l3 hft;go_wp2_with fail;refine HC7.out.mono ?_;rintro e w8 ⟨rfl,k8⟩;have k9:=Wrote.wrote HT7.out HV7.out k8;have k10:=Wrote.wrote (Touch.ofBelow HB3.out) (fun k hk=>Or.inl hk) k9;rw [<-HALL.out] at k10;have HFIN:=zh k10;clear k8 k9 k10;go_wp2_with fail;go_ret;exact⟨rfl,HFIN.out⟩
end
end Go.Proofs.YtnachbjhhpnadaaGreatDoor
