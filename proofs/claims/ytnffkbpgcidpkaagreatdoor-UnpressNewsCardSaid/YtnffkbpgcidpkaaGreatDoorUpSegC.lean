/-
  MERGED by seg.py out of: Shelf Build RleE Feed RleF FeedP RleG SplB SplC.
-/
import Derived.Test.YtnffkbpgcidpkaaGreatDoorUpSegB
import Derived.Test.YtnffkbpgcidpkaaGreatDoorProg
import Derived.Shelf.Strings.Builder1
import Derived.Shelf.Strings.Builder2
import Derived.Shelf.Strings.BuilderF
import Derived.Shelf.Strings.BuilderK
import Derived.Shelf.Strings.Builder2Cap
import Derived.Shelf.Strings.BuilderCap
import Derived.StillTailTactics
import Derived.Deep.RegionHeld3
namespace Go.Proofs
open Go.Shelf
def Tryz.lays169_ren : Go.Shelf.Ren := ⟨fun | 169 => 148 | n => n, fun | 70 => 172 | 9 => 9 | 0 => 0 | 72 => 174 | 37 => 50 | 127 => 190 | 3 => 3 | 5 => 5 | n => n, fun  | n => n⟩
theorem Tryz.lays169 : Go.Proofs.Lays.n169 Tryz.prog Tryz.lays169_ren := {
  mixed := by kernel_rfl
  f169 := Tryz.func148.trans (congrArg some (by kernel_rfl))
  t0 := Tryz.underlying0
  a0 := Tryz.isAgg0
  z0 := Tryz.sizeOf0
  v0 := Tryz.zeroValue0
  t3 := Tryz.underlying3
  a3 := Tryz.isAgg3
  z3 := Tryz.sizeOf3
  v3 := Tryz.zeroValue3
  t9 := Tryz.underlying9
  a9 := Tryz.isAgg9
  z9 := Tryz.sizeOf9
  v9 := Tryz.zeroValue9
  t37 := Tryz.underlying50
  a37 := Tryz.isAgg50
  z37 := Tryz.sizeOf50
  v37 := Tryz.zeroValue50
  t70 := Tryz.underlying172
  a70 := Tryz.isAgg172
  z70 := Tryz.sizeOf172
  v70 := Tryz.zeroValue172
  t72 := Tryz.underlying174
  a72 := Tryz.isAgg174
  z72 := Tryz.sizeOf174
  v72 := Tryz.zeroValue174
  t127 := Tryz.underlying190
  a127 := Tryz.isAgg190
  z127 := Tryz.sizeOf190
  v127 := Tryz.zeroValue190 }
theorem Tryz.Builder_Extra_169 : Builder.Extra Tryz.prog Tryz.lays169_ren := {
  sizeBuilder := by kernel_rfl
  liesBuilder := by kernel_rfl
  t5 := Tryz.underlying5
  a5 := Tryz.isAgg5
  z5 := Tryz.sizeOf5
  v5 := Tryz.zeroValue5
  infoByte := by kernel_rfl
  cellsByte := by kernel_rfl
  sizeByte := by kernel_rfl
  neB5 := by decide }
open Go.RowKit in
theorem Tryz.Builder_String_any (B b : Nat) (l : List UInt8) (w : World) (h : Lib.IsBuilder 174 5 B b (Lib.byteCells l) w) (hBw : B ≤ w.heap.size) :
    Calls Tryz.prog 148 #[.pointer (some ⟨b, 0, none⟩)] w fun e w' => e = .returned (.string ⟨l.toArray⟩) ∧ Below B w w' := Any.Builder_String_any Tryz.lays169 Tryz.Builder_Extra_169 B b l w h hBw
def Tryz.lays165_ren : Go.Shelf.Ren := ⟨fun | 165 => 145 | 240 => 159 | 241 => 160 | 276 => 170 | 277 => 171 | n => n, fun | 70 => 172 | 3 => 3 | 0 => 0 | 4 => 4 | 9 => 9 | 20 => 20 | 72 => 174 | 37 => 50 | 164 => 203 | 5 => 5 | n => n, fun  | n => n⟩
theorem Tryz.lays165 : Go.Proofs.Lays.n165 Tryz.prog Tryz.lays165_ren := {
  mixed := by kernel_rfl
  f165 := Tryz.func145.trans (congrArg some (by kernel_rfl))
  f240 := Tryz.func159.trans (congrArg some (by kernel_rfl))
  f241 := Tryz.func160.trans (congrArg some (by kernel_rfl))
  f276 := Tryz.func170.trans (congrArg some (by kernel_rfl))
  f277 := Tryz.func171.trans (congrArg some (by kernel_rfl))
  t0 := Tryz.underlying0
  a0 := Tryz.isAgg0
  z0 := Tryz.sizeOf0
  v0 := Tryz.zeroValue0
  t3 := Tryz.underlying3
  a3 := Tryz.isAgg3
  z3 := Tryz.sizeOf3
  v3 := Tryz.zeroValue3
  t4 := Tryz.underlying4
  a4 := Tryz.isAgg4
  z4 := Tryz.sizeOf4
  v4 := Tryz.zeroValue4
  t9 := Tryz.underlying9
  a9 := Tryz.isAgg9
  z9 := Tryz.sizeOf9
  v9 := Tryz.zeroValue9
  t20 := Tryz.underlying20
  a20 := Tryz.isAgg20
  z20 := Tryz.sizeOf20
  v20 := Tryz.zeroValue20
  t37 := Tryz.underlying50
  a37 := Tryz.isAgg50
  z37 := Tryz.sizeOf50
  v37 := Tryz.zeroValue50
  t70 := Tryz.underlying172
  a70 := Tryz.isAgg172
  z70 := Tryz.sizeOf172
  v70 := Tryz.zeroValue172
  t72 := Tryz.underlying174
  a72 := Tryz.isAgg174
  z72 := Tryz.sizeOf174
  v72 := Tryz.zeroValue174
  t164 := Tryz.underlying203
  a164 := Tryz.isAgg203
  z164 := Tryz.sizeOf203
  v164 := Tryz.zeroValue203 }
theorem Tryz.Builder_Extra_165 : Builder.Extra Tryz.prog Tryz.lays165_ren := {
  sizeBuilder := by kernel_rfl
  liesBuilder := by kernel_rfl
  t5 := Tryz.underlying5
  a5 := Tryz.isAgg5
  z5 := Tryz.sizeOf5
  v5 := Tryz.zeroValue5
  infoByte := by kernel_rfl
  cellsByte := by kernel_rfl
  sizeByte := by kernel_rfl
  neB5 := by decide }
open Go.RowKit in
theorem Tryz.Builder_Grow_fresh (B b n : Nat) (w : World) (hB : B ≤ b) (hbk : w.heap[b]? = some (.cells #[.pointer none, .slice none 0 0] 174 (0, 0))) (hBw : B ≤ w.heap.size) (hn : n ≤ 281474976710656) :
    Calls Tryz.prog 145 #[.pointer (some ⟨b, 0, none⟩), .int .i64 n] w fun e w' => e = .returned (.tuple #[]) ∧ (Lib.BuilderAt 174 5 B b (.pointer (some ⟨b, 0, none⟩)) [] w' ∧ Below B w w') := Any.Builder_Grow_fresh Tryz.lays165 Tryz.Builder_Extra_165 B b n w hB hbk hBw hn
end Go.Proofs
namespace Go.Proofs.YtnffkbpgcidpkaaGreatDoor
open Go.RowKit
set_option linter.unusedVariables false
/-- A builder that was grown, or written. -/
def Used (B b : Nat) (bs : List Value) (w : World) : Prop := Lib.BuilderAt 174 5 B b (.pointer (some ⟨b, 0, none⟩)) bs w
theorem Used.drew {B b : Nat} {bs : List Value} {w : World} (h : Used B b bs w) : Used B b bs w.drew := h
theorem Used.drewN {B b : Nat} {bs : List Value} {w : World} (h : Used B b bs w) (n : Nat) : Used B b bs (w.drewN n) := h
theorem Used.alloc {B b : Nat} {bs : List Value} {w : World} (h : Used B b bs w) (o : Obj) : Used B b bs (w.alloc o) := by
  have hlt := Lib.BuilderAt.lt h
  obtain ⟨hB, v, hb, hown, hne⟩ := h
  exact ⟨hB, v, (Below.heap_alloc w o b hlt).trans hb, hown.alloc _, hne⟩
theorem Used.other {B b : Nat} {bs : List Value} {w w' : World} {S : Nat → Prop} (h : Used B b bs w) (ht : Touch S w w') (hS : ∀ k, B ≤ k → k < w.heap.size → ¬ S k) : Used B b bs w' := by
  have hlt := Lib.BuilderAt.lt h
  obtain ⟨hB, v, hb, hown, hne⟩ := h
  refine ⟨hB, v, (ht.block b hlt (hS b hB hlt)).trans hb, ownsRow_other hown (fun k hk => ?_), hne⟩
  have := hown.lt k hk
  exact ht.block k this.2 (hS k this.1 this.2)
theorem copyCheck_used (B b : Nat) (bs : List Value) (w : World) (h : Used B b bs w) : Calls Tryz.prog 159 #[.pointer (some ⟨b, 0, none⟩)] w fun e w' => e = .returned (.tuple #[]) ∧ w = w' :=
  (Any.Builder_copyCheck_used (L := { Tryz.lays165 with }) Tryz.Builder_Extra_165.toX72 b w (Lib.BuilderAt.cell0 h)).mono fun _ _ ⟨h1, h2⟩ => ⟨h1, h2.symm⟩
theorem own_ne {w : World} {b B g : Nat} {cs : Array Value} {v : Value} {n : Nat} {xs : List Value} (h : w.ownsRow B 5 1 v n xs) (hb : w.heap[b]? = some (.cells cs 174 (0, 0))) : v.ownBlock ≠ some b := by
  rcases h.2 with ⟨rfl, _⟩ | ⟨g, cap, cur, rfl, _, hg, _⟩
  · intro e; cases e
  · intro e
    obtain rfl : g = b := by simpa [Value.ownBlock] using e
    rw [hb] at hg
    simp at hg
theorem used_put {w : World} {B b : Nat} {p v v' : Value} {bs : List Value} (hB : B ≤ b) (hb : w.heap[b]? = some (.cells #[.pointer (some ⟨b, 0, none⟩), v] 174 (0, 0))) (h : w.ownsRow B 5 1 v' bs.length bs) :
    Used B b bs (w.setCell ⟨b, 1, none⟩ v') :=
  ⟨hB, v', heap_setCell_same _ _ 1 _ _ _ hb, ownsRow_other h (fun k hk => heap_setCell_other w ⟨b, 1, none⟩ k v' (fun e => own_ne (g := 0) h hb (by rw [hk]; exact congrArg some e))), own_ne (g := 0) h hb⟩
set_option maxRecDepth 100000 in
set_option maxHeartbeats 1000000 in
theorem writeByte_any (B b : Nat) (bs : List Value) (c : Int) (w : World) (h : Used B b bs w) (hlen : bs.length + 1 ≤ 140737488355328) (hBw : B ≤ w.heap.size) :
    Calls Tryz.prog 185 #[.pointer (some ⟨b, 0, none⟩), .int .u8 c] w fun e w' => e = .returned .nilIface ∧ Used B b (bs ++ [.int .u8 c]) w' ∧ Below B w w' := by
  obtain ⟨i0, hi, hz0, hz1, hz2⟩ := info_parts info5
  have hlt := Lib.BuilderAt.lt h
  have H := Lib.hid h
  obtain ⟨hB, v, hbk, hown, hne⟩ := h
  have c1 : w.cell? ⟨b, 1, none⟩ = some v := by rw [Lib.cell_of_heap hbk]; rfl
  have HK := Lib.hid hbk
  have HO := Lib.hid hown
  have HN := Lib.hid hne
  have HI := Lib.hid hi
  have HZ0 := Lib.hid hz0
  have HZ1 := Lib.hid hz1
  have HZ2 := Lib.hid hz2
  clear hbk hown hne hi hz0 hz1 hz2
  go_enter Tryz.func185, Tryz.ntmps185
  go_wp2_with fail
  refine (copyCheck_used B b bs w H.out).mono ?_
  rintro e w' ⟨rfl, rfl⟩
  go_wp2_with (at_builtin; refine wpList_append_own _ rfl _ _ 50 rfl B 5 i0 (.int .u8 0) 1 1 Tryz.underlying50 HI.out HZ0.out HZ1.out HZ2.out rfl (by decide) _ _ _ rfl (HO.out.alloc _) ⟨w.heap.size, 0, none⟩ 1 1 [.int .u8 c] rfl rfl ?c1 ?c2 ?c3 ?c4 ?c5 ?_)
  case c1 => exact news_new _ _ _ _ rfl
  case c2 => intro u hu; simp at hu; subst hu; rfl
  case c3 => unfold maxLen; omega
  case c4 => omega
  case c5 => simp; omega
  intro v' w1 hown' hgrow _
  obtain ⟨a', c', rfl⟩ := slice_of_own hown'
  have hk1 : w1.heap[b]? = some (.cells #[.pointer (some ⟨b, 0, none⟩), v] 174 (0, 0)) := (hgrow.block b (by simp; omega) (fun e => HN.out e.symm)).trans ((Below.heap_alloc w _ b hlt).trans HK.out)
  have d1 : w1.cell? ⟨b, 1, none⟩ = some v := by rw [Lib.cell_of_heap hk1]; rfl
  have f1 : w1.frozen? ⟨b, 1, none⟩ = false := Lib.frozen_of_heap hk1 1
  have HK1 := Lib.hid hk1
  have HO1 := Lib.hid hown'
  have HB1 := Lib.hid (Below.grown ((Below.refl B w).alloc hBw _) hgrow (by simp; omega) (fun j hj => (HO.out.lt j hj).1))
  clear hk1 hown' hgrow
  go_wp2_with fail
  go_ret
  refine ⟨rfl, ?_, HB1.out.setCell hB _⟩
  exact used_put (p := v) hB HK1.out (by have := HO1.out; rwa [List.length_append])
set_option maxRecDepth 100000 in
set_option maxHeartbeats 1000000 in
theorem writeByte_built (B b : Nat) (bs : List Value) (c : Int) (w : World) (h0 : Lib.IsBuilder 174 5 B b bs w) (hlen : bs.length + 1 ≤ 140737488355328) (hBw : B ≤ w.heap.size) :
    Calls Tryz.prog 185 #[.pointer (some ⟨b, 0, none⟩), .int .u8 c] w fun e w' => e = .returned .nilIface ∧ Used B b (bs ++ [.int .u8 c]) w' ∧ Below B w w' := by
  obtain ⟨i0, hi, hz0, hz1, hz2⟩ := info_parts info5
  have HI := Lib.hid hi
  have HZ0 := Lib.hid hz0
  have HZ1 := Lib.hid hz1
  have HZ2 := Lib.hid hz2
  clear hi hz0 hz1 hz2
  go_enter Tryz.func185, Tryz.ntmps185
  go_wp2_with fail
  refine (Any.Builder_copyCheck (L := { Tryz.lays165 with }) Tryz.Builder_Extra_165.toX72 B b bs w h0).mono ?_
  rintro e w0 ⟨rfl, h, hbel⟩
  have HBEL := Lib.hid hbel
  clear hbel
  have hBw0 : B ≤ w0.heap.size := Nat.le_trans hBw HBEL.out.size
  have hlt := Lib.BuilderAt.lt h
  obtain ⟨hB, v, hbk, hown, hne⟩ := h
  have c1 : w0.cell? ⟨b, 1, none⟩ = some v := by rw [Lib.cell_of_heap hbk]; rfl
  have HK := Lib.hid hbk
  have HO := Lib.hid hown
  have HN := Lib.hid hne
  clear hbk hown hne
  go_wp2_with (at_builtin; refine wpList_append_own _ rfl _ _ 50 rfl B 5 i0 (.int .u8 0) 1 1 Tryz.underlying50 HI.out HZ0.out HZ1.out HZ2.out rfl (by decide) _ _ _ rfl (HO.out.alloc _) ⟨w0.heap.size, 0, none⟩ 1 1 [.int .u8 c] rfl rfl ?c1 ?c2 ?c3 ?c4 ?c5 ?_)
  case c1 => exact news_new _ _ _ _ rfl
  case c2 => intro u hu; simp at hu; subst hu; rfl
  case c3 => unfold maxLen; omega
  case c4 => omega
  case c5 => simp; omega
  intro v' w1 hown' hgrow _
  obtain ⟨a', c', rfl⟩ := slice_of_own hown'
  have hk1 : w1.heap[b]? = some (.cells #[.pointer (some ⟨b, 0, none⟩), v] 174 (0, 0)) := (hgrow.block b (by simp; omega) (fun e => HN.out e.symm)).trans ((Below.heap_alloc w0 _ b hlt).trans HK.out)
  have d1 : w1.cell? ⟨b, 1, none⟩ = some v := by rw [Lib.cell_of_heap hk1]; rfl
  have f1 : w1.frozen? ⟨b, 1, none⟩ = false := Lib.frozen_of_heap hk1 1
  have HK1 := Lib.hid hk1
  have HO1 := Lib.hid hown'
  have HB1 := Lib.hid (Below.grown ((Below.refl B w0).alloc hBw0 _) hgrow (by simp; omega) (fun j hj => (HO.out.lt j hj).1))
  clear hk1 hown' hgrow
  go_wp2_with fail
  go_ret
  refine ⟨rfl, ?_, HBEL.out.trans (HB1.out.setCell hB _)⟩
  exact used_put (p := v) hB HK1.out (by have := HO1.out; rwa [List.length_append])
end Go.Proofs.YtnffkbpgcidpkaaGreatDoor
namespace Go.Proofs.YtnffkbpgcidpkaaGreatDoor
open Go.RowKit RleM
set_option linter.unusedVariables false
def u8s (l : List UInt8) : List Value := l.map u8v
theorem rlsz_le (n : Nat) : rlsz n ≤ 5 := by unfold rlsz; split <;> omega
/-- WHAT THE CLOSURE OF Encode KEEPS. -/
structure Packs (w0 : World) (b : Nat) (l : List UInt8) (w : World) : Prop where
  used : Used w0.heap.size b (u8s l) w
  below : Below w0.heap.size w0 w
theorem Packs.drewN {w0 w : World} {b : Nat} {l : List UInt8} (h : Packs w0 b l w) (m : Nat) : Packs w0 b l (w.drewN m) :=
  ⟨h.used.drewN m, h.below.trans ⟨rfl, rfl, rfl, Nat.le_refl _, fun _ _ => rfl⟩⟩
theorem u8s_one (l : List UInt8) : ∀ u ∈ u8s l, u.oneCell' = true := by
  intro u hu
  obtain ⟨x, _, rfl⟩ := List.mem_map.1 hu
  rfl
theorem byteCells_u8s (l : List UInt8) : Lib.byteCells l = u8s l := rfl
end Go.Proofs.YtnffkbpgcidpkaaGreatDoor
namespace Go.Proofs.YtnffkbpgcidpkaaGreatDoor
open Go.RowKit RleM
set_option linter.unusedVariables false
theorem touch_two {w w1 : World} {b : Nat} (h : Touch (· = b) w w1) (u v : Value) : Touch (· = b) w ((w1.setCell ⟨b, 0, none⟩ u).setCell ⟨b, 1, none⟩ v) :=
  Touch.setCell (Touch.setCell h (p := ⟨b, 0, none⟩) (Or.inl rfl) u) (p := ⟨b, 1, none⟩) (Or.inl rfl) v
/-- What End tells of a row. -/
def packR (c : UInt8) (n : Nat) : List UInt8 := if n = 0 then [] else packP (c, n)
theorem cell_other {w w' : World} {b k : Nat} {o : Nat} {v : Value} (h : w.cell? ⟨k, o, none⟩ = some v) (ht : Touch (· = b) w w') (hk : k ≠ b) : w'.cell? ⟨k, o, none⟩ = some v := by
  have hlt := World.block_lt_of_cell? w ⟨k, o, none⟩ h
  have e := ht.block k hlt hk
  simp only [World.cell?, e] at h ⊢
  exact h
set_option maxRecDepth 100000 in
set_option maxHeartbeats 1000000 in
theorem touch_or {w w1 : World} {b t : Nat} (h : Touch (· = b) w w1) (v : Value) : Touch (fun k => k = b ∨ k = t) w (w1.setCell ⟨t, 0, none⟩ v) :=
  Touch.setCell (S := fun k => k = b ∨ k = t) (h.mono fun _ h => Or.inl h) (p := ⟨t, 0, none⟩) (Or.inl (Or.inr rfl)) v
theorem Touch.ofDrew {S : Nat → Prop} {w w1 : World} (h : Touch S w.drew w1) : Touch S w w1 := ⟨h.os, h.tape, h.output, h.size, h.block⟩
theorem packR_le (c : UInt8) (n : Nat) : (packR c n).length ≤ 5 := by
  unfold packR
  split
  · simp
  · rw [packP_sz]; exact rlsz_le _
/-- PUT, a byte: what is told, and the row then. -/
def pstep (c : UInt8) (n : Nat) (x : UInt8) : List UInt8 × (UInt8 × Nat) :=
  let o := if x = c then [] else packR c n
  let m := if x = c then n + 1 else 1
  if m = 255 then (o ++ packP (x, 255), (0, 0)) else (o, (x, m))
end Go.Proofs.YtnffkbpgcidpkaaGreatDoor
namespace Go.Proofs.YtnffkbpgcidpkaaGreatDoor
open Go.RowKit RleM
set_option linter.unusedVariables false
theorem data_get {s : ByteArray} {k : Nat} (hk : k < s.size) : s.data.toList[k]? = some s[k] := rlbyte_at rfl hk
theorem take_step {s : ByteArray} {k : Nat} (hk : k < s.size) : s.data.toList.take (k + 1) = s.data.toList.take k ++ [s[k]] := by
  rw [List.take_add_one, data_get hk]; rfl
/-- WHAT THE LOOP OF unpack KNOWS. -/
structure Unp (I : List UInt8 → World → Prop) (s : ByteArray) (k : Nat) (a : UInt8) (n : Nat) (o : List UInt8) (wr : World) : Prop where
  run : urun (0, 0) (s.data.toList.take k) = some ((a, n), o)
  inv : I o wr
  len : o.length ≤ 255 * k
  last : 0 < n → 0 < k ∧ s.data.toList[k - 1]? = some a
/-- A byte that stands for itself. -/
theorem Unp.plain {I : List UInt8 → World → Prop} {s : ByteArray} {k : Nat} {a : UInt8} {n : Nat} {o : List UInt8} {wr w' : World} (h : Unp I s k a n o wr) (hk : k < s.size) (hn : n ≠ 4)
    (m : Nat) (hm : m = if s[k] = a then n + 1 else 1) (hw : I (o ++ List.replicate 1 s[k]) w') : Unp I s (k + 1) s[k] m (o ++ List.replicate 1 s[k]) w' := by
  obtain ⟨h1, h2, h3, h4⟩ := h
  refine ⟨?_, hw, by simp; omega, fun _ => ⟨by omega, by simpa using data_get hk⟩⟩
  rw [take_step hk, urun_snoc, h1]
  simp [ustep, hn, hm]
/-- A count. -/
theorem Unp.count {I : List UInt8 → World → Prop} {s : ByteArray} {k : Nat} {a : UInt8} {o : List UInt8} {wr w' : World} (h : Unp I s k a 4 o wr) (hk : k < s.size) (hc : ¬ 251 < s[k].toNat)
    (hw : I (o ++ List.replicate s[k].toNat a) w') : Unp I s (k + 1) a 0 (o ++ List.replicate s[k].toNat a) w' := by
  obtain ⟨h1, h2, h3, h4⟩ := h
  have := s[k].toNat_lt
  refine ⟨?_, hw, by simp; omega, fun h => by omega⟩
  rw [take_step hk, urun_snoc, h1]
  simp [ustep, hc]
theorem urun_none {st : UInt8 × Nat} (l m : List UInt8) (h : urun st l = none) : urun st (l ++ m) = none := by rw [urun_append, h]; rfl
theorem Unp.bad {I : List UInt8 → World → Prop} {s : ByteArray} {k : Nat} {a : UInt8} {o : List UInt8} {wr : World} (h : Unp I s k a 4 o wr) (hk : k < s.size) (hc : 251 < s[k].toNat) : dec s.data.toList = ([], 25) := by
  obtain ⟨h1, h2, h3, h4⟩ := h
  have h5 : urun (0, 0) (s.data.toList.take (k + 1)) = none := by
    rw [take_step hk, urun_snoc, h1]
    simp [ustep, hc]
  have := urun_none _ (s.data.toList.drop (k + 1)) h5
  rw [List.take_append_drop] at this
  unfold dec res
  rw [this]; rfl
theorem Unp.done {I : List UInt8 → World → Prop} {s : ByteArray} {a : UInt8} {n : Nat} {o : List UInt8} {wr : World} (h : Unp I s s.size a n o wr) : dec s.data.toList = (if n = 4 then ([], 24) else (o, 0)) := by
  have h1 := h.run
  rw [show s.data.toList.take s.size = s.data.toList from List.take_of_length_le (Nat.le_refl _)] at h1
  unfold dec res; rw [h1]; rfl
/-- What unpack leaves. -/
def Left (I : List UInt8 → World → Prop) (l : List UInt8) (w : World) : Prop := ∃ o, I o w ∧ ((dec l).2 = 0 → o = (dec l).1)
end Go.Proofs.YtnffkbpgcidpkaaGreatDoor
namespace Go.Proofs.YtnffkbpgcidpkaaGreatDoor
open Go.RowKit RleM
set_option linter.unusedVariables false
/-- A packer over a text. -/
def prun : UInt8 × Nat → List UInt8 → List UInt8 × (UInt8 × Nat)
  | st, [] => ([], st)
  | st, x :: l => ((pstep st.1 st.2 x).1 ++ (prun (pstep st.1 st.2 x).2 l).1, (prun (pstep st.1 st.2 x).2 l).2)
theorem prun_snoc : ∀ (l : List UInt8) (st : UInt8 × Nat) (x : UInt8), prun st (l ++ [x]) = ((prun st l).1 ++ (pstep (prun st l).2.1 (prun st l).2.2 x).1, (pstep (prun st l).2.1 (prun st l).2.2 x).2)
  | [], st, x => by simp [prun]
  | y :: l, st, x => by simp [prun, prun_snoc l, List.append_assoc]
structure PInv (st : UInt8 × Nat) : Prop where
  le : st.2 ≤ 254
  zero : st.2 = 0 → st.1 = 0
theorem pstep_inv {c : UInt8} {n : Nat} (h : PInv (c, n)) (x : UInt8) : PInv (pstep c n x).2 ∧ (pstep c n x).1.length ≤ 10 := by
  have h1 := h.le
  have h2 := packR_le c n
  have h3 := packP_sz (x, 255)
  simp only at h1 h3
  have h4 := rlsz_le 255
  unfold pstep
  simp only
  have ho : (if x = c then ([] : List UInt8) else packR c n).length ≤ 5 := by
    split
    · simp
    · exact h2
  have hm : 1 ≤ (if x = c then n + 1 else 1) ∧ (if x = c then n + 1 else 1) ≤ 255 := by split <;> omega
  generalize (if x = c then ([] : List UInt8) else packR c n) = o at *
  generalize (if x = c then n + 1 else 1) = m at *
  split
  · exact ⟨⟨by simp, fun _ => rfl⟩, by simp only [List.length_append]; omega⟩
  · exact ⟨⟨by simp only; omega, fun e => by simp only at e; omega⟩, by simp only; omega⟩
theorem prun_inv : ∀ (l : List UInt8) (st : UInt8 × Nat), PInv st → PInv (prun st l).2 ∧ (prun st l).1.length ≤ 10 * l.length
  | [], st, h => ⟨h, by simp [prun]⟩
  | x :: l, st, h => by
    obtain ⟨h1, h2⟩ := pstep_inv (c := st.1) (n := st.2) h x
    obtain ⟨h3, h4⟩ := prun_inv l _ h1
    exact ⟨h3, by simp only [prun, List.length_append, List.length_cons]; omega⟩
theorem pinv0 : PInv (0, 0) := ⟨by decide, fun _ => rfl⟩
theorem prun_step {s : ByteArray} {k : Nat} (hk : k < s.size) : prun (0, 0) (s.data.toList.take (k + 1)) = ((prun (0, 0) (s.data.toList.take k)).1 ++ (pstep (prun (0, 0) (s.data.toList.take k)).2.1 (prun (0, 0) (s.data.toList.take k)).2.2 s[k]).1, (pstep (prun (0, 0) (s.data.toList.take k)).2.1 (prun (0, 0) (s.data.toList.take k)).2.2 s[k]).2) := by
  rw [List.take_add_one, show s.data.toList[k]? = some s[k] from rlbyte_at rfl hk]
  simp only [Option.toList]
  rw [prun_snoc]
/-! ### A packer's text are the pieces -/
/-- What a packer has told, and its row, of a text. -/
structure SureP (l : List UInt8) (T : List UInt8) (c : UInt8) (n : Nat) (QS : List Pc) : Prop where
  pieces : pieces l = QS ++ (if n = 0 then [] else [(c, n)])
  told : T = pack QS
  le : n ≤ 254
  none : n = 0 → c = 0 ∧ ∀ p, QS.getLast? = some p → p.2 = 255
theorem sure_snoc {l T : List UInt8} {c : UInt8} {n : Nat} {QS : List Pc} (h : SureP l T c n QS) (x : UInt8) : ∃ QS2, SureP (l ++ [x]) (T ++ (pstep c n x).1) (pstep c n x).2.1 (pstep c n x).2.2 QS2 := by
  obtain ⟨h1, h2, h3, h4⟩ := h
  by_cases hn : n = 0
  · subst hn
    obtain ⟨rfl, h5⟩ := h4 rfl
    rw [if_pos rfl, List.append_nil] at h1
    have hp := pieces_new l x (fun p hp => Or.inr (h5 p (by rw [← h1]; exact hp)))
    have e : pstep 0 0 x = ([], (x, 1)) := by
      unfold pstep
      by_cases hx : x = 0
      · rw [if_pos hx, if_pos hx]; rfl
      · rw [if_neg hx, if_neg hx]; rfl
    rw [e]
    refine ⟨QS, ?_, by simp [h2], by show 1 ≤ 254; omega, fun h => by cases h⟩
    rw [hp, h1]; rfl
  · rw [if_neg hn] at h1
    by_cases hx : x = c
    · subst hx
      have hp := pieces_grow l QS x n h1 (by omega)
      by_cases hm : n + 1 = 255
      · have e : pstep x n x = ([] ++ packP (x, 255), (0, 0)) := by
          unfold pstep; rw [if_pos rfl, if_pos rfl]; simp only; rw [if_pos hm]
        rw [e]
        refine ⟨QS ++ [(x, 255)], ?_, ?_, Nat.zero_le _, fun _ => ⟨rfl, fun p hp => ?_⟩⟩
        · rw [hp, hm]; simp
        · rw [pack_append, pack_one, h2]; simp
        · have : (x, 255) = p := by simpa using hp
          rw [← this]
      · have e : pstep x n x = ([], (x, n + 1)) := by
          unfold pstep; rw [if_pos rfl, if_pos rfl]; simp only; rw [if_neg hm]
        rw [e]
        exact ⟨QS, by rw [hp]; simp, by simp [h2], by simp only; omega, fun h => by simp at h⟩
    · have hp := pieces_new l x (fun p hp => by
        rw [h1] at hp
        have : (c, n) = p := by simpa using hp
        rw [← this]
        exact Or.inl hx)
      have e : pstep c n x = (packP (c, n), (x, 1)) := by
        unfold pstep; rw [if_neg hx, if_neg hx]
        show (if 1 = 255 then _ else _) = _
        rw [if_neg (by decide)]
        unfold packR; rw [if_neg hn]
      rw [e]
      exact ⟨QS ++ [(c, n)], by rw [hp, h1]; simp, by rw [pack_append, pack_one, h2], by show 1 ≤ 254; omega, fun h => by cases h⟩
theorem sure_run (l : List UInt8) : ∀ k, k ≤ l.length → ∃ QS, SureP (l.take k) (prun (0, 0) (l.take k)).1 (prun (0, 0) (l.take k)).2.1 (prun (0, 0) (l.take k)).2.2 QS
  | 0, _ => ⟨[], rfl, rfl, Nat.zero_le _, fun _ => ⟨rfl, fun p h => by cases h⟩⟩
  | k + 1, hk => by
    obtain ⟨QS, h⟩ := sure_run l k (by omega)
    have e : l.take (k + 1) = l.take k ++ [l[k]] := List.take_succ_eq_append_getElem (by omega)
    rw [e, prun_snoc]
    exact sure_snoc h l[k]
theorem sure_all {l T : List UInt8} {c : UInt8} {n : Nat} {QS : List Pc} (h : SureP l T c n QS) : T ++ packR c n = encode l := by
  unfold encode
  rw [h.pieces, pack_append, h.told]
  unfold packR
  split
  · simp [pack]
  · rw [pack_one]
theorem sure_encode (l : List UInt8) : (prun (0, 0) l).1 ++ packR (prun (0, 0) l).2.1 (prun (0, 0) l).2.2 = encode l := by
  obtain ⟨QS, h⟩ := sure_run l l.length (Nat.le_refl _)
  rw [List.take_length] at h
  exact sure_all h
end Go.Proofs.YtnffkbpgcidpkaaGreatDoor
namespace Go.Proofs.YtnffkbpgcidpkaaGreatDoor
open Go.RowKit RleM
set_option linter.unusedVariables false
theorem dec_len (l : List UInt8) : (dec l).1.length ≤ 255 * l.length := by
  have h : ∀ (l : List UInt8) (st : UInt8 × Nat) (r : (UInt8 × Nat) × List UInt8), urun st l = some r → r.2.length ≤ 255 * l.length := by
    intro l
    induction l with
    | nil =>
      intro st r h
      have : (st, []) = r := by simpa [urun] using h
      subst this
      simp
    | cons c l ih =>
      intro st r h
      rw [urun] at h
      obtain ⟨q, hq, h2⟩ := Option.bind_eq_some_iff.1 h
      obtain ⟨q2, hq2, rfl⟩ := Option.map_eq_some_iff.1 h2
      have h3 := ih _ _ hq2
      have h4 : q.2.length ≤ 255 := by
        unfold ustep at hq
        split at hq
        · split at hq
          · cases hq
          · have hc := c.toNat_lt
            obtain rfl := Option.some.inj hq
            simp; omega
        · obtain rfl := Option.some.inj hq
          simp
      simp only [List.length_append, List.length_cons]; omega
  unfold dec res
  cases hr : urun (0, 0) l with
  | none => simp [outc]
  | some r =>
    obtain ⟨st, o⟩ := r
    have := h l _ _ hr
    show (if st.2 = 4 then (([] : List UInt8), 24) else (o, 0)).1.length ≤ _
    split
    · simp
    · exact this
theorem dec_code (l : List UInt8) : (dec l).2 = 0 ∨ (dec l).2 = 24 ∨ (dec l).2 = 25 := by
  unfold dec res
  cases urun (0, 0) l with
  | none => simp [outc]
  | some r =>
    obtain ⟨st, o⟩ := r
    have e : outc (some (st, o)) = if st.2 = 4 then (([] : List UInt8), 24) else (o, 0) := rfl
    rw [e]
    split <;> simp
end Go.Proofs.YtnffkbpgcidpkaaGreatDoor
namespace Go.Proofs.YtnffkbpgcidpkaaGreatDoor
open Go.RowKit RleM SplM
set_option linter.unusedVariables false
set_option linter.unusedSimpArgs false
/-- The sum of bytes. -/
def crcL (l : List UInt8) : BitVec 32 := CrcM.crc l
/-- What a splitter may turn. -/
def ftP (t pb sb : Nat) (bv : Value) (x : Nat) : Prop := x = t ∨ x = pb ∨ x = sb ∨ bv.ownBlock = some x
section
variable {B t pb sb room : Nat} {w w' : World} {c : UInt8} {n : Nat} {blk : List Pc} {bv : Value} {tp : Option Nat}
theorem crcL_more (a b : List UInt8) : CrcM.ng (CrcM.run (CrcM.ng (crcL a)) b) = crcL (a ++ b) := crc_more a b
end
end Go.Proofs.YtnffkbpgcidpkaaGreatDoor
namespace Go.Proofs.YtnffkbpgcidpkaaGreatDoor
open Go.RowKit RleM SplM
set_option linter.unusedVariables false
set_option linter.unusedSimpArgs false
theorem IsRowB.conv {w : World} {v : Value} {l : List UInt8} (h : IsRowB w v l) (W : World) (hW : W.heap = w.heap) : (convert 50 9 v).run Tryz.prog W = .ok (.string ⟨l.toArray⟩) W := by
  rcases h with ⟨rfl, rfl⟩ | ⟨g, off, cap, rfl, hg, h1, h2, hc, _⟩
  · exact conv_row (W := W) (base := 0) (v := .slice none 0 0) (n := 0) (l := []) (World.ownsRow_nil _ _ _ _)
  · refine run_convert_bytes_back W 50 9 5 ⟨g, off, none⟩ cap l Tryz.underlying50 Tryz.underlying5 Tryz.underlying9 (fun j hj => ?_)
    rw [Addr.add_lit, World.cell?_of_block (w := w) (w' := W) (a := ⟨g, off + j, none⟩) (by rw [hW]), hc j _ (List.getElem?_eq_getElem hj)]
    rfl
def blkV (blk : List Pc) : Array Value := #[.string ⟨(pack blk).toArray⟩, .int .u32 ((crcL (flat blk)).toNat : Int), .int .i64 ((flat blk).length : Int)]
def blk0 : Array Value := #[.string ⟨#[]⟩, .int .u32 0, .int .i64 0]
set_option maxHeartbeats 400000 in
theorem value_cell (b : Nat) (X : BitVec 32) (w : World) (h : w.cell? ⟨b, 1, none⟩ = some (.int .u32 (X.toNat : Int))) :
    Calls Tryz.prog 88 #[.pointer (some ⟨b, 0, none⟩)] w fun e w' => e = .returned (.int .u32 (X.toNat : Int)) ∧ w' = w := by
  go_enter Tryz.func88, Tryz.ntmps88
  go_wp2_with fail
  go_ret
  exact ⟨rfl, rfl⟩
section
variable {B t pb sb room : Nat} {w w' : World} {c : UInt8} {n : Nat} {blk : List Pc} {bv : Value} {tp : Option Nat}
end
end Go.Proofs.YtnffkbpgcidpkaaGreatDoor
