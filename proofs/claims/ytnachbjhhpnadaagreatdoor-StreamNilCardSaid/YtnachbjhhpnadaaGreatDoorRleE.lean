/-
  THE WALKS OF LAYER 3 (package rle): Piece, Encode.
-/
import Derived.Test.YtnachbjhhpnadaaGreatDoorRleD
import Derived.Test.YtnachbjhhpnadaaGreatDoorBuild
namespace Go.Proofs.YtnachbjhhpnadaaGreatDoor
open Go.RowKit RleM
set_option linter.unusedVariables false
def u8s (l : List UInt8) : List Value := l.map u8v
theorem slice5 (W : World) (b n : Nat) (hn : n ≤ 5) : (Instr.sliceAt 344 (.pointer (some ⟨b, 0, none⟩)) none (some (.int .i64 (n : Int))) none).run Tryz.prog W = .ok (.slice (some ⟨b, 0, none⟩) n 5) W := by
  have e : Tryz.prog.arrayLen 344 = 5 := by kernel_rfl
  have hs : (sizeOf (Tryz.prog.elem 344)).run Tryz.prog W = .ok 1 W := by kernel_rfl
  rw [run_sliceAt_array_h W _ ⟨b, 0, none⟩ (by kernel_rfl) .i64 (n : Int) (by omega) (by rw [e]; omega), hs]
  simp [Result.andThen, slicedAt, e, Addr.add]
theorem rlsz_le (n : Nat) : sz n ≤ 5 := by unfold sz; split <;> omega
theorem five_cells {w : World} (x0 x1 x2 x3 x4 : UInt8) : ∀ j x, [x0, x1, x2, x3, x4][j]? = some x → (w.alloc (.cells #[.int .u8 (x0.toNat : Int), .int .u8 (x1.toNat : Int), .int .u8 (x2.toNat : Int), .int .u8 (x3.toNat : Int), .int .u8 (x4.toNat : Int)] 344)).cell? ⟨w.heap.size, j, none⟩ = some (u8v x) := by
  intro j x hj
  rw [cell_of_row _ _ _ _ _ _ (heap_alloc_new w _)]
  have : j < 5 := (List.getElem?_eq_some_iff.1 hj).1
  rcases (by omega : j = 0 ∨ j = 1 ∨ j = 2 ∨ j = 3 ∨ j = 4) with rfl | rfl | rfl | rfl | rfl <;> simp at hj <;> subst hj <;> rfl
set_option maxHeartbeats 400000 in
theorem piece_bad (C X : Int) (w : World) (h : X < 1 ∨ 255 < X) : Calls Tryz.prog 287 #[.agg #[.int .u8 C, .int .i64 X]] w fun e w' => e = .returned (.tuple #[.string ByteArray.empty, .int .i64 1]) ∧ Below w.heap.size w w' := by
  rcases h with h | h
  · go_enter Tryz.func287, Tryz.ntmps287
    go_wp2_with fail
    go_ret2
    exact ⟨rfl, (Below.refl _ _).alloc (Nat.le_refl _) _⟩
  · have h2 : ¬ X < 1 := by omega
    go_enter Tryz.func287, Tryz.ntmps287
    go_wp2_with fail
    go_ret2
    exact ⟨rfl, (Below.refl _ _).alloc (Nat.le_refl _) _⟩
set_option maxRecDepth 100000 in
set_option maxHeartbeats 1000000 in
theorem piece_any (p : Pc) (w : World) (hT : Sizes w) (h1 : 1 ≤ p.2) (h2 : p.2 ≤ 255) :
    Calls Tryz.prog 287 #[pcv p] w fun e w' => e = .returned (.tuple #[.string ⟨(packP p).toArray⟩, .int .i64 0]) ∧ Below w.heap.size w w' := by
  have HT := Lib.hid hT
  have hsz := rlsz_le p.2
  obtain ⟨x0, x1, x2, x3, x4, hx⟩ := five_of (told5_length p)
  have HX := Lib.hid hx
  have k1 : (1 : Int) ≤ (p.2 : Int) := by omega
  have k2 : (p.2 : Int) ≤ 255 := by omega
  clear hT hx
  unfold pcv
  go_enter Tryz.func287, Tryz.ntmps287
  go_wp2_with fail
  refine (packed_any p _ (HT.out.touch ((Touch.refl (fun _ => False) w).alloc _) (fun h => h)) h1 h2).mono ?_
  rintro e w1 ⟨rfl, hb⟩
  rw [HX.out]
  have HB := Lib.hid hb
  clear hb
  simp only [List.map_cons, List.map_nil, u8v]
  have hcv := bytes_conv (w1.alloc (.cells #[.int .u8 (x0.toNat : Int), .int .u8 (x1.toNat : Int), .int .u8 (x2.toNat : Int), .int .u8 (x3.toNat : Int), .int .u8 (x4.toNat : Int)] 344)) w1.heap.size 5 ((told5 p).take (sz p.2)) (sz p.2) (by rw [List.length_take, told5_length]; omega) (fun j x hj => by
    rw [HX.out] at hj
    exact five_cells x0 x1 x2 x3 x4 j x (by rw [List.getElem?_take] at hj; split at hj; exact hj; cases hj))
  rw [told5_take] at hcv
  have hsl := slice5 (w1.alloc (.cells #[.int .u8 (x0.toNat : Int), .int .u8 (x1.toNat : Int), .int .u8 (x2.toNat : Int), .int .u8 (x3.toNat : Int), .int .u8 (x4.toNat : Int)] 344)) w1.heap.size (sz p.2) hsz
  go_wp2_with fail
  go_ret2
  exact ⟨rfl, ((((Below.refl w.heap.size w).alloc (Nat.le_refl _) _).trans (HB.out.mono (by simp))).alloc (by have := HB.out.size; simp at this; omega) _)⟩
/-- WHAT THE CLOSURE OF Encode KEEPS. -/
structure Packs (w0 : World) (b : Nat) (l : List UInt8) (w : World) : Prop where
  used : Used w0.heap.size b (u8s l) w
  below : Below w0.heap.size w0 w
theorem Packs.drewN {w0 w : World} {b : Nat} {l : List UInt8} (h : Packs w0 b l w) (m : Nat) : Packs w0 b l (w.drewN m) :=
  ⟨h.used.drewN m, h.below.trans ⟨rfl, rfl, rfl, Nat.le_refl _, fun _ _ => rfl⟩⟩
theorem u8s_one (l : List UInt8) : ∀ u ∈ u8s l, u.oneCell' = true := by
  intro u hu
  obtain ⟨x, _, rfl⟩ := List.mem_map.1 hu
  rfl
theorem byteCells_u8s (l : List UInt8) : Lib.byteCells l = u8s l := rfl
end Go.Proofs.YtnachbjhhpnadaaGreatDoor
