/-
  LAYER 19's CODE (package split): Held, Room; nil splitters.
-/
import Derived.Test.YtnachbjhhpnadaaGreatDoorSplF
namespace Go.Proofs.YtnachbjhhpnadaaGreatDoor
open Go.RowKit RleM SplM
set_option linter.unusedVariables false
set_option linter.unusedSimpArgs false
section
variable {B t pb sb room : Nat} {w w' : World} {c : UInt8} {n : Nat} {blk : List Pc} {bv : Value} {tp : Option Nat}
set_option maxHeartbeats 1000000 in
theorem send19_nil (w : World) : Calls Tryz.prog 244 #[.pointer none] w fun e w' => e = .returned (.slice none 0 0) ∧ w' = w := by
  go_enter Tryz.func244, Tryz.ntmps244
  go_wp2_with fail
  go_ret
  exact ⟨rfl, rfl⟩
theorem blk0_built : Tryz.prog.built 265 [] = some blk0 := by kernel_rfl
set_option maxHeartbeats 1000000 in
theorem sput19_nil (x : Int) (w : World) : Calls Tryz.prog 243 #[.pointer none, .int .u8 x] w fun e w' => e = .returned (.tuple #[.agg blk0, .bool false]) ∧ Below w.heap.size w w' := by
  have hr0 : (w.alloc (.cells #[.string ⟨#[]⟩, .int .u32 0, .int .i64 0] 265)).heap[w.heap.size]? = some (.cells blk0 265 (0, 0)) := heap_alloc_new _ _
  have hi := info_blk blk0 rfl
  go_enter Tryz.func243, Tryz.ntmps243
  go_wp2_with (first | (refine wpList_build_is rfl 265 rfl blk0 blk0_built ?_) | (refine wpList_store_row rfl 265 _ _ rfl w.heap.size blk0 rfl rfl 265 blk0 hr0 hi rfl blk0_one ?_))
  refine bodyPost_ret (v := .tuple #[.agg blk0, .bool false]) (results_cell_slotP rfl _ _ w.heap.size blk0 265 _ _ rfl rfl (setRow_heap _ _ blk0 blk0 265 _ hr0) Tryz.underlying265 rfl hi) rfl ⟨rfl, ?_⟩
  have hb : Below w.heap.size w (w.alloc (.cells #[.string ⟨#[]⟩, .int .u32 0, .int .i64 0] 265)) := (Below.refl _ _).alloc (Nat.le_refl _) _
  exact hb.trans ⟨rfl, rfl, rfl, by simp [World.setRow], fun j hj => setRow_other _ _ j _ (by omega)⟩
set_option maxRecDepth 100000 in
set_option maxHeartbeats 4000000 in
theorem room19_any (l u : Int) (w : World) (hl : -9223372036854775808 ≤ l ∧ l ≤ 9223372036854775807) (hu : -9223372036854775808 ≤ u ∧ u ≤ 9223372036854775807) : Calls Tryz.prog 202 #[.int .i64 l, .int .i64 u] w fun e w' => e = .returned (if l < 1 ∨ 9 < l ∨ u < 24 ∨ 100000 < u then .tuple #[.int .i64 0, .int .i64 1] else .tuple #[.int .i64 (l * u - 19), .int .i64 0]) ∧ w' = w := by
  by_cases h1 : l < 1
  · rw [if_pos (Or.inl h1)]
    go_enter Tryz.func202, Tryz.ntmps202
    go_wp2_with fail
    go_ret2
    exact ⟨rfl, rfl⟩
  by_cases h2 : 9 < l
  · rw [if_pos (Or.inr (Or.inl h2))]
    have h2' : l > 9 := h2
    go_enter Tryz.func202, Tryz.ntmps202
    go_wp2_with fail
    go_ret2
    exact ⟨rfl, rfl⟩
  have h2' : ¬ l > 9 := h2
  by_cases h3 : u < 24
  · rw [if_pos (Or.inr (Or.inr (Or.inl h3)))]
    go_enter Tryz.func202, Tryz.ntmps202
    go_wp2_with fail
    go_ret2
    exact ⟨rfl, rfl⟩
  by_cases h4 : 100000 < u
  · rw [if_pos (Or.inr (Or.inr (Or.inr h4)))]
    have h4' : u > 100000 := h4
    go_enter Tryz.func202, Tryz.ntmps202
    go_wp2_with fail
    go_ret2
    exact ⟨rfl, rfl⟩
  have h4' : ¬ u > 100000 := h4
  rw [if_neg (by omega)]
  have hm1 : 0 ≤ l * u := Int.mul_nonneg (by omega) (by omega)
  have hm2 : l * u ≤ 9 * 100000 := Int.mul_le_mul (by omega) (by omega) (by omega) (by omega)
  have hmw : IntKind.i64.wrap (l * u) = l * u := IntWalk.i64_in _ (by omega)
  have hsw : IntKind.i64.wrap (l * u - 19) = l * u - 19 := IntWalk.i64_in _ (by omega)
  clear hl hu
  go_enter Tryz.func202, Tryz.ntmps202
  go_wp2_with fail
  go_ret2
  exact ⟨rfl, rfl⟩
end
end Go.Proofs.YtnachbjhhpnadaaGreatDoor
