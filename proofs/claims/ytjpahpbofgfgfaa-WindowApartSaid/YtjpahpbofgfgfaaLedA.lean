/-
  LAYER 27 (package ledger): the accounts of a ledger; a new one.
-/
import Derived.Test.YtjpahpbofgfgfaaIdxF
import Derived.Test.YtjpahpbofgfgfaaCells
import Derived.Shelf.Abstract
namespace Go.Proofs.Ytjpahpbofgfgfaa
open Go.RowKit
set_option linter.unusedVariables false
set_option linter.unusedSimpArgs false
/-- A number that may be. -/
def lgIs (n : Int) : Prop := 0 ≤ n ∧ n ≤ 1099511627776
instance (n : Int) : Decidable (lgIs n) := by unfold lgIs; infer_instance
def lgBad (n : Int) : Bool := !decide (lgIs n)
/-- Limits that may be. -/
def lgMay (zs : List Int) : Prop := 1 ≤ zs.length ∧ zs.length ≤ 16 ∧ ∀ x ∈ zs, lgIs x
theorem any_bad_false {zs : List Int} : zs.any lgBad = false ↔ ∀ x ∈ zs, lgIs x := by
  rw [List.any_eq_false]
  constructor
  · intro h x hx; have := h x hx; simpa [lgBad] using this
  · intro h x hx; simpa [lgBad] using h x hx
set_option maxHeartbeats 1000000 in
theorem lgnum_any (n : Int) (w : World) : Calls Try.prog 41 #[.int .i64 n] w fun e w' => e = .returned (.bool (decide (lgIs n))) ∧ w' = w := by
  by_cases h0 : 0 ≤ n
  · have g0 : n ≥ 0 := h0
    by_cases h1 : n ≤ 1099511627776
    · rw [decide_eq_true (show lgIs n from ⟨h0, h1⟩)]
      go_enter Try.func41, Try.ntmps41
      go_wp2_with fail
      go_ret
      exact ⟨rfl, rfl⟩
    · rw [decide_eq_false (show ¬ lgIs n from fun h => h1 h.2)]
      go_enter Try.func41, Try.ntmps41
      go_wp2_with fail
      go_ret
      exact ⟨by simp, rfl⟩
  · have g0 : ¬ n ≥ 0 := h0
    rw [decide_eq_false (show ¬ lgIs n from fun h => h0 h.1)]
    go_enter Try.func41, Try.ntmps41
    go_wp2_with fail
    go_ret
    exact ⟨by simp, rfl⟩
theorem lgbad_enters : ∀ args w, (callFunc 40 args).run Try.prog w = .ok (.enter 40 args) w := enters_of Try.func40 (by kernel_rfl) rfl
set_option maxHeartbeats 1000000 in
theorem lgbad_any (n : Int) (w : World) : Calls Try.prog 40 #[.int .i64 n] w fun e w' => e = .returned (.bool (lgBad n)) ∧ w' = w := by
  have H := Lib.hid (lgnum_any n w)
  unfold lgBad
  generalize decide (lgIs n) = b at *
  go_enter Try.func40, Try.ntmps40
  go_wp2_with fail
  refine H.out.mono ?_
  rintro e w1 ⟨rfl, rfl⟩
  go_wp2_with fail
  go_ret
  exact ⟨rfl, rfl⟩
/-! ### Accounts -/
def updI (F : Nat → Int) (i : Nat) (x : Int) : Nat → Int := fun k => if k = i then x else F k
theorem updI_same (F : Nat → Int) (i : Nat) (x : Int) : updI F i x i = x := if_pos rfl
theorem updI_ne (F : Nat → Int) {i k : Nat} (x : Int) (h : k ≠ i) : updI F i x k = F k := if_neg h
def accF (L U P : Nat → Int) (k : Nat) : Value := .int .i64 (if k % 3 = 0 then L (k / 3) else if k % 3 = 1 then U (k / 3) else P (k / 3))
/-- Block g is n accounts: limits L, reserved U, at most P. -/
def Acc (w : World) (g n : Nat) (L U P : Nat → Int) : Prop := w.heap[g]? = some (.cells (cellsF (3 * n) (accF L U P)) 69 (0, 0))
section
variable {w w' : World} {g n : Nat} {L U P : Nat → Int}
theorem Acc.lt (h : Acc w g n L U P) : g < w.heap.size := (Array.getElem?_eq_some_iff.1 h).1
theorem Acc.below {B : Nat} (h : Acc w g n L U P) (hb : Below B w w') (hB : g < B) : Acc w' g n L U P := (hb.block g hB).trans h
theorem Acc.other {S : Nat → Prop} (h : Acc w g n L U P) (ht : Touch S w w') (hS : ¬ S g) : Acc w' g n L U P := (ht.block g h.lt hS).trans h
theorem Acc.cells (h : Acc w g n L U P) {i : Nat} (hi : i < n) : w.cell? ⟨g, i * 3, none⟩ = some (.int .i64 (L i)) ∧ w.cell? ⟨g, i * 3 + 1, none⟩ = some (.int .i64 (U i)) ∧ w.cell? ⟨g, i * 3 + 2, none⟩ = some (.int .i64 (P i)) := by
  have key : ∀ j, j < 3 → w.cell? ⟨g, i * 3 + j, none⟩ = some (accF L U P (i * 3 + j)) := fun j hj => (cell_of_row _ _ _ _ _ _ h).trans (cellsF_get _ _ (by omega))
  refine ⟨(key 0 (by omega)).trans ?_, (key 1 (by omega)).trans ?_, (key 2 (by omega)).trans ?_⟩
  · unfold accF
    rw [if_pos (by omega), show (i * 3 + 0) / 3 = i by omega]
  · unfold accF
    rw [if_neg (by omega), if_pos (by omega), show (i * 3 + 1) / 3 = i by omega]
  · unfold accF
    rw [if_neg (by omega), if_neg (by omega), show (i * 3 + 2) / 3 = i by omega]
theorem Acc.frozen (h : Acc w g n L U P) (o : Nat) : w.frozen? ⟨g, o, none⟩ = false := frozen_of_row _ _ _ _ _ h
theorem Acc.ext {L' U' P' : Nat → Int} (h : Acc w g n L U P) (hL : ∀ i, i < n → L i = L' i) (hU : ∀ i, i < n → U i = U' i) (hP : ∀ i, i < n → P i = P' i) : Acc w g n L' U' P' := by
  have e : cellsF (3 * n) (accF L U P) = cellsF (3 * n) (accF L' U' P') := by
    unfold cellsF
    congr 1
    refine List.map_congr_left fun k hk => ?_
    have hk' := List.mem_range.1 hk
    unfold accF
    rw [hL (k / 3) (by omega), hU (k / 3) (by omega), hP (k / 3) (by omega)]
  unfold Acc at h ⊢
  rw [h, e]
theorem Acc.set (h : Acc w g n L U P) {i : Nat} (hi : i < n) (x : Int) : Acc (w.setCell ⟨g, i * 3, none⟩ (.int .i64 x)) g n (updI L i x) U P ∧ Acc (w.setCell ⟨g, i * 3 + 1, none⟩ (.int .i64 x)) g n L (updI U i x) P ∧ Acc (w.setCell ⟨g, i * 3 + 2, none⟩ (.int .i64 x)) g n L U (updI P i x) := by
  have key : ∀ (j : Nat) (L' U' P' : Nat → Int), (∀ k, upd (accF L U P) (i * 3 + j) (.int .i64 x) k = accF L' U' P' k) → Acc (w.setCell ⟨g, i * 3 + j, none⟩ (.int .i64 x)) g n L' U' P' := fun j L' U' P' hk => by
    have := heap_setCell_same w g (i * 3 + j) _ _ (.int .i64 x) h
    rw [cellsF_set] at this
    unfold Acc
    rw [this, show upd (accF L U P) (i * 3 + j) (.int .i64 x) = accF L' U' P' from funext hk]
  refine ⟨key 0 _ _ _ fun k => ?_, key 1 _ _ _ fun k => ?_, key 2 _ _ _ fun k => ?_⟩
  · unfold upd accF updI
    by_cases e : k = i * 3 + 0
    · rw [if_pos e, if_pos (by omega), if_pos (by omega)]
    · rw [if_neg e]
      by_cases e0 : k % 3 = 0
      · rw [if_pos e0, if_pos e0, if_neg (by omega)]
      · rw [if_neg e0, if_neg e0]
  · unfold upd accF updI
    by_cases e : k = i * 3 + 1
    · rw [if_pos e, if_neg (by omega), if_pos (by omega), if_pos (by omega)]
    · rw [if_neg e]
      by_cases e0 : k % 3 = 0
      · rw [if_pos e0, if_pos e0]
      · rw [if_neg e0, if_neg e0]
        by_cases e1 : k % 3 = 1
        · rw [if_pos e1, if_pos e1, if_neg (by omega)]
        · rw [if_neg e1, if_neg e1]
  · unfold upd accF updI
    by_cases e : k = i * 3 + 2
    · rw [if_pos e, if_neg (by omega), if_neg (by omega), if_pos (by omega)]
    · rw [if_neg e]
      by_cases e0 : k % 3 = 0
      · rw [if_pos e0, if_pos e0]
      · rw [if_neg e0, if_neg e0]
        by_cases e1 : k % 3 = 1
        · rw [if_pos e1, if_pos e1]
        · rw [if_neg e1, if_neg e1, if_neg (by omega)]
end
theorem infoAcc : (Try.prog.info? 69).map (fun i => (i.zero, i.size, i.bytes)) = some (some (.agg #[.int .i64 0, .int .i64 0, .int .i64 0]), 3, 24) := by kernel_rfl
def accZ : Array Value := #[.int .i64 0, .int .i64 0, .int .i64 0]
theorem accZ_get (i : Nat) (h : i < 3) : accZ[i]! = .int .i64 0 := by
  match i, h with
  | 0, _ => rfl
  | 1, _ => rfl
  | 2, _ => rfl
theorem accZ_made (m : Nat) : madeCells accZ m = cellsF m (fun _ => .int .i64 0) := by
  unfold madeCells cellsF
  apply Array.toList_inj.1
  rw [Array.toList_map, Array.toList_range]
  show _ = (List.range m).map _
  exact List.map_congr_left fun i _ => accZ_get _ (Nat.mod_lt _ (by decide))
theorem Acc.made (w : World) (n : Nat) : Acc (w.alloc (.cells (madeCells accZ (n * 3)) 69)) w.heap.size n (fun _ => 0) (fun _ => 0) (fun _ => 0) := by
  have e2 : accF (fun _ => 0) (fun _ => 0) (fun _ => 0) = fun _ => Value.int .i64 0 := by
    funext k; unfold accF; split
    · rfl
    · split <;> rfl
  unfold Acc
  rw [accZ_made, e2, Nat.mul_comm n 3]
  exact heap_alloc_new _ _
set_option maxHeartbeats 1000000 in
theorem make_accs (n : Nat) (hn : n ≤ 1000) (W : World) : (Instr.makeSlice 65 (.int .i64 (n : Int)) (.int .i64 (n : Int))).run Try.prog W = .ok (.slice (some ⟨W.heap.size, 0, none⟩) n n) (W.alloc (.cells (madeCells accZ (n * 3)) 69)) := by
  obtain ⟨i0, hi, hz0, hz1, hz2⟩ := info_parts infoAcc
  have := run_make (P := Try.prog) W 65 69 i0 (.agg #[.int .i64 0, .int .i64 0, .int .i64 0]) Try.underlying65 hi hz0 .i64 .i64 (n : Int) (n : Int) (by omega) (by omega) (by rw [hz2]; omega) (by omega)
  rw [hz1] at this
  simpa [Value.cells, accZ] using this
end Go.Proofs.Ytjpahpbofgfgfaa
