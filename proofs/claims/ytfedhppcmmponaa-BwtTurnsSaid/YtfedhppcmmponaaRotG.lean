/-
  THE WALKS OF LAYER 15's CODE (package rotate): follower, Sorted.
-/
import Derived.Test.YtfedhppcmmponaaRotF
import Derived.Laws.EntriesVeiled
namespace Go.Proofs.Ytfedhppcmmponaa
open Go.RowKit BwtM PkM
set_option linter.unusedVariables false
theorem one_cell {w : World} {cs : Array Value} {t : TypeId} : ∀ {v : Value}, cs = #[v] → (w.alloc (.cells cs t)).cell? ⟨w.heap.size, 0, none⟩ = some v := by
  rintro v rfl
  rw [cell_of_row _ _ 0 _ _ _ (heap_alloc_new _ _)]
  rfl
theorem alloc_size (w : World) (o : Obj) : (w.alloc o).heap.size = w.heap.size + 1 := by show (w.heap.push _).size = _; simp
/-- Places that stand in rows as they may are the sorted ones. -/
theorem sorted_iff {T : List UInt8} {n p : Nat} {P : List Nat} {L : List Int} (hT : T.length = n) (hp : PerP T n p) (hK : RkP n P L) (hl : P.length = n) :
    (∀ j, j + 1 < n → Follow T (rk L) p (n / p) (P.getD j 0) (P.getD (j + 1) 0)) ↔ IsSorted T P := by
  have hP : P.Perm (List.range T.length) := by rw [hT]; exact hK.perm hl
  rw [sorted_getD hP]
  by_cases h0 : n = 0
  · subst h0
    exact ⟨fun _ j k _ h => by omega, fun _ j h => by omega⟩
  · have hpp := hp.2 (by omega)
    have hc : T.length = p * (n / p) := by rw [hT, Nat.mul_div_cancel' (by rw [← hT]; exact hpp.2.1)]
    have hc0 : 0 < n / p := Nat.div_pos (Nat.le_of_dvd (by omega) (by rw [← hT]; exact hpp.2.1)) hpp.1
    have hR : Ranks T.length (fun j => P.getD j 0) (rk L) := by rw [hT]; exact hK.ranks hl
    constructor
    · intro h
      exact sorted_follow (f := fun j => P.getD j 0) hpp hc hc0 hR (fun j hj => h j (by omega))
    · intro h j hj
      exact follow_sorted (f := fun j => P.getD j 0) (by omega) hpp hc hc0 hR h j (by omega)
/-- Is a row that of the sorted places? -/
def SortsP (T : List UInt8) (zs : List Int) : Prop := ∃ P, IsSorted T P ∧ zs = toI P
end Go.Proofs.Ytfedhppcmmponaa
