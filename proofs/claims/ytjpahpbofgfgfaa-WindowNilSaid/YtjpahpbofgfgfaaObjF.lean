/-
  A BLOCK OF ANY TYPE WHOSE CELLS ARE TOLD BY A FUNCTION.
-/
import Derived.Test.YtjpahpbofgfgfaaCells
import Derived.Test.YtjpahpbofgfgfaaInts
namespace Go.Proofs.Ytjpahpbofgfgfaa
open Go.RowKit
set_option linter.unusedVariables false
def ObjF (n : Nat) (T : TypeId) (w : World) (b : Nat) (F : Nat → Value) : Prop := w.heap[b]? = some (.cells (cellsF n F) T (0, 0))
theorem ObjF.cell {n : Nat} {T : TypeId} {w : World} {b : Nat} {F : Nat → Value} (h : ObjF n T w b F) {i : Nat} (hi : i < n) : w.cell? ⟨b, i, none⟩ = some (F i) ∧ w.frozen? ⟨b, i, none⟩ = false :=
  ⟨(cell_of_row _ _ _ _ _ _ h).trans (cellsF_get n F hi), frozen_of_row _ _ _ _ _ h⟩
theorem ObjF.set {n : Nat} {T : TypeId} {w : World} {b : Nat} {F : Nat → Value} (h : ObjF n T w b F) (i : Nat) (x : Value) : ObjF n T (w.setCell ⟨b, i, none⟩ x) b (upd F i x) := by
  have := heap_setCell_same w b i _ _ x h
  rw [cellsF_set] at this
  exact this
theorem ObjF.lt {n : Nat} {T : TypeId} {w : World} {b : Nat} {F : Nat → Value} (h : ObjF n T w b F) : b < w.heap.size := (Array.getElem?_eq_some_iff.1 h).1
theorem ObjF.other {n : Nat} {T : TypeId} {w w' : World} {b : Nat} {F : Nat → Value} (h : ObjF n T w b F) {S : Nat → Prop} (ht : Touch S w w') (hS : ¬ S b) : ObjF n T w' b F :=
  (ht.block b h.lt hS).trans h
theorem ObjF.below {n : Nat} {T : TypeId} {w w' : World} {b B : Nat} {F : Nat → Value} (h : ObjF n T w b F) (ht : Below B w w') (hB : b < B) : ObjF n T w' b F :=
  (ht.block b hB).trans h
theorem ObjF.drewN {n : Nat} {T : TypeId} {w : World} {b : Nat} {F : Nat → Value} (h : ObjF n T w b F) (m : Nat) : ObjF n T (w.drewN m) b F := h
theorem cellsF_size (n : Nat) (F : Nat → Value) : (cellsF n F).size = n := by simp [cellsF]
theorem cellsF_congr {n : Nat} {F G : Nat → Value} (h : ∀ k, k < n → F k = G k) : cellsF n F = cellsF n G := by
  unfold cellsF
  congr 1
  exact List.map_congr_left (fun k hk => h k (List.mem_range.1 hk))
theorem ObjF.ext {n : Nat} {T : TypeId} {w : World} {b : Nat} {F G : Nat → Value} (h : ObjF n T w b F) (e : ∀ k, k < n → F k = G k) : ObjF n T w b G := by
  unfold ObjF
  rw [← cellsF_congr e]
  exact h
/-- Some cells are stored side by side. -/
theorem cellsF_part (n : Nat) (F : Nat → Value) (o : Nat) (vs : List Value) (h : o + vs.length ≤ n) :
    ((cellsF n F).toList.take o ++ vs ++ (cellsF n F).toList.drop (o + vs.length)).toArray = cellsF n (fun k => if k < o then F k else if k < o + vs.length then vs.getD (k - o) (F k) else F k) := by
  apply Array.toList_inj.1
  show (List.take o ((List.range n).map F) ++ vs ++ List.drop (o + vs.length) ((List.range n).map F)) = (List.range n).map _
  apply List.ext_getElem
  · simp
    omega
  · intro j h1 h2
    have hjn : j < n := by simpa using h2
    simp only [List.getElem_map, List.getElem_range]
    by_cases c1 : j < o
    · rw [if_pos c1, List.getElem_append_left (by simp; omega), List.getElem_append_left (by simp; omega)]
      simp
    · rw [if_neg c1]
      by_cases c2 : j < o + vs.length
      · rw [if_pos c2, List.getElem_append_left (by simp; omega), List.getElem_append_right (by simp; omega)]
        have : min o n = o := by omega
        simp only [List.length_take, List.length_map, List.length_range, this]
        rw [List.getD_eq_getElem?_getD, List.getElem?_eq_getElem (by omega)]
        rfl
      · rw [if_neg c2, List.getElem_append_right (by simp; omega)]
        simp only [List.getElem_drop, List.getElem_map, List.getElem_range]
        congr 1
        simp
        omega
end Go.Proofs.Ytjpahpbofgfgfaa
