/-
  THE WALKS OF LAYER 3 (package rle, balerref03): the pieces of a text as a row.
-/
import Derived.Test.YtnachbjhhpnadaaGreatDoorRleB
namespace Go.Proofs.YtnachbjhhpnadaaGreatDoor
open Go.RowKit RleM
set_option linter.unusedVariables false
theorem infoPiece : (Tryz.prog.info? 116).map (fun i => (i.zero, i.size, i.bytes)) = some (some (.agg #[.int .u8 0, .int .i64 0]), 2, 16) := by kernel_rfl
theorem pcCells_length (ps : List Pc) : (ps.flatMap pcCells).length = ps.length * 2 := by
  induction ps with
  | nil => rfl
  | cons p ps ih => rw [List.flatMap_cons, List.length_append, ih]; simp [pcCells]; omega
theorem pieces_count (l : List UInt8) : (pieces l).length ≤ l.length := by
  have h : ∀ ps : List Pc, RleM.Good ps → ps.length ≤ (flat ps).length := by
    intro ps
    induction ps with
    | nil => intro _; exact Nat.le_refl _
    | cons p ps ih =>
      intro h
      have h1 := ih h.2.2.2
      have h2 := h.1
      rw [flat_cons, List.length_append, List.length_replicate, List.length_cons]; omega
  have := h _ (good l)
  rwa [flat_pieces] at this
/-- WHAT THE CLOSURE OF Pieces KEEPS: a row of pieces behind a variable in block b. -/
structure Gathers (w0 : World) (b : Nat) (ps : List Pc) (w : World) : Prop where
  row : ∃ v, w.heap[b]? = some (.cells #[v] 113 (0, 0)) ∧ w.ownsRow (b + 1) 116 2 v ps.length (ps.flatMap pcCells)
  below : Below w0.heap.size w0 w
theorem Gathers.drewN {w0 w : World} {b : Nat} {ps : List Pc} (h : Gathers w0 b ps w) (m : Nat) : Gathers w0 b ps (w.drewN m) :=
  ⟨h.row, h.below.trans ⟨rfl, rfl, rfl, Nat.le_refl _, fun _ _ => rfl⟩⟩
end Go.Proofs.YtnachbjhhpnadaaGreatDoor
