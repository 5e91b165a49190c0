/-
  LAYER 1's STATEMENTS: what an operation makes of a reader (1.2, 1.3): what each kind's walk ends with.
-/
import Derived.Test.YthkgkhpfahippaaBitsLawH
namespace Go.Proofs.Ythkgkhpfahippaa
open Go.RowKit BitM
set_option linter.unusedVariables false
/-- What an operation leaves: the state of a reader that holds it, and true. -/
def StepP (T : List UInt8) (b : Nat) (v : Value) (w : World) (e : Ending) (w' : World) : Prop :=
  ∃ (T1 : List UInt8) (p1 dr1 sp1 : Nat) (v1 : Value), e = .returned (.tuple #[.agg #[.string (txt (bitsOf T1)), .int .i64 (p1 : Int), .int .i64 (dr1 : Int)], .bool true]) ∧ IsReader w' b v1 (T1.drop dr1) dr1 sp1 p1 ∧ dr1 ≤ T1.length ∧ sp1 ≤ dr1 ∧ T1.length ≤ T.length + 100 ∧ Touch (foot b v) w w' ∧ (∀ k, foot b v1 k → foot b v k ∨ w.heap.size ≤ k)
theorem step_post {T T1 : List UInt8} {b t g : Nat} {w wk : World} {v v1 x0 y0 z0 : Value} {p1 dr1 sp1 : Nat} {PI DI : Int} (hX : wk.heap[g]? = some (.cells #[x0, y0, z0] t)) (hR : IsReader wk b v1 (T1.drop dr1) dr1 sp1 p1)
    (hne : ∀ k, foot b v1 k → k ≠ g) (hge : ∀ k, foot b v1 k → foot b v k ∨ w.heap.size ≤ k) (hW : Touch (foot b v) w wk) (hB : w.heap.size ≤ g) (hP : PI = (p1 : Int)) (hD : DI = (dr1 : Int)) (h1 : dr1 ≤ T1.length) (h2 : sp1 ≤ dr1) (h3 : T1.length ≤ T.length + 100) :
    StepP T b v w (.returned (.tuple #[.agg #[.string (txt (bitsOf T1)), .int .i64 PI, .int .i64 DI], .bool true])) (((wk.setCell ⟨g, 0, none⟩ (.string (txt (bitsOf T1)))).setCell ⟨g, 1, none⟩ (.int .i64 PI)).setCell ⟨g, 2, none⟩ (.int .i64 DI)) ∧
      (((wk.setCell ⟨g, 0, none⟩ (.string (txt (bitsOf T1)))).setCell ⟨g, 1, none⟩ (.int .i64 PI)).setCell ⟨g, 2, none⟩ (.int .i64 DI)).cell? ⟨g, 0, none⟩ = some (.string (txt (bitsOf T1))) ∧
      (((wk.setCell ⟨g, 0, none⟩ (.string (txt (bitsOf T1)))).setCell ⟨g, 1, none⟩ (.int .i64 PI)).setCell ⟨g, 2, none⟩ (.int .i64 DI)).cell? ⟨g, 1, none⟩ = some (.int .i64 PI) ∧
      (((wk.setCell ⟨g, 0, none⟩ (.string (txt (bitsOf T1)))).setCell ⟨g, 1, none⟩ (.int .i64 PI)).setCell ⟨g, 2, none⟩ (.int .i64 DI)).cell? ⟨g, 2, none⟩ = some (.int .i64 DI) := by
  obtain ⟨hz1, hz2, hz3⟩ := store3 (w := w) (.string (txt (bitsOf T1))) (.int .i64 PI) (.int .i64 DI) hX hR hne hW hB
  exact ⟨⟨T1, p1, dr1, sp1, v1, by rw [hP, hD], hz2, h1, h2, h3, hz3, hge⟩, (cell_of_row _ _ _ _ _ _ hz1).trans rfl, (cell_of_row _ _ _ _ _ _ hz1).trans rfl, (cell_of_row _ _ _ _ _ _ hz1).trans rfl⟩
theorem StepP.drew {T : List UInt8} {b : Nat} {v : Value} {w w' : World} {e : Ending} (h : StepP T b v w e w') : StepP T b v w e w'.drew := by
  obtain ⟨T1, p1, dr1, sp1, v1, he, hr, h1, h2, h3, hb, hf⟩ := h
  exact ⟨T1, p1, dr1, sp1, v1, he, hr.drewN 1, h1, h2, h3, hb.drew, hf⟩
end Go.Proofs.Ythkgkhpfahippaa
