/-
  ROWS OF WHOLE NUMBERS OUT OF ROWS OF PLAIN ONES. No program is named here.
-/
import Derived.Test.YtfedhppcmmponaaLawKit
namespace Go.Proofs.Ytfedhppcmmponaa
namespace PkM
open Go.RowKit
set_option linter.unusedVariables false
def toI (ps : List Nat) : List Int := ps.map fun (x : Nat) => (x : Int)
theorem toI_length (ps : List Nat) : (toI ps).length = ps.length := by simp [toI]
theorem toI_inj {ps qs : List Nat} : toI ps = toI qs ↔ ps = qs := by
  constructor
  · intro h
    have := congrArg (List.map Int.toNat) h
    simpa [toI, Function.comp_def] using this
  · rintro rfl
    rfl
theorem toI_getD (ps : List Nat) (k : Nat) : (toI ps).getD k 0 = ((ps.getD k 0 : Nat) : Int) := by
  unfold toI
  rw [List.getD_eq_getElem?_getD, List.getElem?_map, List.getD_eq_getElem?_getD]
  cases ps[k]? <;> rfl
theorem toI_app (ps qs : List Nat) : toI (ps ++ qs) = toI ps ++ toI qs := by simp [toI]
end PkM
end Go.Proofs.Ytfedhppcmmponaa
