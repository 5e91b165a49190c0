/-
  TWO TEXTS HELD AGAINST EACH OTHER, as the walk holds them.
-/
import Derived.Test.YtgbcajglbpdgjaaDoorLawKit
namespace Go.Proofs.YtgbcajglbpdgjaaDoor
theorem list_eq_test (a b : ByteArray) (r : Bool) (h : r = true ↔ a = b) : (a.toList == b.toList) = r := by
  rw [Bool.eq_iff_iff, beq_iff_eq, ByteArray.toList_eq, ByteArray.toList_eq, h]
  constructor
  · intro h
    apply ByteArray.ext
    exact Array.toList_inj.1 h
  · rintro rfl
    rfl
end Go.Proofs.YtgbcajglbpdgjaaDoor
