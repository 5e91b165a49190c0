/-
  slices.Clone OF ROWS OF NUMBERS.
-/
import Derived.Test.YtgdgjalfabffcaaInts
import Derived.Lib.SliceRun
import Derived.Deep.AppendSrc
import Derived.Deep.Upon
namespace Go.Proofs.Ytgdgjalfabffcaa
open Go.RowKit
set_option linter.unusedVariables false
set_option maxRecDepth 100000 in
set_option maxHeartbeats 1000000 in
theorem clone_any (b off m c : Nat) (zs : List Int) (w : World) (hI : IsInts w (.slice (some ⟨b, off, none⟩) m c) zs) (hm : zs.length ≤ 1000000) :
    Calls Try.prog 42 #[.slice (some ⟨b, off, none⟩) m c] w fun e w' => ∃ v, e = .returned v ∧ OwnI w' w.heap.size v zs ∧ Below w.heap.size w w' := by
  have HI := Lib.hid hI
  have hnil : ∀ W, (binOp .eql 28 (.slice (some ⟨b, off, none⟩) m c) (.slice none 0 0)).run Try.prog W = .ok (.bool false) W := fun W => Lib.run_eql_slice_nil W _ _ _ _ _ _ _ Try.underlying28
  go_enter Try.func42, Try.ntmps42
  go_wp2_with (at_builtin; go_loud (refine push_src _ rfl _ _ rfl w.heap.size _ [] b off m c zs (OwnI.lit w w.heap.size (Nat.le_refl _)) (by exact HI.out.alloc _) rfl rfl (by simp; omega) (by simp) ?_))
  intro v' w2 hO2 hB2
  have HO2 := Lib.hid hO2
  have HB2 := Lib.hid (((Below.refl w.heap.size w).alloc (Nat.le_refl _) (.cells #[] 3)).trans hB2)
  clear hO2 hB2
  go_wp2_with fail
  go_ret
  exact ⟨_, rfl, HO2.out, HB2.out⟩
end Go.Proofs.Ytgdgjalfabffcaa
