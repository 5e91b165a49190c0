/-
  LAYER 1's STATEMENTS: what they share; nil writers and readers.
-/
import Derived.Test.YtfckghaigbmeaaaBitsR
import Derived.Test.YtfckghaigbmeaaaOpen
namespace Go.Proofs.Ytfckghaigbmeaaa
open Go.RowKit BitM
set_option linter.unusedVariables false

theorem five_q : ([] ++ field 5 3) ++ field 1 2 = [true, false, true, false, true] := by decide
theorem five_pad : byts ([true, false, true, false, true] ++ padding [true, false, true, false, true]) = [168] := by decide
theorem five_get : num (((bitsOf [168]).drop 0).take 5) = 21 := by decide
/-! ### A nil reader -/
set_option maxHeartbeats 400000 in
theorem get_nil (x : Value) (w : World) : Calls Try.prog 52 #[.pointer none, x] w fun e w' => e = .returned (.tuple #[.int .u32 0, .int .i64 7]) ∧ w = w' := by
  go_enter Try.func52, Try.ntmps52
  go_wp2_with fail
  go_ret2
  exact ⟨rfl, rfl⟩
set_option maxHeartbeats 400000 in
theorem more_nil (x : Value) (w : World) : Calls Try.prog 33 #[.pointer none, x] w fun e w' => e = .returned (.int .i64 7) ∧ w = w' := by
  go_enter Try.func33, Try.ntmps33
  go_wp2_with fail
  go_ret
  exact ⟨rfl, rfl⟩
set_option maxHeartbeats 400000 in
theorem seek_nil (x : Value) (w : World) : Calls Try.prog 22 #[.pointer none, x] w fun e w' => e = .returned (.int .i64 7) ∧ w = w' := by
  go_enter Try.func22, Try.ntmps22
  go_wp2_with fail
  go_ret
  exact ⟨rfl, rfl⟩
set_option maxHeartbeats 400000 in
theorem rat_nil (w : World) : Calls Try.prog 27 #[.pointer none] w fun e w' => e = .returned (.int .i64 0) ∧ w = w' := by
  go_enter Try.func27, Try.ntmps27
  go_wp2_with fail
  go_ret
  exact ⟨rfl, rfl⟩
set_option maxHeartbeats 400000 in
theorem rleft_nil (w : World) : Calls Try.prog 53 #[.pointer none] w fun e w' => e = .returned (.int .i64 0) ∧ w = w' := by
  go_enter Try.func53, Try.ntmps53
  go_wp2_with fail
  go_ret
  exact ⟨rfl, rfl⟩
end Go.Proofs.Ytfckghaigbmeaaa
