/-
  LAYER 1's STATEMENTS: what they share; nil writers and readers.
-/
import Derived.Test.YtnachbjhhpnadaaGreatDoorBitsR
import Derived.Test.YtnachbjhhpnadaaGreatDoorOpen
namespace Go.Proofs.YtnachbjhhpnadaaGreatDoor
open Go.RowKit BitM
set_option linter.unusedVariables false

theorem five_q : ([] ++ field 5 3) ++ field 1 2 = [true, false, true, false, true] := by decide
theorem five_pad : byts ([true, false, true, false, true] ++ padding [true, false, true, false, true]) = [168] := by decide
theorem five_get : num (((bitsOf [168]).drop 0).take 5) = 21 := by decide
/-! ### A nil reader -/
set_option maxHeartbeats 400000 in
theorem get_nil (x : Value) (w : World) : Calls Tryz.prog 187 #[.pointer none, x] w fun e w' => e = .returned (.tuple #[.int .u32 0, .int .i64 7]) ∧ w = w' := by
  go_enter Tryz.func187, Tryz.ntmps187
  go_wp2_with fail
  go_ret2
  exact ⟨rfl, rfl⟩
set_option maxHeartbeats 400000 in
theorem more_nil (x : Value) (w : World) : Calls Tryz.prog 34 #[.pointer none, x] w fun e w' => e = .returned (.int .i64 7) ∧ w = w' := by
  go_enter Tryz.func34, Tryz.ntmps34
  go_wp2_with fail
  go_ret
  exact ⟨rfl, rfl⟩
set_option maxHeartbeats 400000 in
theorem seek_nil (x : Value) (w : World) : Calls Tryz.prog 23 #[.pointer none, x] w fun e w' => e = .returned (.int .i64 7) ∧ w = w' := by
  go_enter Tryz.func23, Tryz.ntmps23
  go_wp2_with fail
  go_ret
  exact ⟨rfl, rfl⟩
set_option maxHeartbeats 400000 in
theorem rat_nil (w : World) : Calls Tryz.prog 26 #[.pointer none] w fun e w' => e = .returned (.int .i64 0) ∧ w = w' := by
  go_enter Tryz.func26, Tryz.ntmps26
  go_wp2_with fail
  go_ret
  exact ⟨rfl, rfl⟩
set_option maxHeartbeats 400000 in
theorem rleft_nil (w : World) : Calls Tryz.prog 186 #[.pointer none] w fun e w' => e = .returned (.int .i64 0) ∧ w = w' := by
  go_enter Tryz.func186, Tryz.ntmps186
  go_wp2_with fail
  go_ret
  exact ⟨rfl, rfl⟩
end Go.Proofs.YtnachbjhhpnadaaGreatDoor
