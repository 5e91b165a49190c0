/-
  LAYER 1's STATEMENTS: what they share; nil writers and readers.
-/
import Derived.Test.YthkgkhpfahippaaBitsR
import Derived.Test.YthkgkhpfahippaaOpen
namespace Go.Proofs.Ythkgkhpfahippaa
open Go.RowKit BitM
set_option linter.unusedVariables false

theorem five_q : ([] ++ field 5 3) ++ field 1 2 = [true, false, true, false, true] := by decide
theorem five_pad : byts ([true, false, true, false, true] ++ padding [true, false, true, false, true]) = [168] := by decide
theorem five_get : num (((bitsOf [168]).drop 0).take 5) = 21 := by decide
set_option maxHeartbeats 1000000 in
theorem five_any (w : World) : Calls Try.prog 16 #[] w fun e w' => e = .returned (.bool true) ∧ Below w.heap.size w w' := by
  go_enter Try.func16, Try.ntmps16
  go_wp2_with fail
  refine (newWriter_any w).mono ?_
  rintro e w1 ⟨rfl, hw1, hb1⟩
  have W1 := Lib.hid hw1
  have B1 := Lib.hid hb1
  clear hw1 hb1
  go_wp2_with fail
  refine (put_any w.heap.size _ [] 0 5 3 w1 W1.out (by omega) (by decide) (by simp)).mono ?_
  rintro e w2 ⟨rfl, v2, hw2, ht2, _⟩
  have W2 := Lib.hid hw2
  have B2 := Lib.hid (B1.out.trans (ht2.below (Nat.le_trans B1.out.size (Nat.le_refl _)) (fun i hi => (W1.out.lt i hi).2)))
  clear hw2 ht2
  go_wp2_with fail
  refine (put_any w.heap.size _ _ 0 1 2 w2 W2.out (by omega) (by decide) (by simp [field_length])).mono ?_
  rintro e w3 ⟨rfl, v3, hw3, ht3, _⟩
  rw [five_q] at hw3
  have W3 := Lib.hid hw3
  have B3 := Lib.hid (B2.out.trans (ht3.below B2.out.size (fun i hi => (W2.out.lt i hi).2)))
  clear hw3 ht3
  go_wp2_with fail
  refine (wlen_any _ _ _ _ w3 W3.out).mono ?_
  rintro e w' ⟨rfl, rfl⟩
  go_wp2_with fail
  refine (wpad_any _ _ _ _ w3 W3.out (by simp)).mono ?_
  rintro e w4 ⟨rfl, v4, hw4, ht4, _⟩
  have W4 := Lib.hid hw4
  have B4 := Lib.hid (B3.out.trans (ht4.below B3.out.size (fun i hi => (W3.out.lt i hi).2)))
  clear hw4 ht4
  go_wp2_with fail
  refine (newReader_any _ w4 (by show 1 ≤ maxLen; decide)).mono ?_
  rintro e w5 ⟨b, v5, rfl, hr5, hb5, hf5⟩
  have R5 := Lib.hid hr5
  have T5 := Lib.hid (W4.out.other (Touch.ofBelow (S := fun _ => False) hb5) (fun _ _ h => h))
  have B5 := Lib.hid (B4.out.trans (hb5.mono B4.out.size))
  have F5 := Lib.hid hf5
  have L4 := Lib.hid (W4.out.lt)
  clear hr5 hb5 hf5
  go_wp2_with fail
  refine (get_any b v5 _ 0 0 0 5 w5 R5.out (by simp) (by omega) (by simp)).mono ?_
  rintro e w6 ⟨rfl, hr6, ht6⟩
  have R6 := Lib.hid hr6
  have T6 := Lib.hid (T5.out.other ht6 (fun k hk e => by
    have h1 := F5.out b (Or.inl rfl)
    have h2 := (L4.out k hk).1
    have e' : k = b := e
    omega))
  have B6 := Lib.hid (B5.out.trans (ht6.below B5.out.size (fun i hi => by
    have h1 := F5.out b (Or.inl rfl)
    have := B4.out.size
    have hi' : i = b := hi
    omega)))
  have hg := five_get
  clear hr6 ht6
  go_wp2_with fail
  refine (wtake_any _ _ _ _ w6 T6.out).mono ?_
  rintro e w7 ⟨rfl, hw7, ht7⟩
  have R7 := Lib.hid (R6.out.other ht7 (fun k hk hw => by
    have h1 := F5.out k hk
    have h2 := (L4.out k hw).1
    omega))
  have B7 := Lib.hid (B6.out.trans (ht7.below B6.out.size (fun i hi => (T6.out.lt i hi).2)))
  have hq := five_pad
  clear hw7 ht7
  go_wp2_with fail
  refine (rat_any _ _ _ _ _ _ w7 R7.out).mono ?_
  rintro e w' ⟨rfl, rfl⟩
  go_wp2_with fail
  go_ret
  exact ⟨rfl, B7.out⟩

/-! ### A nil reader -/
set_option maxHeartbeats 400000 in
theorem get_nil (x : Value) (w : World) : Calls Try.prog 31 #[.pointer none, x] w fun e w' => e = .returned (.tuple #[.int .u32 0, .int .i64 7]) ∧ w = w' := by
  go_enter Try.func31, Try.ntmps31
  go_wp2_with fail
  go_ret2
  exact ⟨rfl, rfl⟩
set_option maxHeartbeats 400000 in
theorem align_nil (w : World) : Calls Try.prog 36 #[.pointer none] w fun e w' => e = .returned (.tuple #[]) ∧ w = w' := by
  go_enter Try.func36, Try.ntmps36
  go_wp2_with fail
  refine bodyPost_ret (results_none rfl _ _ _) rfl ?_
  exact ⟨rfl, rfl⟩
set_option maxHeartbeats 400000 in
theorem more_nil (x : Value) (w : World) : Calls Try.prog 34 #[.pointer none, x] w fun e w' => e = .returned (.int .i64 7) ∧ w = w' := by
  go_enter Try.func34, Try.ntmps34
  go_wp2_with fail
  go_ret
  exact ⟨rfl, rfl⟩
set_option maxHeartbeats 400000 in
theorem seek_nil (x : Value) (w : World) : Calls Try.prog 37 #[.pointer none, x] w fun e w' => e = .returned (.int .i64 7) ∧ w = w' := by
  go_enter Try.func37, Try.ntmps37
  go_wp2_with fail
  go_ret
  exact ⟨rfl, rfl⟩
set_option maxHeartbeats 400000 in
theorem rat_nil (w : World) : Calls Try.prog 32 #[.pointer none] w fun e w' => e = .returned (.int .i64 0) ∧ w = w' := by
  go_enter Try.func32, Try.ntmps32
  go_wp2_with fail
  go_ret
  exact ⟨rfl, rfl⟩
set_option maxHeartbeats 400000 in
theorem rleft_nil (w : World) : Calls Try.prog 33 #[.pointer none] w fun e w' => e = .returned (.int .i64 0) ∧ w = w' := by
  go_enter Try.func33, Try.ntmps33
  go_wp2_with fail
  go_ret
  exact ⟨rfl, rfl⟩
set_option maxHeartbeats 400000 in
theorem drop_nil (w : World) : Calls Try.prog 35 #[.pointer none] w fun e w' => e = .returned (.int .i64 0) ∧ w = w' := by
  go_enter Try.func35, Try.ntmps35
  go_wp2_with fail
  go_ret
  exact ⟨rfl, rfl⟩
set_option maxHeartbeats 400000 in
theorem rheld_nil (w : World) : Calls Try.prog 38 #[.pointer none] w fun e w' => e = .returned (.int .i64 0) ∧ w = w' := by
  go_enter Try.func38, Try.ntmps38
  go_wp2_with fail
  go_ret
  exact ⟨rfl, rfl⟩
end Go.Proofs.Ythkgkhpfahippaa
