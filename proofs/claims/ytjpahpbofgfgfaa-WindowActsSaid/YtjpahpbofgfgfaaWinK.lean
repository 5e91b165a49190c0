/-
  LAYER 28's STATEMENTS: WindowNil.
-/
import Derived.Test.YtjpahpbofgfgfaaWinJ
namespace Go.Proofs.Ytjpahpbofgfgfaa
open Go.RowKit Go.ChangeShapes Go.WideShapes Go.ChangeAt Go.Deep
set_option linter.unusedVariables false
set_option linter.unusedSimpArgs false
set_option maxRecDepth 100000 in
set_option maxHeartbeats 8000000 in
theorem windowNil.walk (T x : Int) (w : World) (_ : (Lit.int .i64 T).wf = true) (_ : (Lit.int .i64 x).wf = true) : Calls Try.prog 10 #[.int .i64 T, .int .i64 x] w fun e w' => e = .returned (.bool true) ∧ Below w.heap.size w w' := by
  have HN := Lib.hid (fv_new 1 (by omega) w)
  have HC : Hid (∀ W, Calls Try.prog 30 #[.pointer none, .int .i64 T, .int .i64 x] W fun e w' => e = .returned (.int .i64 7) ∧ w' = W) := Lib.hid (fun W => wdcharge_no T x W (MtV.nil 0 W) (by omega))
  have HL : Hid (∀ W, Calls Try.prog 32 #[.pointer none, .int .i64 T] W fun e w' => e = .returned (.int .i64 0) ∧ w' = W) := Lib.hid (fun W => wdleft_none T W (MtV.nil 0 W) (by omega))
  have HTT : Hid (∀ W, Calls Try.prog 33 #[.pointer none, .int .i64 T] W fun e w' => e = .returned (.int .i64 0) ∧ w' = W) := Lib.hid (fun W => wdtotal_none T W (MtV.nil 0 W) (by omega))
  go_enter Try.func10, Try.ntmps10
  go_wp2_with fail
  refine (wdtick_nil _).mono ?_
  rintro e w5 ⟨rfl, h5⟩
  obtain rfl := h5.symm
  go_wp2_with fail
  refine HN.out.mono ?_
  rintro e w6 ⟨b, v, rfl, h⟩
  have H0 := Lib.hid h
  clear h
  go_wp2_with fail
  refine (HC.out _).mono ?_
  rintro e w7 ⟨rfl, h⟩
  obtain rfl := h.symm
  go_wp2_with fail
  refine (HL.out _).mono ?_
  rintro e w7 ⟨rfl, h⟩
  obtain rfl := h.symm
  go_wp2_with fail
  refine (wdall_nil _).mono ?_
  rintro e w8 ⟨⟨a, c, rfl⟩, h⟩
  have H1 := Lib.hid (H0.out.next h)
  clear h
  go_wp2_with fail
  refine (wdat_nil _).mono ?_
  rintro e w9 ⟨rfl, h⟩
  obtain rfl := h.symm
  go_wp2_with fail
  refine (wdbegins_nil _).mono ?_
  rintro e w9 ⟨rfl, m, rfl⟩
  have H2 := Lib.hid (H1.out.next (below_drewN _ m))
  go_wp2_with fail
  refine (HTT.out _).mono ?_
  rintro e wa ⟨rfl, h⟩
  obtain rfl := h.symm
  generalize w8.drewN m = w9 at *
  by_cases hT : T = 0
  · have kT : (T == 0) = true := by rw [beq_iff_eq]; exact hT
    clear hT
    go_wp2_with fail
    refine (fv_left H2.out).mono ?_
    rintro e wb ⟨rfl, h⟩
    have H3 := Lib.hid h
    clear h
    go_wp2_with fail
    refine (fv_begins H3.out).mono ?_
    rintro e wc ⟨rfl, h⟩
    have H4 := Lib.hid h
    clear h
    go_wp2_with fail
    refine (five28_any _).mono ?_
    rintro e wd ⟨rfl, h⟩
    have H5 := Lib.hid (H4.out.next h).below
    clear h
    go_wp2_with fail
    go_ret
    exact ⟨rfl, H5.out⟩
  · have kT : (T == 0) = false := by rw [beq_eq_false_iff_ne]; exact hT
    have HV := Lib.hid H2.out.mtV
    have hr : ¬ (0 ≤ T ∧ T < ((1 : Nat) : Int)) := by omega
    have HC2 : Hid (Calls Try.prog 30 #[.pointer (some ⟨b, 0, none⟩), .int .i64 T, .int .i64 x] w9 fun e w' => e = .returned (.int .i64 6) ∧ w' = w9) := Lib.hid (wdcharge_no T x w9 HV.out hr)
    have HL2 := Lib.hid (wdleft_none T w9 HV.out hr)
    have HT2 := Lib.hid (wdtotal_none T w9 HV.out hr)
    clear hT hr
    go_wp2_with fail
    refine HC2.out.mono ?_
    rintro e wb ⟨rfl, h⟩
    obtain rfl := h.symm
    go_wp2_with fail
    refine HL2.out.mono ?_
    rintro e wb ⟨rfl, h⟩
    obtain rfl := h.symm
    go_wp2_with fail
    refine HT2.out.mono ?_
    rintro e wb ⟨rfl, h⟩
    obtain rfl := h.symm
    go_wp2_with fail
    refine (five28_any _).mono ?_
    rintro e wd ⟨rfl, h⟩
    have H5 := Lib.hid (H2.out.next h).below
    clear h
    go_wp2_with fail
    go_ret
    exact ⟨rfl, H5.out⟩
end Go.Proofs.Ytjpahpbofgfgfaa
