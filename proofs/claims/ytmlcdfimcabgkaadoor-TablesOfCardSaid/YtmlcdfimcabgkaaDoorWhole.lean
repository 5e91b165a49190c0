/-
  A WHOLE CODE: the document's answer (balerref10.Whole).
-/
import Derived.Test.YtmlcdfimcabgkaaDoorLenShr
namespace Go.Proofs.YtmlcdfimcabgkaaDoor
open Go.RowKit HufM
set_option linter.unusedVariables false
/-- Lengths are a whole code. -/
def WholeP (zs : List Int) : Prop := Within 1 20 zs ∧ shr zs = 1048576
set_option maxRecDepth 100000 in
set_option maxHeartbeats 1000000 in
theorem rWhole_any (v : Value) (zs : List Int) (r : Bool) (w : World) (hv : IsInts w v zs) (hz : zs.length ≤ 258) (hr : r = true ↔ WholeP zs) :
    Calls Tryd.prog 27 #[v] w fun e w' => e = .returned (.bool r) ∧ w' = w := by
  have HV := Lib.hid hv
  have HR := Lib.hid hr
  clear hr
  by_cases hw : Within 1 20 zs
  · have HA := Lib.hid (may_any v zs 1 20 true w HV.out ⟨fun _ => hw, fun _ => rfl⟩ (by omega))
    have HS := Lib.hid (rShare_any v zs w HV.out (by omega) (fun z hz => by have := hw z hz; omega))
    have hsb : shr zs ≤ 1048576 * 258 := Nat.le_trans (shr_bound zs) (Nat.mul_le_mul_left _ hz)
    have HW := Lib.hid hw
    clear hw
    by_cases hs : shr zs = 1048576
    · obtain rfl : r = true := HR.out.2 ⟨HW.out, hs⟩
      have hb : ((shr zs : Int) == 1048576) = true := by rw [beq_iff_eq]; omega
      generalize shr zs = T at *
      clear hs
      go_enter Tryd.func27, Tryd.ntmps27
      go_wp2_with fail
      refine HA.out.mono ?_
      rintro e w1 ⟨rfl, rfl⟩
      go_wp2_with fail
      refine HS.out.mono ?_
      rintro e w2 ⟨rfl, rfl⟩
      go_wp2_with fail
      go_ret
      exact ⟨rfl, rfl⟩
    · obtain rfl : r = false := by rw [Bool.eq_false_iff, Ne, HR.out]; exact fun h => hs h.2
      have hb : ((shr zs : Int) == 1048576) = false := by rw [beq_eq_false_iff_ne]; omega
      generalize shr zs = T at *
      clear hs
      go_enter Tryd.func27, Tryd.ntmps27
      go_wp2_with fail
      refine HA.out.mono ?_
      rintro e w1 ⟨rfl, rfl⟩
      go_wp2_with fail
      refine HS.out.mono ?_
      rintro e w2 ⟨rfl, rfl⟩
      go_wp2_with fail
      go_ret
      exact ⟨rfl, rfl⟩
  · obtain rfl : r = false := by rw [Bool.eq_false_iff, Ne, HR.out]; exact fun h => hw h.1
    have HA := Lib.hid (may_any v zs 1 20 false w HV.out ⟨fun h => (by cases h), fun h => absurd h hw⟩ (by omega))
    clear hw
    go_enter Tryd.func27, Tryd.ntmps27
    go_wp2_with fail
    refine HA.out.mono ?_
    rintro e w1 ⟨rfl, rfl⟩
    go_wp2_with fail
    go_ret
    exact ⟨rfl, rfl⟩
end Go.Proofs.YtmlcdfimcabgkaaDoor
