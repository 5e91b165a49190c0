/-
  THE WALKS OF LAYER 9's CODE AND OF THE DOCUMENT's ANSWER: are all of a row between two numbers.
-/
import Derived.Test.YtmlcdfimcabgkaaDoorInts
namespace Go.Proofs.YtmlcdfimcabgkaaDoor
open Go.RowKit
set_option linter.unusedVariables false
/-- All are from a up to b. -/
def Within (a b : Int) (zs : List Int) : Prop := ∀ z ∈ zs, a ≤ z ∧ z ≤ b
theorem getD_mem {zs : List Int} {k : Nat} (h : k < zs.length) : zs.getD k 0 ∈ zs := by
  rw [List.getD_eq_getElem?_getD, List.getElem?_eq_getElem h]
  exact List.getElem_mem h
theorem within_of {a b : Int} {zs : List Int} (h : ∀ j, j < zs.length → a ≤ zs.getD j 0 ∧ zs.getD j 0 ≤ b) : Within a b zs := fun z hz => by
  obtain ⟨j, hj, rfl⟩ := List.mem_iff_getElem.1 hz
  have := h j hj
  rw [List.getD_eq_getElem?_getD, List.getElem?_eq_getElem hj] at this
  exact this
set_option maxRecDepth 100000 in
set_option maxHeartbeats 1000000 in
theorem areWithin_any (v : Value) (zs : List Int) (a b : Int) (r : Bool) (w : World) (hv : IsInts w v zs) (hr : r = true ↔ Within a b zs) (hz : zs.length ≤ 9223372036854775807) :
    Calls Tryd.prog 55 #[v, .int .i64 a, .int .i64 b] w fun e w' => e = .returned (.bool r) ∧ w' = w := by
  have HV := Lib.hid hv
  have HRR := Lib.hid hr
  obtain ⟨ad, cap, rfl, _⟩ := hv
  clear hr
  go_enter Tryd.func55, Tryd.ntmps55
  go_wp2_with fail
  go_loopw [11] (fun i wr => ∃ k : Nat, k ≤ zs.length ∧ i = .int .i64 k ∧ wr = w ∧ ∀ j, j < k → a ≤ zs.getD j 0 ∧ zs.getD j 0 ≤ b) (fun i _ => zs.length - (intOf i).toNat)
  case atStart => exact ⟨0, by omega, rfl, rfl, fun j hj => by omega⟩
  case round =>
    obtain ⟨k, hk, rfl, rfl, hA⟩ := hrel
    have HA := Lib.hid hA
    clear hA
    by_cases hlk : k < zs.length
    · have hki : (k : Int) < (zs.length : Int) := by omega
      obtain ⟨b1, o1, k1, he1, c1⟩ := HV.out.cell hlk
      simp only [Value.slice.injEq] at he1
      obtain ⟨rfl, _, rfl⟩ := he1
      obtain ⟨x, hx⟩ : ∃ x, zs.getD k 0 = x := ⟨_, rfl⟩
      rw [hx] at c1
      have HX := Lib.hid hx
      clear hx
      by_cases h1 : x < a
      · have hrf : r = false := by
          rw [Bool.eq_false_iff, Ne, HRR.out]
          intro h
          have := h _ (getD_mem hlk)
          rw [HX.out] at this
          omega
        subst hrf
        go_wp2_with fail
        go_ret
        exact ⟨rfl, rfl⟩
      · have hd : decide (x < a) = false := by simp only [decide_eq_false_iff_not]; exact h1
        by_cases h2 : b < x
        · have hrf : r = false := by
            rw [Bool.eq_false_iff, Ne, HRR.out]
            intro h
            have := h _ (getD_mem hlk)
            rw [HX.out] at this
            omega
          subst hrf
          go_wp2_with fail
          go_ret
          exact ⟨rfl, rfl⟩
        · have hd2 : decide (b < x) = false := by simp only [decide_eq_false_iff_not]; exact h2
          go_wp2_with fail
          go_roundw
          case rel => exact ⟨k + 1, by omega, by go_num, (by first | rfl | trivial), fun j hj => by
            by_cases e : j = k
            · subst e; rw [HX.out]; omega
            · exact HA.out j (by omega)⟩
          case measure => simp [intOf]; omega
    · have hki : ¬ (k : Int) < (zs.length : Int) := by omega
      have hrt : r = true := by
        rw [HRR.out]
        exact within_of (fun j hj => HA.out j (by omega))
      subst hrt
      go_wp2_with fail
      go_ret
      exact ⟨rfl, rfl⟩
set_option maxRecDepth 100000 in
set_option maxHeartbeats 1000000 in
theorem may_any (v : Value) (zs : List Int) (a b : Int) (r : Bool) (w : World) (hv : IsInts w v zs) (hr : r = true ↔ Within a b zs) (hz : zs.length ≤ 9223372036854775807) :
    Calls Tryd.prog 12 #[v, .int .i64 a, .int .i64 b] w fun e w' => e = .returned (.bool r) ∧ w' = w := by
  have HV := Lib.hid hv
  have HRR := Lib.hid hr
  obtain ⟨ad, cap, rfl, _⟩ := hv
  clear hr
  go_enter Tryd.func12, Tryd.ntmps12
  go_wp2_with fail
  go_loopw [11] (fun i wr => ∃ k : Nat, k ≤ zs.length ∧ i = .int .i64 k ∧ wr = w ∧ ∀ j, j < k → a ≤ zs.getD j 0 ∧ zs.getD j 0 ≤ b) (fun i _ => zs.length - (intOf i).toNat)
  case atStart => exact ⟨0, by omega, rfl, rfl, fun j hj => by omega⟩
  case round =>
    obtain ⟨k, hk, rfl, rfl, hA⟩ := hrel
    have HA := Lib.hid hA
    clear hA
    by_cases hlk : k < zs.length
    · have hki : (k : Int) < (zs.length : Int) := by omega
      obtain ⟨b1, o1, k1, he1, c1⟩ := HV.out.cell hlk
      simp only [Value.slice.injEq] at he1
      obtain ⟨rfl, _, rfl⟩ := he1
      obtain ⟨x, hx⟩ : ∃ x, zs.getD k 0 = x := ⟨_, rfl⟩
      rw [hx] at c1
      have HX := Lib.hid hx
      clear hx
      by_cases h1 : x < a
      · have hrf : r = false := by
          rw [Bool.eq_false_iff, Ne, HRR.out]
          intro h
          have := h _ (getD_mem hlk)
          rw [HX.out] at this
          omega
        subst hrf
        go_wp2_with fail
        go_ret
        exact ⟨rfl, rfl⟩
      · have hd : decide (x < a) = false := by simp only [decide_eq_false_iff_not]; exact h1
        by_cases h2 : b < x
        · have hrf : r = false := by
            rw [Bool.eq_false_iff, Ne, HRR.out]
            intro h
            have := h _ (getD_mem hlk)
            rw [HX.out] at this
            omega
          subst hrf
          go_wp2_with fail
          go_ret
          exact ⟨rfl, rfl⟩
        · have hd2 : decide (b < x) = false := by simp only [decide_eq_false_iff_not]; exact h2
          go_wp2_with fail
          go_roundw
          case rel => exact ⟨k + 1, by omega, by go_num, (by first | rfl | trivial), fun j hj => by
            by_cases e : j = k
            · subst e; rw [HX.out]; omega
            · exact HA.out j (by omega)⟩
          case measure => simp [intOf]; omega
    · have hki : ¬ (k : Int) < (zs.length : Int) := by omega
      have hrt : r = true := by
        rw [HRR.out]
        exact within_of (fun j hj => HA.out j (by omega))
      subst hrt
      go_wp2_with fail
      go_ret
      exact ⟨rfl, rfl⟩
end Go.Proofs.YtmlcdfimcabgkaaDoor
