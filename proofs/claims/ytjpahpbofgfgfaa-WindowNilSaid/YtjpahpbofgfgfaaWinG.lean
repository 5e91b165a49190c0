/-
  LAYER 28: the document's answers; New refused.
-/
import Derived.Test.YtjpahpbofgfgfaaWinF
import Derived.Test.YtjpahpbofgfgfaaLedF
namespace Go.Proofs.Ytjpahpbofgfgfaa
open Go.RowKit
set_option linter.unusedVariables false
set_option linter.unusedSimpArgs false
instance (S : Int) (zs : List Int) : Decidable (wdMay S zs) := by unfold wdMay lgMay; infer_instance
set_option maxHeartbeats 1000000 in
theorem rmay28_any (S : Int) (v : Value) (zs : List Int) (w : World) (hI : IsInts w v zs) (hn : zs.length ≤ 9223372036854775807) : Calls Try.prog 27 #[.int .i64 S, v] w fun e w' => e = .returned (.bool (decide (wdMay S zs))) ∧ w' = w := by
  have HL := Lib.hid (rlimits_any v zs w hI hn)
  by_cases h1 : 1 ≤ S
  · have g1 : S ≥ 1 := h1
    by_cases h2 : S ≤ 1048576
    · have e : decide (wdMay S zs) = decide (1 ≤ zs.length ∧ zs.length ≤ 16 ∧ ∀ x ∈ zs, lgIs x) := by
        unfold wdMay lgMay
        simp [h1, h2]
      rw [e]
      generalize decide (1 ≤ zs.length ∧ zs.length ≤ 16 ∧ ∀ x ∈ zs, lgIs x) = R at *
      clear hI e
      go_enter Try.func27, Try.ntmps27
      go_wp2_with fail
      refine HL.out.mono ?_
      rintro e w1 ⟨rfl, rfl⟩
      go_wp2_with fail
      go_ret
      exact ⟨rfl, rfl⟩
    · rw [decide_eq_false (show ¬ wdMay S zs from fun h => h2 h.1.2)]
      clear hI
      go_enter Try.func27, Try.ntmps27
      go_wp2_with fail
      go_ret
      first | exact ⟨rfl, rfl⟩ | exact ⟨by simp; omega, rfl⟩
  · have g1 : ¬ S ≥ 1 := h1
    rw [decide_eq_false (show ¬ wdMay S zs from fun h => h1 h.1.1)]
    clear hI
    go_enter Try.func27, Try.ntmps27
    go_wp2_with fail
    go_ret
    first | exact ⟨rfl, rfl⟩ | exact ⟨by simp; omega, rfl⟩
set_option maxHeartbeats 2000000 in
theorem wdnew_bad (S : Int) (v : Value) (zs : List Int) (w : World) (hI : IsInts w v zs) (hn : zs.length ≤ 9223372036854775807) (hm : ¬ wdMay S zs) :
    Calls Try.prog 26 #[.int .i64 S, v] w fun e w' => e = .returned (.tuple #[.pointer none, .int .i64 1]) ∧ w' = w := by
  have HC := Lib.hid (containsFunc_any 49 #[] lgBad v zs w hI hn wdbad_enters (fun x W => wdbad_any x W))
  have hcase : S < 1 ∨ (¬ S < 1 ∧ S > 1048576) ∨ (¬ S < 1 ∧ ¬ S > 1048576 ∧ zs.length = 0) ∨ (¬ S < 1 ∧ ¬ S > 1048576 ∧ 0 < zs.length ∧ 16 < zs.length) ∨ (¬ S < 1 ∧ ¬ S > 1048576 ∧ 0 < zs.length ∧ ¬ 16 < zs.length ∧ zs.any lgBad = true) := by
    by_cases s1 : S < 1
    · exact Or.inl s1
    · by_cases s2 : S > 1048576
      · exact Or.inr (Or.inl ⟨s1, s2⟩)
      · by_cases h0 : zs.length = 0
        · exact Or.inr (Or.inr (Or.inl ⟨s1, s2, h0⟩))
        · by_cases h1 : 16 < zs.length
          · exact Or.inr (Or.inr (Or.inr (Or.inl ⟨s1, s2, by omega, h1⟩)))
          · refine Or.inr (Or.inr (Or.inr (Or.inr ⟨s1, s2, by omega, h1, ?_⟩)))
            cases hb : zs.any lgBad with
            | true => rfl
            | false => exact absurd ⟨by omega, by omega, by omega, any_bad_false.1 hb⟩ hm
  clear hm
  obtain ⟨a, cap, rfl, _⟩ := hI
  obtain ⟨N, hN⟩ : ∃ N, zs.length = N := ⟨_, rfl⟩
  rw [hN] at HC hcase hn ⊢
  clear hN
  obtain ⟨Bo, hB⟩ : ∃ Bo, zs.any lgBad = Bo := ⟨_, rfl⟩
  rw [hB] at HC hcase
  clear hB
  rcases hcase with s1 | ⟨s1, s2⟩ | ⟨s1, s2, h⟩ | ⟨s1, s2, h, h1⟩ | ⟨s1, s2, h, h1, rfl⟩
  · go_enter Try.func26, Try.ntmps26
    go_wp2_with fail
    refine HC.out.mono ?_
    rintro e w1 ⟨rfl, rfl⟩
    go_wp2_with fail
    go_ret2
    exact ⟨rfl, rfl⟩
  · go_enter Try.func26, Try.ntmps26
    go_wp2_with fail
    refine HC.out.mono ?_
    rintro e w1 ⟨rfl, rfl⟩
    go_wp2_with fail
    go_ret2
    exact ⟨rfl, rfl⟩
  · subst h
    go_enter Try.func26, Try.ntmps26
    go_wp2_with fail
    refine HC.out.mono ?_
    rintro e w1 ⟨rfl, rfl⟩
    go_wp2_with fail
    go_ret2
    exact ⟨rfl, rfl⟩
  · have k1 : ((N : Int) == 0) = false := by rw [beq_eq_false_iff_ne]; omega
    have k2 : (N : Int) > 16 := by omega
    go_enter Try.func26, Try.ntmps26
    go_wp2_with fail
    refine HC.out.mono ?_
    rintro e w1 ⟨rfl, rfl⟩
    go_wp2_with fail
    go_ret2
    exact ⟨rfl, rfl⟩
  · have k1 : ((N : Int) == 0) = false := by rw [beq_eq_false_iff_ne]; omega
    have k2 : ¬ (N : Int) > 16 := by omega
    go_enter Try.func26, Try.ntmps26
    go_wp2_with fail
    refine HC.out.mono ?_
    rintro e w1 ⟨rfl, rfl⟩
    go_wp2_with fail
    go_ret2
    exact ⟨rfl, rfl⟩
end Go.Proofs.Ytjpahpbofgfgfaa
