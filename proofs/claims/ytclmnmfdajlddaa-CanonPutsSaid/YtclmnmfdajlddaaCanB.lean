/-
  THE WALKS OF LAYER 10's CODE (package canon): New, Size, Of.
-/
import Derived.Test.YtclmnmfdajlddaaCan
import Derived.Test.YtclmnmfdajlddaaLenG
namespace Go.Proofs.Ytclmnmfdajlddaa
open Go.RowKit CanM HufM
set_option linter.unusedVariables false
/-- Lengths are a whole code. -/
def WholeP (zs : List Int) : Prop := Within 1 20 zs ∧ shr zs = 1048576
theorem shr_cons (x : Int) (t : List Int) : shr (x :: t) = 2 ^ (20 - x.toNat) + shr t := rfl
/-- A length of 0 takes the whole share. -/
theorem whole_iff {zs : List Int} (h3 : 2 ≤ zs.length) : (Within 0 20 zs ∧ shr zs = 1048576) ↔ WholeP zs := by
  constructor
  · rintro ⟨h1, h2⟩
    refine ⟨fun z hz => ?_, h2⟩
    have hb := h1 z hz
    by_cases h0 : z = 0
    · exfalso
      obtain ⟨s, t, rfl⟩ := List.append_of_mem hz
      unfold shr at h2
      rw [sumN_append] at h2
      simp only [sumN] at h2
      subst h0
      simp only [Int.toNat_zero, Nat.sub_zero] at h2
      have hpos : ∀ (l : List Int), l ≠ [] → 0 < sumN (fun x : Int => 2 ^ (20 - x.toNat)) l := by
        intro l hl
        cases l with
        | nil => exact absurd rfl hl
        | cons y l =>
          simp only [sumN]
          have : 0 < 2 ^ (20 - y.toNat) := Nat.pow_pos (by decide)
          omega
      by_cases hs : s = []
      · subst hs
        have ht : t ≠ [] := by rintro rfl; simp at h3
        have := hpos t ht
        omega
      · have := hpos s hs
        omega
    · omega
  · rintro ⟨h1, h2⟩
    exact ⟨fun z hz => by have := h1 z hz; omega, h2⟩
set_option maxRecDepth 100000 in
set_option maxHeartbeats 1000000 in
theorem areWhole_any (v : Value) (zs : List Int) (r : Bool) (w : World) (hv : IsInts w v zs) (h3 : 2 ≤ zs.length) (hz : zs.length ≤ 258) (hr : r = true ↔ WholeP zs) :
    Calls Try.prog 52 #[v] w fun e w' => e = .returned (.bool r) ∧ w' = w := by
  have HV := Lib.hid hv
  have HR := Lib.hid hr
  obtain ⟨a, cap, rfl, _⟩ := hv
  clear hr
  go_enter Try.func52, Try.ntmps52
  go_wp2_with fail
  refine (share_any _ zs w HV.out (by omega)).mono ?_
  rintro e w1 ⟨n, err, rfl, hP, rfl⟩
  rcases hP with ⟨h1, rfl, rfl⟩ | ⟨h1, rfl, rfl⟩
  · obtain rfl : r = false := by
      rw [Bool.eq_false_iff, Ne, HR.out, ← whole_iff h3]
      exact fun h => h1 ⟨hz, h.1⟩
    clear h1
    go_wp2_with fail
    go_ret
    exact ⟨rfl, rfl⟩
  · by_cases hs : shr zs = 1048576
    · obtain rfl : r = true := by rw [HR.out, ← whole_iff h3]; exact ⟨h1.2, hs⟩
      have hb : ((shr zs : Int) == 1048576) = true := by rw [beq_iff_eq]; omega
      clear h1
      generalize shr zs = T at *
      clear hs
      go_wp2_with fail
      go_ret
      exact ⟨rfl, rfl⟩
    · obtain rfl : r = false := by
        rw [Bool.eq_false_iff, Ne, HR.out]
        exact fun h => hs h.2
      have hb : ((shr zs : Int) == 1048576) = false := by rw [beq_eq_false_iff_ne]; omega
      clear h1
      generalize shr zs = T at *
      clear hs
      go_wp2_with fail
      go_ret
      exact ⟨rfl, rfl⟩
end Go.Proofs.Ytclmnmfdajlddaa
