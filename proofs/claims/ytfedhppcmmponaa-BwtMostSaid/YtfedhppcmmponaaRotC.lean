/-
  THE WALKS OF LAYER 15's CODE (package rotate) AND THE DOCUMENT's ANSWER: Period, Least.
-/
import Derived.Test.YtfedhppcmmponaaRotB
namespace Go.Proofs.Ytfedhppcmmponaa
open Go.RowKit BwtM
set_option linter.unusedVariables false
theorem tmod_nat (n p : Nat) : (n : Int).tmod (p : Int) = ((n % p : Nat) : Int) := by rw [Int.tmod_eq_emod_of_nonneg (by omega)]; omega
theorem tdiv_nat (n p : Nat) : (n : Int).tdiv (p : Int) = ((n / p : Nat) : Int) := by rw [Int.tdiv_eq_ediv_of_nonneg (by omega)]; omega
theorem not_half {T : List UInt8} {n : Nat} (hn : n = T.length) (h0 : 0 < n) (h : ∀ q, 0 < q → q ≤ n / 2 → ¬ (q ∣ n ∧ rot T q = T)) : IsPeriod T n := by
  subst hn
  exact period_all h0 (fun q h1 h2 ⟨h3, h4⟩ => h q h1 (dvd_half h3 h2) ⟨h3, h4⟩)
theorem vie_next {T : List UInt8} {a k on : Nat} (h : Vie T a k on) (ho : on < T.length) (hk : k < T.length) :
    (cmpI (bt T (a + on)) (bt T (k + on)) = 0 ∧ Vie T a k (on + 1)) ∨ (cmpI (bt T (a + on)) (bt T (k + on)) = -1 ∧ Vie T a (k + on + 1) 0) ∨ (cmpI (bt T (a + on)) (bt T (k + on)) = 1 ∧ Vie T (max (a + on + 1) k) (max (a + on + 1) k + 1) 0) := by
  unfold cmpI
  by_cases h1 : bt T (a + on) < bt T (k + on)
  · rw [if_pos h1]
    exact Or.inr (Or.inl ⟨rfl, h.less ho hk h1⟩)
  · rw [if_neg h1]
    by_cases h2 : bt T (k + on) < bt T (a + on)
    · rw [if_pos h2]
      exact Or.inr (Or.inr ⟨rfl, h.greater ho hk h2⟩)
    · rw [if_neg h2]
      exact Or.inl ⟨rfl, h.same (by omega)⟩
end Go.Proofs.Ytfedhppcmmponaa
