/-
  THE WALKS OF LAYER 15's CODE (package rotate): what may stand just behind (follower); Sorted.
-/
import Derived.Test.YtfedhppcmmponaaRotE
import Derived.BigQuiet
namespace Go.Proofs.Ytfedhppcmmponaa
open Go.RowKit BwtM PkM
set_option linter.unusedVariables false
/-- A quiet call behind other draws. -/
theorem quiet_more {P : Program} {f : FuncId} {args : Array Value} {w : World} {a n : Nat} {v : Value} (h : Calls P f args (w.drewN (a + n)) fun e w' => e = .returned v ∧ ∃ m, w' = (w.drewN (a + n)).drewN m) :
    Calls P f args (w.drewN (a + n)) fun e w'' => e = .returned v ∧ ∃ m, w'' = w.drewN (a + m) :=
  h.mono fun _ _ ⟨he, m, hm⟩ => ⟨he, n + m, by rw [hm, World.drewN_drewN, Nat.add_assoc]⟩
theorem quiet_more_same {P : Program} {f : FuncId} {args : Array Value} {w : World} {a n : Nat} {v : Value} (h : Calls P f args (w.drewN (a + n)) fun e w' => e = .returned v ∧ w' = w.drewN (a + n)) :
    Calls P f args (w.drewN (a + n)) fun e w'' => e = .returned v ∧ ∃ m, w'' = w.drewN (a + m) :=
  h.mono fun _ _ ⟨he, hm⟩ => ⟨he, n, hm⟩
def PerP (T : List UInt8) (n p : Nat) : Prop := (n = 0 → p = 0) ∧ (0 < n → IsPeriod T p)
/-- The rank of a place. -/
def rk (L : List Int) (i : Nat) : Nat := (L.getD i 0).toNat
theorem follow_cases {T : List UInt8} {R : Nat → Nat} {p c i k : Nat} {r : Bool} (hr : r = true ↔ Follow T R p c i k) :
    (R i / c = R k / c ∧ (r = true ↔ k = i + p)) ∨ (R i / c ≠ R k / c ∧ bt T i ≠ bt T k ∧ (r = true ↔ bt T i < bt T k)) ∨ (R i / c ≠ R k / c ∧ bt T i = bt T k ∧ (r = true ↔ R ((i + 1) % T.length) / c < R ((k + 1) % T.length) / c)) := by
  unfold Follow at hr
  by_cases h1 : R i / c = R k / c
  · refine Or.inl ⟨h1, hr.trans ⟨fun h => h.1 h1, fun h => ⟨fun _ => h, fun h2 => absurd h1 h2, fun h2 => absurd h1 h2⟩⟩⟩
  · by_cases h2 : bt T i = bt T k
    · exact Or.inr (Or.inr ⟨h1, h2, hr.trans ⟨fun h => h.2.2 h1 h2, fun h => ⟨fun h3 => absurd h3 h1, fun _ h3 => absurd h2 h3, fun _ _ => h⟩⟩⟩)
    · exact Or.inr (Or.inl ⟨h1, h2, hr.trans ⟨fun h => h.2.1 h1 h2, fun h => ⟨fun h3 => absurd h3 h1, fun _ _ => h, fun _ h3 => absurd h3 h2⟩⟩⟩)
end Go.Proofs.Ytfedhppcmmponaa
