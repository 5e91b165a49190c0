/-
  THE WALKS OF LAYER 15's CODE (package rotate): bytes going round, comparing, ahead.
-/
import Derived.Test.YtfedhppcmmponaaRotMathB
import Derived.Test.YtfedhppcmmponaaFoot
import Derived.Test.YtfedhppcmmponaaRow
import Derived.Deep.RegionLaw
import Derived.Deep.QuietTactic
import Derived.Outline
import Derived.Shelf.Abstract
namespace Go.Proofs.Ytfedhppcmmponaa
open Go.RowKit BwtM
set_option linter.unusedVariables false
theorem bt_get (s : ByteArray) {k : Nat} (h : k < s.size) : (s[k].toNat : Int) = (bt s.data.toList k : Int) := by
  have hl : k < s.data.toList.length := by simpa using h
  rw [bt_in _ hl, List.getD_eq_getElem?_getD, List.getElem?_eq_getElem hl]
  simp [ByteArray.getElem_eq_getElem_data]
theorem txt_len (s : ByteArray) : s.data.toList.length = s.size := by simp
theorem bt_sub (s : ByteArray) {k j : Nat} (h : k = s.size + j) (hj : j < s.size) : bt s.data.toList k = bt s.data.toList j := by
  rw [h, Nat.add_comm, ← txt_len s, bt_turn]
theorem bt_lt (T : List UInt8) (i : Nat) : bt T i < 256 := by unfold bt; exact UInt8.toNat_lt _
def Txt (w : World) (g : Nat) (s : ByteArray) : Prop := w.cell? ⟨g, 0, none⟩ = some (.string s)
theorem Txt.below {w w' : World} {g B : Nat} {s : ByteArray} (h : Txt w g s) (hb : Below B w w') (hg : g < B) : Txt w' g s := (hb.cell (p := ⟨g, 0, none⟩) hg).trans h
def cmpI (a b : Nat) : Int := if a < b then -1 else if b < a then 1 else 0
/-- What Compare tells of two places of a text. -/
theorem isCmp_one {T : List UInt8} {i k : Nat} {c d : Int} (h : IsCmp T i k c) (g : IsCmp T i k d) : c = d := by
  rcases h with ⟨rfl, h⟩ | ⟨rfl, h⟩ | ⟨rfl, h⟩ <;> rcases g with ⟨rfl, g⟩ | ⟨rfl, g⟩ | ⟨rfl, g⟩ <;> first | rfl | exact absurd g h.asym | exact absurd h.symm g.noteq | exact absurd h g.noteq | exact absurd g h.noteq | exact absurd g.symm h.noteq
theorem isCmp_at {T : List UInt8} {i k on : Nat} (ho : on < T.length) (h : eqH T on i k) : (cmpI (bt T (i + on)) (bt T (k + on)) = 0 ∧ eqH T (on + 1) i k) ∨ (cmpI (bt T (i + on)) (bt T (k + on)) ≠ 0 ∧ IsCmp T i k (cmpI (bt T (i + on)) (bt T (k + on)))) := by
  unfold cmpI
  by_cases h1 : bt T (i + on) < bt T (k + on)
  · rw [if_pos h1]
    exact Or.inr ⟨by decide, Or.inl ⟨rfl, on, ho, h, h1⟩⟩
  · rw [if_neg h1]
    by_cases h2 : bt T (k + on) < bt T (i + on)
    · rw [if_pos h2]
      exact Or.inr ⟨by decide, Or.inr (Or.inr ⟨rfl, on, ho, h.symm, h2⟩)⟩
    · rw [if_neg h2]
      exact Or.inl ⟨rfl, h.more (by omega)⟩
end Go.Proofs.Ytfedhppcmmponaa
