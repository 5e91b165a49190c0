/-
  LAYER 15's STATEMENTS: banana; RotateCompares, RotatePeriods, RotateSorts, RotateAlike.
-/
import Derived.Test.YtfedhppcmmponaaRotG
namespace Go.Proofs.Ytfedhppcmmponaa
open Go.RowKit BwtM PkM
set_option linter.unusedVariables false
def aheadB (T : List UInt8) (i k : Nat) : Bool := Op.bytesLess (rot T i) (rot T k) || (rot T i == rot T k && decide (i < k))
theorem aheadB_iff (T : List UInt8) (i k : Nat) : aheadB T i k = true ↔ Ahead T i k := by
  unfold aheadB Ahead
  rw [Bool.or_eq_true, bytesLess_iff, Bool.and_eq_true, beq_iff_eq, decide_eq_true_eq]
def banT : ByteArray := ⟨#[98, 97, 110, 97, 110, 97]⟩
def abT : ByteArray := ⟨#[97, 98, 97, 98]⟩
theorem isSorted_of {T : List UInt8} {P : List Nat} (h1 : P.Perm (List.range T.length)) (h2 : P.Pairwise (fun i k => aheadB T i k = true)) : IsSorted T P := ⟨h1, h2.imp (fun h => (aheadB_iff _ _ _).1 h)⟩
theorem ban_sorted : IsSorted [98, 97, 110, 97, 110, 97] [5, 3, 1, 0, 4, 2] := isSorted_of (by decide) (by decide)
theorem ab_sorted : IsSorted [97, 98, 97, 98] [0, 2, 1, 3] := isSorted_of (by decide) (by decide)
theorem ab_period : IsPeriod [97, 98, 97, 98] 2 := ⟨by decide, by decide, by decide, fun q h1 h2 h3 => by
  rcases (by omega : q = 1 ∨ 2 ≤ q) with rfl | h
  · exact absurd h3 (by decide)
  · exact h⟩
theorem ban_least : IsLeast [98, 97, 110, 97, 110, 97] 5 := ⟨by decide, fun j hj h => by
  have h2 : ∀ j, j < 6 → aheadB [98, 97, 110, 97, 110, 97] j 5 = false := by decide
  have h3 := h2 j hj
  rw [(aheadB_iff _ _ _).2 h] at h3
  cases h3⟩
theorem ints_lits (w : World) (zs : List Int) (N : Nat) (hN : N = zs.length) : IsInts (w.alloc (.cells (zs.map iv64).toArray 3)) (.slice (some ⟨w.heap.size, 0, none⟩) N N) zs :=
  ints_of_row (rest := []) (t := 3) (by rw [List.append_nil]; exact heap_alloc_new _ _) hN
/-- What two rotations as texts are, by what Compare tells. -/
theorem isCmp_texts {s : ByteArray} {i k : Nat} {c : Int} (hi : i < s.size) (hk : k < s.size) (h : IsCmp s.data.toList i k c) :
    (c = -1 ∧ Op.bytesLess (rotT s i).toList (rotT s k).toList = true ∧ ((rotT s i).toList == (rotT s k).toList) = false) ∨
    (c = 0 ∧ Op.bytesLess (rotT s i).toList (rotT s k).toList = false ∧ ((rotT s i).toList == (rotT s k).toList) = true) ∨
    (c = 1 ∧ Op.bytesLess (rotT s i).toList (rotT s k).toList = false ∧ ((rotT s i).toList == (rotT s k).toList) = false) := by
  have hil : i ≤ s.data.toList.length := by rw [txt_len]; omega
  have hkl : k ≤ s.data.toList.length := by rw [txt_len]; omega
  have hbl := bl_rot s i k
  have heq := fun r h => list_eq_test (rotT s i) (rotT s k) r h
  rw [rotT_eq] at heq
  rw [← ltH_rot hil hkl] at hbl
  rw [← eqH_rot hil hkl] at heq
  rcases h with ⟨rfl, h⟩ | ⟨rfl, h⟩ | ⟨rfl, h⟩
  · exact Or.inl ⟨rfl, hbl.2 h, heq false ⟨fun e => (by cases e), fun e => absurd e h.noteq⟩⟩
  · exact Or.inr (Or.inl ⟨rfl, by rw [Bool.eq_false_iff, Ne, hbl]; exact fun g => g.noteq h, heq true ⟨fun _ => h, fun _ => rfl⟩⟩)
  · exact Or.inr (Or.inr ⟨rfl, by rw [Bool.eq_false_iff, Ne, hbl]; exact fun g => g.asym h, heq false ⟨fun e => (by cases e), fun e => absurd e.symm h.noteq⟩⟩)
theorem bool_of (p : Prop) : ∃ r : Bool, r = true ↔ p := by
  by_cases h : p
  · exact ⟨true, fun _ => h, fun _ => rfl⟩
  · exact ⟨false, fun e => (by cases e), fun e => absurd e h⟩
end Go.Proofs.Ytfedhppcmmponaa
