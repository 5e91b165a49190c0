/-
  PLAIN MATHEMATICS OF LAYER 6 (mtf): orders, and what a touch makes of them. No program is named here.
-/
import Derived.Test.YtfckghaigbmeaaaUsedMath
import Derived.Lib.BytesEntry
import Derived.Lib.IndexLaws
namespace Go.Proofs.Ytfckghaigbmeaaa
namespace MtfM
open Go.RowKit UsedM

/-- An order, with the symbol at a place in front. -/
def touch (l : List UInt8) (i : Nat) : List UInt8 := (l.drop i).take 1 ++ l.take i ++ l.drop (i + 1)
theorem touch_length (l : List UInt8) (i : Nat) (h : i < l.length) : (touch l i).length = l.length := by
  unfold touch
  simp only [List.length_append, List.length_take, List.length_drop]
  omega
theorem touch_cons (l : List UInt8) (i : Nat) (h : i < l.length) : touch l i = l[i] :: (l.take i ++ l.drop (i + 1)) := by
  unfold touch
  rw [List.drop_eq_getElem_cons h]
  rfl
theorem touch_mem (l : List UInt8) (i : Nat) (h : i < l.length) (x : UInt8) : x ∈ touch l i ↔ x ∈ l := by
  rw [touch_cons l i h]
  conv => rhs; rw [← List.take_append_drop i l, List.drop_eq_getElem_cons h]
  simp only [List.mem_cons, List.mem_append]
  constructor
  · rintro (h | h | h)
    · exact Or.inr (Or.inl h)
    · exact Or.inl h
    · exact Or.inr (Or.inr h)
  · rintro (h | h | h)
    · exact Or.inr (Or.inl h)
    · exact Or.inl h
    · exact Or.inr (Or.inr h)
theorem place_is {l : List UInt8} {c : UInt8} {k : Nat} (h : l[k]? = some c) (hn : ∀ j, j < k → l[j]? ≠ some c) : Lib.indexByte l c = (k : Int) := by
  have hge := Lib.indexByte_ge l c
  by_cases h1 : Lib.indexByte l c = -1
  · exact absurd h (Lib.indexByte_none h1 k)
  · obtain ⟨o, ho⟩ : ∃ o : Nat, Lib.indexByte l c = (o : Int) := ⟨(Lib.indexByte l c).toNat, by omega⟩
    obtain ⟨h2, h3⟩ := Lib.indexByte_some ho
    rw [ho]
    by_cases hlt : o < k
    · exact absurd h2 (hn o hlt)
    · by_cases hgt : k < o
      · exact absurd h (h3 k hgt)
      · omega
theorem place_not {l : List UInt8} {c : UInt8} (hn : ∀ j, j < l.length → l[j]? ≠ some c) : Lib.indexByte l c = -1 := by
  have hge := Lib.indexByte_ge l c
  by_cases h1 : Lib.indexByte l c = -1
  · exact h1
  · obtain ⟨o, ho⟩ : ∃ o : Nat, Lib.indexByte l c = (o : Int) := ⟨(Lib.indexByte l c).toNat, by omega⟩
    obtain ⟨h2, h3⟩ := Lib.indexByte_some ho
    exact absurd h2 (hn o (List.getElem?_eq_some_iff.1 h2).1)
/-- Where a byte is in an order, if it is there. -/
theorem place_cases (l : List UInt8) (c : UInt8) : Lib.indexByte l c = -1 ∨ ∃ o : Nat, Lib.indexByte l c = (o : Int) ∧ o < l.length ∧ l[o]? = some c := by
  have hge := Lib.indexByte_ge l c
  by_cases h1 : Lib.indexByte l c = -1
  · exact Or.inl h1
  · obtain ⟨o, ho⟩ : ∃ o : Nat, Lib.indexByte l c = (o : Int) := ⟨(Lib.indexByte l c).toNat, by omega⟩
    obtain ⟨h2, _⟩ := Lib.indexByte_some ho
    exact Or.inr ⟨o, ho, (List.getElem?_eq_some_iff.1 h2).1, h2⟩
theorem place_mem {l : List UInt8} {c : UInt8} (h : c ∈ l) : ∃ o : Nat, Lib.indexByte l c = (o : Int) ∧ o < l.length ∧ l[o]? = some c := by
  rcases place_cases l c with h1 | h1
  · obtain ⟨i, hi, he⟩ := List.mem_iff_getElem.1 h
    exact absurd (by rw [List.getElem?_eq_getElem hi, he]) (Lib.indexByte_none h1 i)
  · exact h1
/-- The places of a text's bytes, and the order behind them. -/
def enc : List UInt8 → List UInt8 → Option (List Int)
  | _, [] => some []
  | l, c :: s => if Lib.indexByte l c < 0 then none else (enc (touch l (Lib.indexByte l c).toNat) s).map (Lib.indexByte l c :: ·)
/-- The symbols at places. -/
def dec : List UInt8 → List Int → Option (List UInt8)
  | _, [] => some []
  | l, i :: s => if i < 0 ∨ (l.length : Int) ≤ i then none else (dec (touch l i.toNat) s).map ((l.drop i.toNat).take 1 ++ ·)
/-- The order behind the first k bytes. -/
def ord : List UInt8 → List UInt8 → List UInt8
  | l, [] => l
  | l, c :: s => ord (touch l (Lib.indexByte l c).toNat) s
end MtfM
end Go.Proofs.Ytfckghaigbmeaaa
