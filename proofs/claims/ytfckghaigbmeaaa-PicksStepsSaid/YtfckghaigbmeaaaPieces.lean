/-
  BYTES THAT COME IN TWO PIECES, as bits. No program is named here.
-/
import Derived.Test.YtfckghaigbmeaaaBitsMath
namespace Go.Proofs.Ytfckghaigbmeaaa
open Go.RowKit BitM
set_option linter.unusedVariables false
theorem ext_dataD (t : ByteArray) (n : Nat) : (t.extract n t.size).data.toList = t.data.toList.drop n := by
  have e : t.size = t.data.toList.length := rfl
  rw [ByteArray.data_extract, e]
  simp only [Array.toList_extract, List.extract_eq_take_drop]
  rw [List.take_of_length_le (by simp)]
theorem ext_takeD (s : ByteArray) (c : Nat) : (s.extract 0 c).data.toList = s.data.toList.take c := by
  rw [ByteArray.data_extract]
  simp only [Array.toList_extract, List.extract_eq_take_drop, List.drop_zero, Nat.sub_zero]
/-- The bytes that are there. -/
def cm (come : Bool) (S : List UInt8) (c : Nat) : List UInt8 := if come then S else S.take c
def rest (come : Bool) (S : List UInt8) (c : Nat) : List Bool := if come then [] else bitsOf (S.drop c)
theorem cm_rest (come : Bool) (S : List UInt8) (c a : Nat) (ha : a ≤ 8 * (cm come S c).length) : (bitsOf S).drop a = (bitsOf (cm come S c)).drop a ++ rest come S c := by
  cases come with
  | true => simp [cm, rest]
  | false =>
    have e : bitsOf S = bitsOf (S.take c) ++ bitsOf (S.drop c) := by rw [← bitsOf_append, List.take_append_drop]
    show (bitsOf S).drop a = (bitsOf (S.take c)).drop a ++ bitsOf (S.drop c)
    rw [e, List.drop_append_of_le_length (by rw [bitsOf_length]; exact ha)]
theorem cm_len (come : Bool) (S : List UInt8) (c : Nat) : (cm come S c).length ≤ S.length := by
  cases come with
  | true => exact Nat.le_refl _
  | false => show (S.take c).length ≤ _; rw [List.length_take]; omega
theorem cm_more (S : List UInt8) (c : Nat) : cm false S c ++ S.drop c = cm true S c := List.take_append_drop c S
end Go.Proofs.Ytfckghaigbmeaaa
