/-
  THE WALKS OF LAYER 1's CODE (package bits): the writer.
-/
import Derived.Test.YtgbcajglbpdgjaaDoorRow
import Derived.Test.YtgbcajglbpdgjaaDoorBitsMath
import Derived.Deep.RegionLaw
namespace Go.Proofs.YtgbcajglbpdgjaaDoor
open Go.RowKit BitM
set_option linter.unusedVariables false

theorem part_code (q : List Bool) (X n : Nat) (hX : X < 2 ^ n) (hn : n ≤ 32) : bits BinOp.or IntKind.u64 (IntKind.u64.wrap ((num (tail q) : Int) * 2 ^ n)) (X : Int) = (num (tail q ++ field X n) : Int) := by
  have hr : num (tail q) < 2 ^ 8 := Nat.lt_of_lt_of_le (num_lt _) (Nat.pow_le_pow_right (by omega) (by rw [tail_length]; omega))
  have h32 : 2 ^ n ≤ 2 ^ 32 := Nat.pow_le_pow_right (by omega) hn
  have hm : num (tail q) * 2 ^ n < 2 ^ 40 := by
    have : num (tail q) * 2 ^ n ≤ 255 * 2 ^ 32 := Nat.mul_le_mul (by omega) h32
    omega
  have e1 : (num (tail q) : Int) * 2 ^ n = ((num (tail q) * 2 ^ n : Nat) : Int) := by simp
  have e2 : IntKind.u64.wrap ((num (tail q) * 2 ^ n : Nat) : Int) = ((num (tail q) * 2 ^ n : Nat) : Int) := by
    simp only [IntKind.wrap, IntKind.bits, IntKind.signed]
    simp
    omega
  rw [e1, e2, u64_or_nat _ _ (by omega) (by omega), nat_join n _ _ (by simp) hX, num_append, field_length, field_num, Nat.mod_eq_of_lt hX]
theorem shr_code (t : List Bool) (j m : Nat) (h : 8 * j + 8 ≤ t.length) (hm : m = t.length - 8 * j - 8) : ∃ (y : UInt8), (byts t)[j]? = some y ∧ (num t : Int) / 2 ^ m % 256 = (y.toNat : Int) := by
  have hj : j < (byts t).length := by rw [byts_length]; omega
  refine ⟨_, List.getElem?_eq_getElem hj, ?_⟩
  subst hm
  simp only [byts, List.getElem_map, List.getElem_range, byte_at t j h]
  rw [UInt8.toNat_ofNat']
  simp
theorem and_code (t : List Bool) (e : Nat) (he : e = t.length - 8 * (t.length / 8)) (h64 : t.length ≤ 40) :
    bits BinOp.and IntKind.u64 (num t : Int) (IntKind.u64.wrap (IntKind.u64.wrap (2 ^ e) - 1)) = (num (t.drop (8 * (t.length / 8))) : Int) := by
  have h1 := num_lt t
  have h2 : 2 ^ t.length ≤ 2 ^ 40 := Nat.pow_le_pow_right (by omega) h64
  have he8 : e < 8 := by omega
  have h3 : 2 ^ e ≤ 2 ^ 7 := Nat.pow_le_pow_right (by omega) (by omega)
  have h4 : 0 < 2 ^ e := Nat.two_pow_pos e
  have e1 : (2 : Int) ^ e = ((2 ^ e : Nat) : Int) := by simp
  have e2 : IntKind.u64.wrap (IntKind.u64.wrap ((2 ^ e : Nat) : Int) - 1) = ((2 ^ e - 1 : Nat) : Int) := by
    generalize 2 ^ e = z at *
    simp only [IntKind.wrap, IntKind.bits, IntKind.signed]
    simp
    omega
  rw [e1, e2, u64_and_nat _ _ (by omega) (by omega), Nat.and_two_pow_sub_one_eq_mod, num_drop _ _ (by omega), he]
end Go.Proofs.YtgbcajglbpdgjaaDoor
