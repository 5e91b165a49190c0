/-
  PLAIN MATHEMATICS OF LAYER 2 (sums): no program is named here. Sums are words of 32 bits.
-/
import Derived.WalkKit
namespace Go.Proofs.YtnachbjhhpnadaaGreatDoor
namespace CrcM
open Go.RowKit

def poly : BitVec 32 := 79764919#32
/-- One step: shifted up by one, and the polynomial where a one went out. -/
def b1 (x : BitVec 32) : BitVec 32 := (x <<< 1) ^^^ (if x.msb then poly else 0#32)
/-- k steps. -/
def it : Nat → BitVec 32 → BitVec 32
  | 0, x => x
  | k + 1, x => b1 (it k x)
/-- A byte above 24 bits. -/
def up (b : Nat) : BitVec 32 := BitVec.ofNat 32 b <<< 24
def nx (s : BitVec 32) (b : UInt8) : BitVec 32 := it 8 (s ^^^ up b.toNat)
def run (s : BitVec 32) (l : List UInt8) : BitVec 32 := l.foldl nx s
/-- All bits turned. -/
def ng (x : BitVec 32) : BitVec 32 := ~~~ x
def crc (l : List UInt8) : BitVec 32 := ng (run (ng 0#32) l)
def rot (t : BitVec 32) : BitVec 32 := t.rotateLeft 1
def cmb (t b : BitVec 32) : BitVec 32 := rot t ^^^ b

theorem b1_xor (x y : BitVec 32) : b1 (x ^^^ y) = b1 x ^^^ b1 y := by
  unfold b1
  rw [BitVec.shiftLeft_xor_distrib, BitVec.msb_xor]
  cases hx : x.msb <;> cases hy : y.msb <;> simp
  · ac_rfl
  · ac_rfl
  · rw [show x <<< 1 ^^^ poly ^^^ (y <<< 1 ^^^ poly) = x <<< 1 ^^^ y <<< 1 ^^^ (poly ^^^ poly) by ac_rfl]; simp
theorem b1_zero : b1 0#32 = 0#32 := by decide
theorem it_xor (k : Nat) (x y : BitVec 32) : it k (x ^^^ y) = it k x ^^^ it k y := by
  induction k with
  | zero => rfl
  | succ k ih => simp only [it, ih, b1_xor]
theorem it_zero (k : Nat) : it k 0#32 = 0#32 := by
  induction k with
  | zero => rfl
  | succ k ih => simp only [it, ih, b1_zero]
theorem b1_eq_zero {x : BitVec 32} (h : b1 x = 0#32) : x = 0#32 := by
  unfold b1 at h
  by_cases hx : x.msb = true
  · rw [if_pos hx] at h
    have : (x <<< 1 ^^^ poly).getLsbD 0 = true := by simp [poly]
    rw [h] at this; simp at this
  · rw [if_neg hx] at h
    simp at hx
    simp only [BitVec.xor_zero] at h
    apply BitVec.eq_of_getLsbD_eq
    intro i hi
    by_cases h31 : i = 31
    · subst h31; simpa [BitVec.msb_eq_getLsbD_last] using hx
    · have := congrArg (fun v => v.getLsbD (i + 1)) h
      rw [BitVec.getLsbD_eq_getElem hi]
      simpa [show i + 1 < 32 by omega] using this
theorem it_eq_zero {k : Nat} {x : BitVec 32} (h : it k x = 0#32) : x = 0#32 := by
  induction k with
  | zero => exact h
  | succ k ih => exact ih (b1_eq_zero h)
theorem nx_zero (x : BitVec 32) : nx x 0 = it 8 x := by simp [nx, up]

/-- What a table makes of a step. -/
theorem low_it (s : BitVec 32) (k : Nat) (hk : k ≤ 8) : it k ((s <<< 8) >>> 8) = ((s <<< 8) >>> 8) <<< k := by
  induction k with
  | zero => simp [it]
  | succ k ih =>
    simp only [it, ih (by omega), b1]
    have : (((s <<< 8) >>> 8) <<< k).msb = false := by
      rw [BitVec.msb_eq_getLsbD_last]
      simp
      intro h
      omega
    rw [this]
    simp [← BitVec.shiftLeft_add]
theorem split (s : BitVec 32) : s = ((s >>> 24) <<< 24) ^^^ ((s <<< 8) >>> 8) := by
  apply BitVec.eq_of_getLsbD_eq
  intro i hi
  by_cases h : i < 24
  · simp [h, show 8 + i < 32 by omega, show i < 32 from hi]
  · have : ¬ (8 + i < 32) := by omega
    simp [h, this, hi, show 24 + (i - 24) = i by omega]
theorem back8 (s : BitVec 32) : ((s <<< 8) >>> 8) <<< 8 = s <<< 8 := by
  apply BitVec.eq_of_getLsbD_eq
  intro i hi
  by_cases h : i < 8
  · simp [h]
  · simp [h, hi, show 8 + (i - 8) = i by omega]
theorem table_step (s : BitVec 32) (b : UInt8) (i : Nat) (hi : BitVec.ofNat 32 i = (s >>> 24) ^^^ BitVec.ofNat 32 b.toNat) :
    (s <<< 8) ^^^ it 8 (up i) = nx s b := by
  unfold nx up
  rw [hi, BitVec.shiftLeft_xor_distrib, it_xor, it_xor]
  conv => rhs; rw [split s]
  rw [it_xor, low_it s 8 (by omega), back8]
  ac_rfl

theorem run_append (s : BitVec 32) (a b : List UInt8) : run s (a ++ b) = run (run s a) b := by simp [run, List.foldl_append]
theorem run_snoc (s : BitVec 32) (a : List UInt8) (c : UInt8) : run s (a ++ [c]) = nx (run s a) c := by simp [run, List.foldl_append]

/-! ### The walk's spellings -/
theorem bits_xor (a b : BitVec 32) : bits BinOp.xor IntKind.u32 (a.toNat : Int) (b.toNat : Int) = ((a ^^^ b).toNat : Int) := by
  rw [u32_xor_nat _ _ a.isLt b.isLt, BitVec.toNat_xor]
theorem toNat_dbl (x : BitVec 32) : (x.toNat : Int) * (2 : Int) % (4294967296 : Int) = ((x <<< 1).toNat : Int) := by
  simp [BitVec.toNat_shiftLeft, Nat.shiftLeft_eq]
theorem msb_hi (x : BitVec 32) : x.msb = true ↔ 2147483648 ≤ x.toNat := by
  rw [BitVec.msb_eq_decide]; simp
theorem b1_code (x : BitVec 32) : bits BinOp.xor IntKind.u32 ((x.toNat : Int) * 2 % 4294967296) ((x.toNat : Int) / 2147483648 * 79764919) = ((b1 x).toNat : Int) := by
  have hx := x.isLt
  have : (x.toNat : Int) / (2147483648 : Int) * (79764919 : Int) = (((if x.msb then poly else 0#32) : BitVec 32).toNat : Int) := by
    by_cases h : x.msb = true
    · have := (msb_hi x).1 h
      rw [if_pos h]
      have e : (x.toNat : Int) / 2147483648 = 1 := by omega
      rw [e]; rfl
    · have h' : ¬ 2147483648 ≤ x.toNat := fun g => h ((msb_hi x).2 g)
      rw [if_neg h]
      have e : (x.toNat : Int) / 2147483648 = 0 := by omega
      rw [e]; rfl
  rw [toNat_dbl, this, bits_xor]; rfl
theorem b1_ref_hi (x : BitVec 32) (h : 2147483648 ≤ (x.toNat : Int)) : bits BinOp.xor IntKind.u32 (((x.toNat : Int) - 2147483648) * 2) 79764919 = ((b1 x).toNat : Int) := by
  have hx := x.isLt
  have e : ((x.toNat : Int) - (2147483648 : Int)) * (2 : Int) = ((x <<< 1).toNat : Int) := by rw [← toNat_dbl]; omega
  have e2 : (79764919 : Int) = (poly.toNat : Int) := rfl
  rw [e, e2, bits_xor]
  unfold b1
  rw [if_pos ((msb_hi x).2 (by omega))]
theorem b1_ref_lo (x : BitVec 32) (h : (x.toNat : Int) < 2147483648) : (x.toNat : Int) * (2 : Int) = ((b1 x).toNat : Int) := by
  unfold b1
  rw [if_neg (fun g => by have := (msb_hi x).1 g; omega)]
  simp only [BitVec.xor_zero]
  rw [← toNat_dbl]; omega
theorem up_code (b : Nat) (h : b < 256) : (b : Int) * (16777216 : Int) = ((up b).toNat : Int) := by
  unfold up
  simp [BitVec.toNat_shiftLeft, Nat.shiftLeft_eq]
  omega
theorem idx_of (X : BitVec 32) (b : UInt8) : ∃ i : Nat, i < 256 ∧ bits BinOp.xor IntKind.u8 ((X.toNat : Int) / (16777216 : Int)) (b.toNat : Int) = (i : Int) ∧ BitVec.ofNat 32 i = (X >>> 24) ^^^ BitVec.ofNat 32 b.toNat := by
  have hX := X.isLt
  have hb := b.toNat_lt
  refine ⟨(X.toNat / 16777216) ^^^ b.toNat, Nat.xor_lt_two_pow (n := 8) (by omega) (by omega), ?_, ?_⟩
  · rw [show (X.toNat : Int) / (16777216 : Int) = ((X.toNat / 16777216 : Nat) : Int) by omega, u8_xor_nat _ _ (by omega) (by omega)]
  · apply BitVec.eq_of_toNat_eq
    rw [BitVec.toNat_xor, BitVec.toNat_ushiftRight, BitVec.toNat_ofNat, BitVec.toNat_ofNat, Nat.shiftRight_eq_div_pow]
    have h8 : (X.toNat / 16777216) ^^^ b.toNat < 256 := Nat.xor_lt_two_pow (n := 8) (by omega) (by omega)
    rw [Nat.mod_eq_of_lt (by omega), Nat.mod_eq_of_lt (by omega : b.toNat < 2 ^ 32)]
theorem toNat_sh8 (x : BitVec 32) : (x.toNat : Int) * (256 : Int) % (4294967296 : Int) = ((x <<< 8).toNat : Int) := by
  simp [BitVec.toNat_shiftLeft, Nat.shiftLeft_eq]
theorem nx_code (X : BitVec 32) (b : UInt8) (i : Nat) (hi : BitVec.ofNat 32 i = (X >>> 24) ^^^ BitVec.ofNat 32 b.toNat) :
    bits BinOp.xor IntKind.u32 ((X.toNat : Int) * 256 % 4294967296) ((it 8 (up i)).toNat : Int) = ((nx X b).toNat : Int) := by
  rw [toNat_sh8, bits_xor, table_step X b i hi]
theorem xor_up (X : BitVec 32) (b : UInt8) : bits BinOp.xor IntKind.u32 (X.toNat : Int) ((b.toNat : Int) * 16777216) = ((X ^^^ up b.toNat).toNat : Int) := by
  rw [up_code _ b.toNat_lt, bits_xor]
theorem ng_max (x : BitVec 32) : bits BinOp.xor IntKind.u32 IntKind.u32.max (x.toNat : Int) = ((ng x).toNat : Int) := by
  have e : IntKind.u32.max = (((4294967295#32 : BitVec 32).toNat : Nat) : Int) := by decide
  rw [e, bits_xor]
  congr 2
theorem ng_sub (x : BitVec 32) : (4294967295 : Int) - (x.toNat : Int) = ((ng x).toNat : Int) := by
  have := x.isLt
  unfold ng
  rw [BitVec.toNat_not]; omega
theorem ng_ng (x : BitVec 32) : ng (ng x) = x := by simp [ng]
theorem crc_nil : crc [] = 0#32 := by decide
end CrcM
end Go.Proofs.YtnachbjhhpnadaaGreatDoor
