/-
  PLAIN MATHEMATICS OF LAYER 1 (bits): rows of bits as lists of Bools. No program is named here.
-/
import Derived.WalkKit
namespace Go.Proofs.YtnachbjhhpnadaaGreatDoor
namespace BitM
open Go.RowKit

def bn (b : Bool) : Nat := if b then 1 else 0
/-- The number of a row of bits. -/
def num (l : List Bool) : Nat := l.foldl (fun a b => 2 * a + bn b) 0
theorem num_from (l : List Bool) : ∀ a, l.foldl (fun a b => 2 * a + bn b) a = a * 2 ^ l.length + num l := by
  induction l with
  | nil => intro a; simp [num]
  | cons b l ih =>
    intro a
    have h0 : num (b :: l) = bn b * 2 ^ l.length + num l := by
      show l.foldl _ (2 * 0 + bn b) = _
      rw [ih]; simp
    rw [List.foldl_cons, ih, h0, List.length_cons, Nat.pow_succ, Nat.add_mul, Nat.add_assoc]
    congr 1
    rw [Nat.mul_comm 2 a, Nat.mul_assoc, Nat.mul_comm 2]
theorem num_append (l m : List Bool) : num (l ++ m) = num l * 2 ^ m.length + num m := by
  show (l ++ m).foldl _ 0 = _
  rw [List.foldl_append]
  exact num_from m _
theorem num_nil : num [] = 0 := rfl
theorem num_snoc (l : List Bool) (b : Bool) : num (l ++ [b]) = 2 * num l + bn b := by
  rw [num_append]
  show num l * 2 ^ 1 + (2 * 0 + bn b) = _
  omega
theorem bn_lt (b : Bool) : bn b < 2 := by cases b <;> decide
theorem num_lt (l : List Bool) : num l < 2 ^ l.length := by
  induction l with
  | nil => decide
  | cons b l ih =>
    have e : num (b :: l) = bn b * 2 ^ l.length + num l := by
      show l.foldl _ (2 * 0 + bn b) = _
      rw [num_from]; simp
    have hb := bn_lt b
    rw [e, List.length_cons, Nat.pow_succ]
    have : bn b * 2 ^ l.length ≤ 1 * 2 ^ l.length := Nat.mul_le_mul_right _ (by omega)
    omega
theorem num_take (l : List Bool) (m : Nat) (_h : m ≤ l.length) : num (l.take m) = num l / 2 ^ (l.length - m) := by
  conv => rhs; rw [← List.take_append_drop m l, num_append]
  have hl : (l.drop m).length = l.length - m := by simp
  rw [hl]
  have h2 : (l.take m ++ l.drop m).length - m = l.length - m := by rw [List.take_append_drop]
  rw [h2, Nat.mul_comm, Nat.mul_add_div (Nat.two_pow_pos _), Nat.div_eq_of_lt (by have := num_lt (l.drop m); rwa [hl] at this)]
  rfl
theorem num_drop (l : List Bool) (m : Nat) (_h : m ≤ l.length) : num (l.drop m) = num l % 2 ^ (l.length - m) := by
  conv => rhs; rw [← List.take_append_drop m l, num_append]
  have hl : (l.drop m).length = l.length - m := by simp
  have h2 : (l.take m ++ l.drop m).length - m = l.length - m := by rw [List.take_append_drop]
  rw [hl, h2, Nat.mul_add_mod_self_right, Nat.mod_eq_of_lt (by have := num_lt (l.drop m); rwa [hl] at this)]
theorem num_mid (l : List Bool) (i n : Nat) (h : i + n ≤ l.length) : num ((l.drop i).take n) = num l / 2 ^ (l.length - i - n) % 2 ^ n := by
  rw [num_take _ _ (by simp; omega), num_drop _ _ (by omega), List.length_drop]
  have e : 2 ^ (l.length - i) = 2 ^ (l.length - i - n) * 2 ^ n := by rw [← Nat.pow_add]; congr 1; omega
  rw [e, Nat.mod_mul_right_div_self]

/-- A field: the lowest n bits of v, the highest one first. -/
def field (v : Nat) : Nat → List Bool
  | 0 => []
  | n + 1 => field (v / 2) n ++ [v % 2 == 1]
theorem field_length (v n : Nat) : (field v n).length = n := by
  induction n generalizing v with
  | zero => rfl
  | succ n ih => simp [field, ih]
theorem field_num (v n : Nat) : num (field v n) = v % 2 ^ n := by
  induction n generalizing v with
  | zero => simp [field, num, Nat.mod_one]
  | succ n ih =>
    rw [field, num_snoc, ih]
    have hb : bn (v % 2 == 1) = v % 2 := by
      have : v % 2 = 0 ∨ v % 2 = 1 := by omega
      rcases this with h | h <;> simp [h, bn]
    rw [hb, Nat.pow_succ, Nat.mul_comm (2 ^ n) 2, Nat.mod_mul]
    omega
theorem num_inj : ∀ (l m : List Bool), l.length = m.length → num l = num m → l = m
  | [], [], _, _ => rfl
  | a :: l, b :: m, hl, h => by
    have hl' : l.length = m.length := by simpa using hl
    have e1 : num (a :: l) = bn a * 2 ^ l.length + num l := by show l.foldl _ (2 * 0 + bn a) = _; rw [num_from]; simp
    have e2 : num (b :: m) = bn b * 2 ^ m.length + num m := by show m.foldl _ (2 * 0 + bn b) = _; rw [num_from]; simp
    have l1 := num_lt l
    have l2 := num_lt m
    rw [e1, e2, ← hl'] at h
    rw [← hl'] at l2
    have hab : a = b := by
      cases a <;> cases b <;> simp [bn] at h ⊢ <;> omega
    subst hab
    rw [num_inj l m hl' (by omega)]
theorem field_of (l : List Bool) : field (num l) l.length = l :=
  num_inj _ _ (by rw [field_length]) (by rw [field_num, Nat.mod_eq_of_lt (num_lt l)])

/-- The whole bytes of a row of bits. -/
def byts (q : List Bool) : List UInt8 := (List.range (q.length / 8)).map fun i => UInt8.ofNat (num ((q.drop (8 * i)).take 8))
theorem byts_length (q : List Bool) : (byts q).length = q.length / 8 := by simp [byts]
/-- The bits behind the whole bytes. -/
def tail (q : List Bool) : List Bool := q.drop (8 * (q.length / 8))
theorem tail_length (q : List Bool) : (tail q).length = q.length % 8 := by simp [tail]; omega
theorem byts_append (q f : List Bool) : byts (q ++ f) = byts q ++ byts (tail q ++ f) := by
  have h1 : (q ++ f).length / 8 = q.length / 8 + (tail q ++ f).length / 8 := by
    rw [List.length_append, List.length_append, tail_length]; omega
  unfold byts
  rw [h1, List.range_add, List.map_append, List.map_map]
  congr 1
  · apply List.map_congr_left
    intro i hi
    have hi' := List.mem_range.1 hi
    rw [List.drop_append_of_le_length (by omega), List.take_append_of_le_length (by simp; omega)]
  · apply List.map_congr_left
    intro i _
    show UInt8.ofNat _ = UInt8.ofNat _
    have : (q ++ f).drop (8 * (q.length / 8 + i)) = (tail q ++ f).drop (8 * i) := by
      unfold tail
      rw [Nat.mul_add, ← List.drop_drop, List.drop_append_of_le_length (by omega : 8 * (q.length / 8) ≤ q.length)]
    rw [this]
theorem tail_append (q f : List Bool) : tail (q ++ f) = (tail q ++ f).drop (8 * ((tail q ++ f).length / 8)) := by
  have h1 : (q ++ f).length / 8 = q.length / 8 + (tail q ++ f).length / 8 := by
    rw [List.length_append, List.length_append, tail_length]; omega
  show (q ++ f).drop (8 * ((q ++ f).length / 8)) = _
  rw [h1, Nat.mul_add, ← List.drop_drop, List.drop_append_of_le_length (by omega : 8 * (q.length / 8) ≤ q.length)]
  rfl
theorem byte_at (t : List Bool) (j : Nat) (h : 8 * j + 8 ≤ t.length) : num ((t.drop (8 * j)).take 8) = num t / 2 ^ (t.length - 8 * j - 8) % 256 := num_mid t (8 * j) 8 h
/-- The bits of bytes. -/
def bitsOf (l : List UInt8) : List Bool := l.flatMap fun c => field c.toNat 8
theorem bitsOf_length (l : List UInt8) : (bitsOf l).length = 8 * l.length := by
  induction l with
  | nil => rfl
  | cons c l ih =>
    show (field c.toNat 8 ++ bitsOf l).length = _
    rw [List.length_append, field_length, ih, List.length_cons]; omega
theorem bitsOf_append (a b : List UInt8) : bitsOf (a ++ b) = bitsOf a ++ bitsOf b := by simp [bitsOf]
theorem bitsOf_take (l : List UInt8) (n : Nat) : bitsOf (l.take n) = (bitsOf l).take (8 * n) := by
  by_cases h : n ≤ l.length
  · conv => rhs; rw [← List.take_append_drop n l, bitsOf_append]
    rw [List.take_left' (by rw [bitsOf_length]; simp; omega)]
  · rw [List.take_of_length_le (by omega), List.take_of_length_le (by rw [bitsOf_length]; omega)]
theorem bitsOf_drop (l : List UInt8) (n : Nat) : bitsOf (l.drop n) = (bitsOf l).drop (8 * n) := by
  by_cases h : n ≤ l.length
  · conv => rhs; rw [← List.take_append_drop n l, bitsOf_append]
    rw [List.drop_left' (by rw [bitsOf_length]; simp; omega)]
  · rw [List.drop_of_length_le (by omega), List.drop_of_length_le (by rw [bitsOf_length]; omega)]; rfl
theorem byts_eight (t : List Bool) (h : t.length = 8) : byts t = [UInt8.ofNat (num t)] ∧ tail t = [] := by
  constructor
  · unfold byts; rw [h]; simp [List.take_of_length_le (Nat.le_of_eq h)]
  · unfold tail; rw [h]; exact List.drop_of_length_le (by omega)
theorem bitsOf_byts : ∀ (n : Nat) (q : List Bool), q.length = 8 * n → bitsOf (byts q) = q
  | 0, q, h => by
    obtain rfl : q = [] := List.eq_nil_of_length_eq_zero (by omega)
    rfl
  | n + 1, q, h => by
    have h8 : (q.take 8).length = 8 := by simp; omega
    obtain ⟨e1, e2⟩ := byts_eight (q.take 8) h8
    have hq : byts q = UInt8.ofNat (num (q.take 8)) :: byts (q.drop 8) := by
      conv => lhs; rw [← List.take_append_drop 8 q, byts_append, e1, e2]
      rfl
    rw [hq]
    show field (UInt8.ofNat (num (q.take 8))).toNat 8 ++ bitsOf (byts (q.drop 8)) = q
    rw [bitsOf_byts n (q.drop 8) (by simp; omega)]
    have hlt := num_lt (q.take 8)
    rw [h8] at hlt
    have e3 : (UInt8.ofNat (num (q.take 8))).toNat = num (q.take 8) := by rw [UInt8.toNat_ofNat']; exact Nat.mod_eq_of_lt hlt
    have e4 : field (num (q.take 8)) 8 = q.take 8 := by
      have := field_of (q.take 8)
      rwa [h8] at this
    rw [e3, e4, List.take_append_drop]
/-- What a reader gets out of the bytes that hold the next n bits. -/
theorem get_math (l : List UInt8) (fr n : Nat) (h : fr + n ≤ 8 * l.length) :
    num (bitsOf ((l.drop (fr / 8)).take ((fr + n + 7) / 8 - fr / 8))) / 2 ^ ((8 - (fr + n) % 8) % 8) % 2 ^ n = num (((bitsOf l).drop fr).take n) := by
  have hc : (bitsOf ((l.drop (fr / 8)).take ((fr + n + 7) / 8 - fr / 8))).length = 8 * ((fr + n + 7) / 8 - fr / 8) := by
    rw [bitsOf_length, List.length_take, List.length_drop]; omega
  have h1 := num_mid (bitsOf ((l.drop (fr / 8)).take ((fr + n + 7) / 8 - fr / 8))) (fr % 8) n (by rw [hc]; omega)
  rw [hc, show 8 * ((fr + n + 7) / 8 - fr / 8) - fr % 8 - n = (8 - (fr + n) % 8) % 8 by omega] at h1
  rw [← h1, bitsOf_take, bitsOf_drop, List.drop_take, List.drop_drop, List.take_take]
  rw [show 8 * (fr / 8) + fr % 8 = fr by omega, show min n (8 * ((fr + n + 7) / 8 - fr / 8) - fr % 8) = n by omega]
theorem num_bitsOf_snoc (l : List UInt8) (c : UInt8) : num (bitsOf (l ++ [c])) = num (bitsOf l) * 256 + c.toNat := by
  rw [bitsOf_append, num_append]
  have : bitsOf [c] = field c.toNat 8 := by simp [bitsOf]
  rw [this, field_length, field_num, Nat.mod_eq_of_lt (by have := c.toNat_lt; omega)]
end BitM
end Go.Proofs.YtnachbjhhpnadaaGreatDoor
