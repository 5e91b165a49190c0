/-
  MERGED by seg.py out of: BitsMath PkMath UsedMath MtfMath LawKit ToI PkMathB DelMath DelMathB HufMath HufMathB LenMath CanMath CanMathB.
-/
import Derived.WalkKit
import Derived.Lib.BytesEntry
import Derived.Lib.IndexLaws
import Derived.Test.YtojphcoghbiepaaGreatDoorRows
import Derived.WalkSpells
import Derived.WalkLawsBesides
import Derived.ProofKit
import Derived.OpenShut
import Derived.ShutString
import Derived.ChangeOld
import Derived.Below
import Derived.Lib.Hide
import Derived.BigQuiet
import Derived.SliceStrings
namespace Go.Proofs.YtojphcoghbiepaaGreatDoor
namespace BitM
open Go.RowKit

def bn (b : Bool) : Nat := if b then 1 else 0
/-- The number of a row of bits. -/
def num (l : List Bool) : Nat := l.foldl (fun a b => 2 * a + bn b) 0
theorem num_from (l : List Bool) : ∀ a, l.foldl (fun a b => 2 * a + bn b) a = a * 2 ^ l.length + num l := by
  induction l with
  | nil => intro a; simp [num]
  | cons b l ih =>
    intro a
    have h0 : num (b :: l) = bn b * 2 ^ l.length + num l := by
      show l.foldl _ (2 * 0 + bn b) = _
      rw [ih]; simp
    rw [List.foldl_cons, ih, h0, List.length_cons, Nat.pow_succ, Nat.add_mul, Nat.add_assoc]
    congr 1
    rw [Nat.mul_comm 2 a, Nat.mul_assoc, Nat.mul_comm 2]
theorem num_append (l m : List Bool) : num (l ++ m) = num l * 2 ^ m.length + num m := by
  show (l ++ m).foldl _ 0 = _
  rw [List.foldl_append]
  exact num_from m _
theorem num_snoc (l : List Bool) (b : Bool) : num (l ++ [b]) = 2 * num l + bn b := by
  rw [num_append]
  show num l * 2 ^ 1 + (2 * 0 + bn b) = _
  omega
theorem bn_lt (b : Bool) : bn b < 2 := by cases b <;> decide
theorem num_lt (l : List Bool) : num l < 2 ^ l.length := by
  induction l with
  | nil => decide
  | cons b l ih =>
    have e : num (b :: l) = bn b * 2 ^ l.length + num l := by
      show l.foldl _ (2 * 0 + bn b) = _
      rw [num_from]; simp
    have hb := bn_lt b
    rw [e, List.length_cons, Nat.pow_succ]
    have : bn b * 2 ^ l.length ≤ 1 * 2 ^ l.length := Nat.mul_le_mul_right _ (by omega)
    omega
theorem num_take (l : List Bool) (m : Nat) (_h : m ≤ l.length) : num (l.take m) = num l / 2 ^ (l.length - m) := by
  conv => rhs; rw [← List.take_append_drop m l, num_append]
  have hl : (l.drop m).length = l.length - m := by simp
  rw [hl]
  have h2 : (l.take m ++ l.drop m).length - m = l.length - m := by rw [List.take_append_drop]
  rw [h2, Nat.mul_comm, Nat.mul_add_div (Nat.two_pow_pos _), Nat.div_eq_of_lt (by have := num_lt (l.drop m); rwa [hl] at this)]
  rfl
theorem num_drop (l : List Bool) (m : Nat) (_h : m ≤ l.length) : num (l.drop m) = num l % 2 ^ (l.length - m) := by
  conv => rhs; rw [← List.take_append_drop m l, num_append]
  have hl : (l.drop m).length = l.length - m := by simp
  have h2 : (l.take m ++ l.drop m).length - m = l.length - m := by rw [List.take_append_drop]
  rw [hl, h2, Nat.mul_add_mod_self_right, Nat.mod_eq_of_lt (by have := num_lt (l.drop m); rwa [hl] at this)]
theorem num_mid (l : List Bool) (i n : Nat) (h : i + n ≤ l.length) : num ((l.drop i).take n) = num l / 2 ^ (l.length - i - n) % 2 ^ n := by
  rw [num_take _ _ (by simp; omega), num_drop _ _ (by omega), List.length_drop]
  have e : 2 ^ (l.length - i) = 2 ^ (l.length - i - n) * 2 ^ n := by rw [← Nat.pow_add]; congr 1; omega
  rw [e, Nat.mod_mul_right_div_self]

/-- A field: the lowest n bits of v, the highest one first. -/
def field (v : Nat) : Nat → List Bool
  | 0 => []
  | n + 1 => field (v / 2) n ++ [v % 2 == 1]
theorem field_length (v n : Nat) : (field v n).length = n := by
  induction n generalizing v with
  | zero => rfl
  | succ n ih => simp [field, ih]
theorem field_num (v n : Nat) : num (field v n) = v % 2 ^ n := by
  induction n generalizing v with
  | zero => simp [field, num, Nat.mod_one]
  | succ n ih =>
    rw [field, num_snoc, ih]
    have hb : bn (v % 2 == 1) = v % 2 := by
      have : v % 2 = 0 ∨ v % 2 = 1 := by omega
      rcases this with h | h <;> simp [h, bn]
    rw [hb, Nat.pow_succ, Nat.mul_comm (2 ^ n) 2, Nat.mod_mul]
    omega
theorem num_inj : ∀ (l m : List Bool), l.length = m.length → num l = num m → l = m
  | [], [], _, _ => rfl
  | a :: l, b :: m, hl, h => by
    have hl' : l.length = m.length := by simpa using hl
    have e1 : num (a :: l) = bn a * 2 ^ l.length + num l := by show l.foldl _ (2 * 0 + bn a) = _; rw [num_from]; simp
    have e2 : num (b :: m) = bn b * 2 ^ m.length + num m := by show m.foldl _ (2 * 0 + bn b) = _; rw [num_from]; simp
    have l1 := num_lt l
    have l2 := num_lt m
    rw [e1, e2, ← hl'] at h
    rw [← hl'] at l2
    have hab : a = b := by
      cases a <;> cases b <;> simp [bn] at h ⊢ <;> omega
    subst hab
    rw [num_inj l m hl' (by omega)]
theorem field_of (l : List Bool) : field (num l) l.length = l :=
  num_inj _ _ (by rw [field_length]) (by rw [field_num, Nat.mod_eq_of_lt (num_lt l)])

/-- The whole bytes of a row of bits. -/
def byts (q : List Bool) : List UInt8 := (List.range (q.length / 8)).map fun i => UInt8.ofNat (num ((q.drop (8 * i)).take 8))
theorem byts_length (q : List Bool) : (byts q).length = q.length / 8 := by simp [byts]
/-- The bits behind the whole bytes. -/
def tail (q : List Bool) : List Bool := q.drop (8 * (q.length / 8))
theorem tail_length (q : List Bool) : (tail q).length = q.length % 8 := by simp [tail]; omega
theorem byts_append (q f : List Bool) : byts (q ++ f) = byts q ++ byts (tail q ++ f) := by
  have h1 : (q ++ f).length / 8 = q.length / 8 + (tail q ++ f).length / 8 := by
    rw [List.length_append, List.length_append, tail_length]; omega
  unfold byts
  rw [h1, List.range_add, List.map_append, List.map_map]
  congr 1
  · apply List.map_congr_left
    intro i hi
    have hi' := List.mem_range.1 hi
    rw [List.drop_append_of_le_length (by omega), List.take_append_of_le_length (by simp; omega)]
  · apply List.map_congr_left
    intro i _
    show UInt8.ofNat _ = UInt8.ofNat _
    have : (q ++ f).drop (8 * (q.length / 8 + i)) = (tail q ++ f).drop (8 * i) := by
      unfold tail
      rw [Nat.mul_add, ← List.drop_drop, List.drop_append_of_le_length (by omega : 8 * (q.length / 8) ≤ q.length)]
    rw [this]
theorem tail_append (q f : List Bool) : tail (q ++ f) = (tail q ++ f).drop (8 * ((tail q ++ f).length / 8)) := by
  have h1 : (q ++ f).length / 8 = q.length / 8 + (tail q ++ f).length / 8 := by
    rw [List.length_append, List.length_append, tail_length]; omega
  show (q ++ f).drop (8 * ((q ++ f).length / 8)) = _
  rw [h1, Nat.mul_add, ← List.drop_drop, List.drop_append_of_le_length (by omega : 8 * (q.length / 8) ≤ q.length)]
  rfl
theorem byte_at (t : List Bool) (j : Nat) (h : 8 * j + 8 ≤ t.length) : num ((t.drop (8 * j)).take 8) = num t / 2 ^ (t.length - 8 * j - 8) % 256 := num_mid t (8 * j) 8 h
/-- The bits of bytes. -/
def bitsOf (l : List UInt8) : List Bool := l.flatMap fun c => field c.toNat 8
theorem bitsOf_length (l : List UInt8) : (bitsOf l).length = 8 * l.length := by
  induction l with
  | nil => rfl
  | cons c l ih =>
    show (field c.toNat 8 ++ bitsOf l).length = _
    rw [List.length_append, field_length, ih, List.length_cons]; omega
theorem bitsOf_append (a b : List UInt8) : bitsOf (a ++ b) = bitsOf a ++ bitsOf b := by simp [bitsOf]
theorem bitsOf_take (l : List UInt8) (n : Nat) : bitsOf (l.take n) = (bitsOf l).take (8 * n) := by
  by_cases h : n ≤ l.length
  · conv => rhs; rw [← List.take_append_drop n l, bitsOf_append]
    rw [List.take_left' (by rw [bitsOf_length]; simp; omega)]
  · rw [List.take_of_length_le (by omega), List.take_of_length_le (by rw [bitsOf_length]; omega)]
theorem bitsOf_drop (l : List UInt8) (n : Nat) : bitsOf (l.drop n) = (bitsOf l).drop (8 * n) := by
  by_cases h : n ≤ l.length
  · conv => rhs; rw [← List.take_append_drop n l, bitsOf_append]
    rw [List.drop_left' (by rw [bitsOf_length]; simp; omega)]
  · rw [List.drop_of_length_le (by omega), List.drop_of_length_le (by rw [bitsOf_length]; omega)]; rfl
theorem byts_eight (t : List Bool) (h : t.length = 8) : byts t = [UInt8.ofNat (num t)] ∧ tail t = [] := by
  constructor
  · unfold byts; rw [h]; simp [List.take_of_length_le (Nat.le_of_eq h)]
  · unfold tail; rw [h]; exact List.drop_of_length_le (by omega)
theorem bitsOf_byts : ∀ (n : Nat) (q : List Bool), q.length = 8 * n → bitsOf (byts q) = q
  | 0, q, h => by
    obtain rfl : q = [] := List.eq_nil_of_length_eq_zero (by omega)
    rfl
  | n + 1, q, h => by
    have h8 : (q.take 8).length = 8 := by simp; omega
    obtain ⟨e1, e2⟩ := byts_eight (q.take 8) h8
    have hq : byts q = UInt8.ofNat (num (q.take 8)) :: byts (q.drop 8) := by
      conv => lhs; rw [← List.take_append_drop 8 q, byts_append, e1, e2]
      rfl
    rw [hq]
    show field (UInt8.ofNat (num (q.take 8))).toNat 8 ++ bitsOf (byts (q.drop 8)) = q
    rw [bitsOf_byts n (q.drop 8) (by simp; omega)]
    have hlt := num_lt (q.take 8)
    rw [h8] at hlt
    have e3 : (UInt8.ofNat (num (q.take 8))).toNat = num (q.take 8) := by rw [UInt8.toNat_ofNat']; exact Nat.mod_eq_of_lt hlt
    have e4 : field (num (q.take 8)) 8 = q.take 8 := by
      have := field_of (q.take 8)
      rwa [h8] at this
    rw [e3, e4, List.take_append_drop]
/-- What a reader gets out of the bytes that hold the next n bits. -/
theorem get_math (l : List UInt8) (fr n : Nat) (h : fr + n ≤ 8 * l.length) :
    num (bitsOf ((l.drop (fr / 8)).take ((fr + n + 7) / 8 - fr / 8))) / 2 ^ ((8 - (fr + n) % 8) % 8) % 2 ^ n = num (((bitsOf l).drop fr).take n) := by
  have hc : (bitsOf ((l.drop (fr / 8)).take ((fr + n + 7) / 8 - fr / 8))).length = 8 * ((fr + n + 7) / 8 - fr / 8) := by
    rw [bitsOf_length, List.length_take, List.length_drop]; omega
  have h1 := num_mid (bitsOf ((l.drop (fr / 8)).take ((fr + n + 7) / 8 - fr / 8))) (fr % 8) n (by rw [hc]; omega)
  rw [hc, show 8 * ((fr + n + 7) / 8 - fr / 8) - fr % 8 - n = (8 - (fr + n) % 8) % 8 by omega] at h1
  rw [← h1, bitsOf_take, bitsOf_drop, List.drop_take, List.drop_drop, List.take_take]
  rw [show 8 * (fr / 8) + fr % 8 = fr by omega, show min n (8 * ((fr + n + 7) / 8 - fr / 8) - fr % 8) = n by omega]
theorem num_bitsOf_snoc (l : List UInt8) (c : UInt8) : num (bitsOf (l ++ [c])) = num (bitsOf l) * 256 + c.toNat := by
  rw [bitsOf_append, num_append]
  have : bitsOf [c] = field c.toNat 8 := by simp [bitsOf]
  rw [this, field_length, field_num, Nat.mod_eq_of_lt (by have := c.toNat_lt; omega)]
end BitM
end Go.Proofs.YtojphcoghbiepaaGreatDoor
namespace Go.Proofs.YtojphcoghbiepaaGreatDoor
namespace PkM
open Go.RowKit BitM
set_option linter.unusedVariables false
/-- What stands at place i goes to the front. -/
def tch (o : List Nat) (i : Nat) : List Nat := (o.drop i).take 1 ++ o.take i ++ o.drop (i + 1)
theorem tch_cons (o : List Nat) (i : Nat) (h : i < o.length) : tch o i = o[i] :: (o.take i ++ o.drop (i + 1)) := by
  unfold tch
  rw [List.drop_eq_getElem_cons h, List.append_assoc]
  rfl
theorem tch_length (o : List Nat) (i : Nat) (h : i < o.length) : (tch o i).length = o.length := by
  rw [tch_cons o i h]
  simp
  omega
/-- How many bits 1 bits begin with. -/
def lead : List Bool → Nat
  | true :: q => lead q + 1
  | _ => 0
theorem lead_le : ∀ q : List Bool, lead q ≤ q.length
  | [] => Nat.le_refl _
  | false :: q => Nat.zero_le _
  | true :: q => by
    have := lead_le q
    simp only [lead, List.length_cons]
    omega
theorem lead_rep (q : List Bool) : ∀ n, lead (List.replicate n true ++ false :: q) = n
  | 0 => rfl
  | n + 1 => by
    rw [List.replicate_succ, List.cons_append, lead, lead_rep q n]
/-- Bits that come behind change nothing where a 0 is there. -/
theorem lead_app : ∀ (q r : List Bool), lead q < q.length → lead (q ++ r) = lead q
  | [], r, h => absurd h (Nat.lt_irrefl _)
  | false :: q, r, _ => rfl
  | true :: q, r, h => by
    simp only [lead, List.length_cons] at h
    rw [List.cons_append, lead, lead, lead_app q r (by omega)]
theorem lead_ge : ∀ (q r : List Bool), lead q ≤ lead (q ++ r)
  | [], r => Nat.zero_le _
  | false :: q, r => Nat.zero_le _
  | true :: q, r => by
    rw [List.cons_append, lead, lead]
    have := lead_ge q r
    omega
/-! ### Writing -/
def enc : List Nat → List Nat → List Bool
  | _, [] => []
  | o, p :: t => List.replicate (o.idxOf p) true ++ false :: enc (tch o (o.idxOf p)) t
/-- The order behind picks. -/
def ord : List Nat → List Nat → List Nat
  | o, [] => o
  | o, p :: t => ord (tch o (o.idxOf p)) t
theorem enc_app : ∀ (o l m : List Nat), enc o (l ++ m) = enc o l ++ enc (ord o l) m
  | o, [], m => rfl
  | o, p :: t, m => by
    rw [List.cons_append, enc, enc, ord, enc_app, List.append_assoc]
    rfl
theorem ord_app : ∀ (o l m : List Nat), ord o (l ++ m) = ord (ord o l) m
  | o, [], m => rfl
  | o, p :: t, m => by rw [List.cons_append, ord, ord, ord_app]
/-- The first t places hold the numbers below t, and nothing else. -/
def Ord (t : Nat) (o : List Nat) : Prop := o.length = 6 ∧ ∀ x, x < t ↔ x ∈ o.take t
theorem Ord.start {t : Nat} (h : t ≤ 6) : Ord t [0, 1, 2, 3, 4, 5] := by
  refine ⟨rfl, fun x => ?_⟩
  rcases (by omega : t = 0 ∨ t = 1 ∨ t = 2 ∨ t = 3 ∨ t = 4 ∨ t = 5 ∨ t = 6) with rfl | rfl | rfl | rfl | rfl | rfl | rfl <;> simp <;> omega
theorem Ord.place {t : Nat} {o : List Nat} (h : Ord t o) (ht : t ≤ 6) {p : Nat} (hp : p < t) : o.idxOf p < t ∧ o[o.idxOf p]? = some p := by
  have hm := (h.2 p).1 hp
  have h1 : o.idxOf p = (o.take t).idxOf p := by
    conv => lhs; rw [← List.take_append_drop t o]
    rw [List.idxOf_append, if_pos hm]
  have h2 : (o.take t).idxOf p < (o.take t).length := List.idxOf_lt_length_of_mem hm
  have h3 : (o.take t).length = t := by rw [List.length_take, h.1]; omega
  refine ⟨by omega, ?_⟩
  have h4 : p ∈ o := List.mem_of_mem_take hm
  rw [List.getElem?_eq_getElem (List.idxOf_lt_length_of_mem h4), List.getElem_idxOf]
theorem Ord.tch {t : Nat} {o : List Nat} (h : Ord t o) (ht : t ≤ 6) {i : Nat} (hi : i < t) : Ord t (tch o i) := by
  have hl := h.1
  have hio : i < o.length := by omega
  refine ⟨by rw [tch_length o i hio, hl], fun x => ?_⟩
  rw [h.2 x, tch_cons o i hio]
  obtain ⟨s, rfl⟩ : ∃ s, t = i + 1 + s := ⟨t - (i + 1), by omega⟩
  have e1 : o.take (i + 1 + s) = o.take i ++ o[i] :: (o.drop (i + 1)).take s := by
    rw [List.take_add, List.take_succ_eq_append_getElem hio, List.append_assoc]
    rfl
  have e2 : (o[i] :: (o.take i ++ o.drop (i + 1))).take (i + 1 + s) = o[i] :: (o.take i ++ (o.drop (i + 1)).take s) := by
    rw [show i + 1 + s = (i + s) + 1 by omega, List.take_succ_cons, List.take_append, List.length_take, Nat.min_eq_left (by omega), List.take_of_length_le (by rw [List.length_take]; omega), show i + s - i = s by omega]
  rw [e1, e2]
  simp only [List.mem_append, List.mem_cons]
  constructor
  · rintro (h | h | h)
    · exact Or.inr (Or.inl h)
    · exact Or.inl h
    · exact Or.inr (Or.inr h)
  · rintro (h | h | h)
    · exact Or.inr (Or.inl h)
    · exact Or.inl h
    · exact Or.inr (Or.inr h)
/-! ### Reading -/
inductive Res where
  | ok (l : List Nat) (n : Nat)
  | bad (to : Nat)
  | short
def Res.add (l : List Nat) (k : Nat) : Res → Res
  | .ok l' n => .ok (l ++ l') (k + n)
  | .bad to => .bad (k + to)
  | .short => .short
theorem add_add (r : Res) (l l' : List Nat) (k k' : Nat) : (r.add l k).add l' k' = r.add (l' ++ l) (k' + k) := by
  cases r <;> simp [Res.add, Nat.add_assoc]
/-- m picks of bits. -/
def run (t : Nat) : List Bool → Nat → List Nat → Res
  | _, 0, _ => .ok [] 0
  | q, m + 1, o =>
    if t ≤ lead q then .bad t
    else if lead q = q.length then .short
    else (run t (q.drop (lead q + 1)) m (tch o (lead q))).add [o.getD (lead q) 0] (lead q + 1)
theorem run_one {t : Nat} {o : List Nat} (h : Ord t o) (ht : t ≤ 6) {p : Nat} (hp : p < t) (q : List Bool) (m : Nat) :
    run t (List.replicate (o.idxOf p) true ++ false :: q) (m + 1) o = (run t q m (tch o (o.idxOf p))).add [p] (o.idxOf p + 1) := by
  obtain ⟨h1, h2⟩ := h.place ht hp
  rw [run, lead_rep, if_neg (by omega), if_neg (by simp), List.drop_append, List.length_replicate, List.drop_of_length_le (by simp), Nat.add_sub_cancel_left, List.getD_eq_getElem?_getD, h2]
  rfl
/-- What was written is read. -/
theorem run_enc {t : Nat} (ht : t ≤ 6) (q : List Bool) : ∀ (ps o : List Nat), Ord t o → (∀ p ∈ ps, p < t) → run t (enc o ps ++ q) ps.length o = .ok ps (enc o ps).length
  | [], o, _, _ => rfl
  | p :: ps, o, h, hp => by
    have hpt := hp p (List.mem_cons_self)
    have h1 := h.place ht hpt
    rw [enc, List.append_assoc, List.cons_append, List.length_cons, run_one h ht hpt, run_enc ht q ps _ (h.tch ht h1.1) (fun x hx => hp x (List.mem_cons_of_mem _ hx))]
    simp [Res.add]
    try omega
theorem run_len {t : Nat} : ∀ (m : Nat) (q : List Bool) (o l : List Nat) (n : Nat), run t q m o = .ok l n → l.length = m ∧ n ≤ q.length
  | 0, q, o, l, n, h => by
    simp only [run, Res.ok.injEq] at h
    obtain ⟨rfl, rfl⟩ := h
    exact ⟨rfl, Nat.zero_le _⟩
  | m + 1, q, o, l, n, h => by
    rw [run] at h
    split at h
    · cases h
    · split at h
      · cases h
      · rename_i h1 h2
        have hle := lead_le q
        generalize hr : run t (q.drop (lead q + 1)) m (tch o (lead q)) = r at h
        cases r with
        | ok l' n' =>
          simp only [Res.add, Res.ok.injEq] at h
          obtain ⟨rfl, rfl⟩ := h
          have := run_len m _ _ _ _ hr
          rw [List.length_drop] at this
          refine ⟨by simp [this.1], by omega⟩
        | bad _ => cases h
        | short => cases h
/-- All: the two fields and the picks. -/
def rd (q : List Bool) : Res :=
  if q.length < 18 then .short
  else if num (q.take 3) < 2 ∨ 6 < num (q.take 3) ∨ num ((q.drop 3).take 15) = 0 then .bad 18
  else (run (num (q.take 3)) (q.drop 18) (num ((q.drop 3).take 15)) [0, 1, 2, 3, 4, 5]).add [] 18
def allB (ps : List Nat) (t : Nat) : List Bool := field t 3 ++ field ps.length 15 ++ enc [0, 1, 2, 3, 4, 5] ps
def May (ps : List Nat) (t : Nat) : Prop := 2 ≤ t ∧ t ≤ 6 ∧ 1 ≤ ps.length ∧ ps.length ≤ 32767 ∧ ∀ p ∈ ps, p < t
theorem allB_length (ps : List Nat) (t : Nat) : (allB ps t).length = 18 + (enc [0, 1, 2, 3, 4, 5] ps).length := by
  unfold allB
  rw [List.length_append, List.length_append, field_length, field_length]
theorem rd_all {ps : List Nat} {t : Nat} (h : May ps t) (q : List Bool) : rd (allB ps t ++ q) = .ok ps (allB ps t).length ∧ num ((allB ps t ++ q).take 3) = t ∧ num (((allB ps t ++ q).drop 3).take 15) = ps.length := by
  obtain ⟨h2, h6, h1, hm, hp⟩ := h
  have f3 : (field t 3).length = 3 := field_length _ _
  have f15 : (field ps.length 15).length = 15 := field_length _ _
  have hl := allB_length ps t
  have e3 : (allB ps t ++ q).take 3 = field t 3 := by
    unfold allB
    rw [List.append_assoc, List.append_assoc, List.take_append_of_le_length (by omega), List.take_of_length_le (by omega)]
  have e15 : ((allB ps t ++ q).drop 3).take 15 = field ps.length 15 := by
    unfold allB
    rw [List.append_assoc, List.append_assoc, List.drop_append_of_le_length (by omega), List.drop_of_length_le (by omega), List.nil_append, List.take_append_of_le_length (by omega), List.take_of_length_le (by omega)]
  have e18 : (allB ps t ++ q).drop 18 = enc [0, 1, 2, 3, 4, 5] ps ++ q := by
    unfold allB
    have e : (field t 3 ++ field ps.length 15).length = 18 := by rw [List.length_append, f3, f15]
    rw [List.append_assoc, List.drop_append_of_le_length (by omega), List.drop_of_length_le (by omega), List.nil_append]
  have n3 : num (field t 3) = t := by
    rw [field_num]
    omega
  have n15 : num (field ps.length 15) = ps.length := by
    rw [field_num]
    omega
  refine ⟨?_, by rw [e3, n3], by rw [e15, n15]⟩
  unfold rd
  rw [if_neg (by rw [List.length_append]; omega), e3, e15, e18, n3, n15, if_neg (by omega), run_enc h6 q ps _ (Ord.start h6) hp, hl]
  rfl
/-- A step of the bits that are there: the error, how many bits it read, the picks and the order behind it. -/
theorem run_step {t : Nat} (q r : List Bool) (m : Nat) (o : List Nat) (hl : lead q < t) (hq : lead q < q.length) :
    run t (q ++ r) (m + 1) o = (run t (q.drop (lead q + 1) ++ r) m (tch o (lead q))).add [o.getD (lead q) 0] (lead q + 1) := by
  have h1 := lead_app q r hq
  rw [run, h1, if_neg (by omega), if_neg (by rw [List.length_append]; omega), List.drop_append_of_le_length (by omega)]
theorem run_wrong {t : Nat} (q r : List Bool) (m : Nat) (o : List Nat) (hl : t ≤ lead q) : run t (q ++ r) (m + 1) o = .bad t := by
  have h1 := lead_ge q r
  rw [run, if_pos (by omega)]
theorem run_short {t : Nat} (q : List Bool) (m : Nat) (o : List Nat) (hl : lead q < t) (hq : lead q = q.length) : run t q (m + 1) o = .short := by
  rw [run, if_neg (by omega), if_pos hq]
end PkM
end Go.Proofs.YtojphcoghbiepaaGreatDoor
namespace Go.Proofs.YtojphcoghbiepaaGreatDoor
namespace UsedM
open Go.RowKit BitM

/-- The bits of the i-th sixteen of a set of bytes. -/
def row (S : Nat → Bool) (i : Nat) : List Bool := (List.range 16).map fun k => S (16 * i + k)
/-- A set with one byte more. -/
def put (S : Nat → Bool) (b : Nat) : Nat → Bool := fun x => S x || x == b
/-- Is one of the i-th sixteen there? -/
def some_ (S : Nat → Bool) (i : Nat) : Bool := (row S i).any id
/-- Has a text a byte? -/
def has (l : List UInt8) (n : Nat) : Bool := l.any fun c => c.toNat == n
/-- Rising, each once. -/
def Rise (l : List UInt8) : Prop := ∀ (i : Nat) (x y : UInt8), l[i]? = some x → l[i + 1]? = some y → x.toNat < y.toNat
theorem Rise.lt {l : List UInt8} (h : Rise l) : ∀ (d i : Nat) (x y : UInt8), l[i]? = some x → l[i + 1 + d]? = some y → x.toNat < y.toNat
  | 0, i, x, y, hx, hy => h i x y hx hy
  | d + 1, i, x, y, hx, hy => by
    have hlt := (List.getElem?_eq_some_iff.1 hy).1
    have hz : l[i + 1 + d]? = some (l[i + 1 + d]'(by omega)) := List.getElem?_eq_getElem _
    have h1 := Rise.lt h d i x _ hx hz
    have h2 := h (i + 1 + d) _ y hz (by rwa [show i + 1 + d + 1 = i + 1 + (d + 1) by omega])
    omega
/-- The bits of a set of bytes. -/
def rows (S : Nat → Bool) (k : Nat) : List Bool := ((List.range k).filter (some_ S)).flatMap (row S)
def cnt (S : Nat → Bool) (k : Nat) : Nat := ((List.range k).filter (some_ S)).length
/-! ### Reading -/
end UsedM
end Go.Proofs.YtojphcoghbiepaaGreatDoor
namespace Go.Proofs.YtojphcoghbiepaaGreatDoor
namespace MtfM
open Go.RowKit UsedM

/-- An order, with the symbol at a place in front. -/
def touch (l : List UInt8) (i : Nat) : List UInt8 := (l.drop i).take 1 ++ l.take i ++ l.drop (i + 1)
/-- The places of a text's bytes, and the order behind them. -/
def enc : List UInt8 → List UInt8 → Option (List Int)
  | _, [] => some []
  | l, c :: s => if Lib.indexByte l c < 0 then none else (enc (touch l (Lib.indexByte l c).toNat) s).map (Lib.indexByte l c :: ·)
/-- The order behind the first k bytes. -/
def ord : List UInt8 → List UInt8 → List UInt8
  | l, [] => l
  | l, c :: s => ord (touch l (Lib.indexByte l c).toNat) s
end MtfM
end Go.Proofs.YtojphcoghbiepaaGreatDoor
namespace Go.Proofs.YtojphcoghbiepaaGreatDoor
open Go.ChangeShapes Go.WideShapes Go.ChangeAt Go.RowKit
open Go.ChangeMaps (open_string shut_string)
namespace LawShell
theorem own : ownKnob Tryz.prog.godebug = none := by kernel_rfl
end LawShell

theorem below_setRow {B : Nat} {a w : World} (h : Below B a w) {g : Nat} (hg : B ≤ g) (cs : Array Value) : Below B a (w.setRow g cs) :=
  h.trans ⟨rfl, rfl, rfl, by simp [World.setRow], fun j hj => setRow_other _ _ j _ (by omega)⟩
theorem setRow_size (w : World) (g : Nat) (cs : Array Value) : (w.setRow g cs).heap.size = w.heap.size := by simp [World.setRow]

/-! ### A region that draws its order, whose callees may make memory of their own: the class of worlds in which every block that stood ahead of the region is as it was -/
/-- The worlds that are as w below block number B. -/
structure Beneath (B : Nat) (w : World) : Type where
  val : World
  is : Below B w val
instance (B : Nat) (w : World) : Nonempty (Beneath B w) := ⟨⟨w, Below.refl _ _⟩⟩
theorem Beneath.cell {B : Nat} {w : World} {p : Addr} {v : Value} (h : w.cell? p = some v) (hB : p.block < B) (s : Beneath B w) : s.val.cell? p = some v := (s.is.cell hB).trans h
theorem wp_region_beneath {P : Program} {id : Nat} {Q : Exit → Act → World → Prop} {a : Act} {w : World} {l : List Oper} (B : Nat) (w0 : World) (h0 : Below B w0 w) (hm : P.follows .mixedOrders = true) (hB : Region.lexB .any l.toArray = true)
    (h : wpQuiet P l.toArray (fun w' => ∃ s : Beneath B w0, w' = s.val) (fun a' => ∀ w', (∃ s : Beneath B w0, w' = s.val) → Q .normal a' w') l a) : (Code.region id l.toArray true).wp P Q a w :=
  wp_region_quiet (C := fun w' => ∃ s : Beneath B w0, w' = s.val) hm hB ⟨⟨w.drew, h0.drew⟩, rfl⟩ (by simpa using h)
/-- A callee that makes memory of its own alone. -/
theorem Calls.beneath {P : Program} {f : FuncId} {args : Array Value} {B : Nat} {w : World} {v : Value} (s : Beneath B w) (hB : B ≤ w.heap.size)
    (h : Calls P f args s.val fun e w' => e = .returned v ∧ Below s.val.heap.size s.val w') : Calls P f args s.val fun e w'' => e = .returned v ∧ ∃ s' : Beneath B w, w'' = s'.val :=
  h.mono fun _ w' ⟨he, hb⟩ => ⟨he, ⟨w', s.is.trans (hb.mono (Nat.le_trans hB s.is.size))⟩, rfl⟩
/-- A callee that leaves the world alone. -/
theorem Calls.beneath_same {P : Program} {f : FuncId} {args : Array Value} {B : Nat} {w : World} {v : Value} (s : Beneath B w)
    (h : Calls P f args s.val fun e w' => e = .returned v ∧ s.val = w') : Calls P f args s.val fun e w'' => e = .returned v ∧ ∃ s' : Beneath B w, w'' = s'.val :=
  h.mono fun _ _ ⟨he, hb⟩ => ⟨he, s, hb.symm⟩
end Go.Proofs.YtojphcoghbiepaaGreatDoor
namespace Go.Proofs.YtojphcoghbiepaaGreatDoor
namespace PkM
open Go.RowKit
set_option linter.unusedVariables false
def toI (ps : List Nat) : List Int := ps.map fun (x : Nat) => (x : Int)
theorem toI_length (ps : List Nat) : (toI ps).length = ps.length := by simp [toI]
theorem toI_getD (ps : List Nat) (k : Nat) : (toI ps).getD k 0 = ((ps.getD k 0 : Nat) : Int) := by
  unfold toI
  rw [List.getD_eq_getElem?_getD, List.getElem?_map, List.getD_eq_getElem?_getD]
  cases ps[k]? <;> rfl
theorem toI_app (ps qs : List Nat) : toI (ps ++ qs) = toI ps ++ toI qs := by simp [toI]
end PkM
end Go.Proofs.YtojphcoghbiepaaGreatDoor
namespace Go.Proofs.YtojphcoghbiepaaGreatDoor
namespace PkM
open Go.RowKit BitM
set_option linter.unusedVariables false
/-- What a step tells: an error, how many bits it read, and what is known then. -/
structure PO where
  err : Int
  used : Nat
  t : Nat
  n : Nat
  ps : List Nat
  o : List Nat
  bad : Bool
def pstep (q : List Bool) (t n : Nat) (ps o : List Nat) (bad : Bool) : PO :=
  if bad = true then ⟨25, 0, t, n, ps, o, true⟩
  else if n = 0 then
    if q.length < 18 then ⟨3, 0, t, 0, ps, o, false⟩
    else if num (q.take 3) < 2 ∨ 6 < num (q.take 3) then ⟨25, 18, t, 0, ps, o, true⟩
    else if num ((q.drop 3).take 15) = 0 then ⟨25, 18, num (q.take 3), 0, ps, o, true⟩
    else ⟨0, 18, num (q.take 3), num ((q.drop 3).take 15), ps, [0, 1, 2, 3, 4, 5], false⟩
  else if t ≤ lead q then ⟨25, t, t, n, ps, o, true⟩
  else if lead q = q.length then ⟨3, 0, t, n, ps, o, false⟩
  else ⟨0, lead q + 1, t, n, ps ++ [o.getD (lead q) 0], tch o (lead q), false⟩
theorem pstep_bad (q : List Bool) (t n : Nat) (ps o : List Nat) : pstep q t n ps o true = ⟨25, 0, t, n, ps, o, true⟩ := rfl
theorem pstep_few (q : List Bool) (t : Nat) (ps o : List Nat) (h : q.length < 18) : pstep q t 0 ps o false = ⟨3, 0, t, 0, ps, o, false⟩ := by
  unfold pstep
  rw [if_neg (by simp), if_pos rfl, if_pos h]
theorem pstep_noT (q : List Bool) (t : Nat) (ps o : List Nat) (h : ¬ q.length < 18) (h2 : num (q.take 3) < 2 ∨ 6 < num (q.take 3)) : pstep q t 0 ps o false = ⟨25, 18, t, 0, ps, o, true⟩ := by
  unfold pstep
  rw [if_neg (by simp), if_pos rfl, if_neg h, if_pos h2]
theorem pstep_noN (q : List Bool) (t : Nat) (ps o : List Nat) (h : ¬ q.length < 18) (h2 : ¬ (num (q.take 3) < 2 ∨ 6 < num (q.take 3))) (h3 : num ((q.drop 3).take 15) = 0) : pstep q t 0 ps o false = ⟨25, 18, num (q.take 3), 0, ps, o, true⟩ := by
  unfold pstep
  rw [if_neg (by simp), if_pos rfl, if_neg h, if_neg h2, if_pos h3]
theorem pstep_first (q : List Bool) (t : Nat) (ps o : List Nat) (h : ¬ q.length < 18) (h2 : ¬ (num (q.take 3) < 2 ∨ 6 < num (q.take 3))) (h3 : ¬ num ((q.drop 3).take 15) = 0) : pstep q t 0 ps o false = ⟨0, 18, num (q.take 3), num ((q.drop 3).take 15), ps, [0, 1, 2, 3, 4, 5], false⟩ := by
  unfold pstep
  rw [if_neg (by simp), if_pos rfl, if_neg h, if_neg h2, if_neg h3]
theorem pstep_wrong (q : List Bool) {t n : Nat} (ps o : List Nat) (hn : n ≠ 0) (h : t ≤ lead q) : pstep q t n ps o false = ⟨25, t, t, n, ps, o, true⟩ := by
  unfold pstep
  rw [if_neg (by simp), if_neg hn, if_pos h]
theorem pstep_short (q : List Bool) {t n : Nat} (ps o : List Nat) (hn : n ≠ 0) (h : ¬ t ≤ lead q) (h2 : lead q = q.length) : pstep q t n ps o false = ⟨3, 0, t, n, ps, o, false⟩ := by
  unfold pstep
  rw [if_neg (by simp), if_neg hn, if_neg h, if_pos h2]
theorem pstep_one (q : List Bool) {t n : Nat} (ps o : List Nat) (hn : n ≠ 0) (h : ¬ t ≤ lead q) (h2 : ¬ lead q = q.length) : pstep q t n ps o false = ⟨0, lead q + 1, t, n, ps ++ [o.getD (lead q) 0], tch o (lead q), false⟩ := by
  unfold pstep
  rw [if_neg (by simp), if_neg hn, if_neg h, if_neg h2]
/-- What is known behind p bits of all is right. -/
def Rt (Q : List Bool) (p t n : Nat) (ps o : List Nat) : Prop :=
  (n = 0 ∧ t = 0 ∧ ps = [] ∧ p = 0) ∨
  (2 ≤ t ∧ t ≤ 6 ∧ 1 ≤ n ∧ n ≤ 32767 ∧ ps.length ≤ n ∧ Ord t o ∧ (∀ x ∈ ps, x < t) ∧ 18 ≤ Q.length ∧ num (Q.take 3) = t ∧ num ((Q.drop 3).take 15) = n ∧ rd Q = (run t (Q.drop p) (n - ps.length) o).add ps p)
theorem Rt.start (Q : List Bool) (o : List Nat) : Rt Q 0 0 0 [] o := Or.inl ⟨rfl, rfl, rfl, rfl⟩
theorem Ord.getD {t : Nat} {o : List Nat} (h : Ord t o) {i : Nat} (hi : i < t) (ht : t ≤ 6) : o.getD i 0 < t := by
  have hl := h.1
  have h1 : i < o.length := by omega
  rw [List.getD_eq_getElem?_getD, List.getElem?_eq_getElem h1]
  refine (h.2 _).2 ?_
  have h2 : i < (o.take t).length := by rw [List.length_take]; omega
  have := List.getElem_mem h2
  rw [List.getElem_take] at this
  exact this
/-- A step of the bits q that are there; r comes behind them. -/
theorem Rt.step {Q : List Bool} {p t n : Nat} {ps o : List Nat} (h : Rt Q p t n ps o) (hl : n = 0 ∨ ps.length < n) (q r : List Bool) (hq : Q.drop p = q ++ r) :
    ((pstep q t n ps o false).err = 0 ∧ (pstep q t n ps o false).bad = false ∧ 1 ≤ (pstep q t n ps o false).used ∧ (pstep q t n ps o false).used ≤ q.length ∧ Rt Q (p + (pstep q t n ps o false).used) (pstep q t n ps o false).t (pstep q t n ps o false).n (pstep q t n ps o false).ps (pstep q t n ps o false).o ∧ 1 ≤ (pstep q t n ps o false).n) ∨
    ((pstep q t n ps o false).err = 25 ∧ (pstep q t n ps o false).bad = true ∧ (pstep q t n ps o false).used ≤ q.length ∧ rd Q = .bad (p + (pstep q t n ps o false).used) ∧ (pstep q t n ps o false).ps = ps ∧ (pstep q t n ps o false).n = n) ∨
    (pstep q t n ps o false = ⟨3, 0, t, n, ps, o, false⟩ ∧ (r = [] → rd Q = .short)) := by
  rcases h with ⟨rfl, rfl, rfl, rfl⟩ | ⟨h2, h6, hn1, hn2, hle, hO, hlt, hQ18, ht, hn, hr⟩
  · rw [List.drop_zero] at hq
    by_cases h18 : q.length < 18
    · refine Or.inr (Or.inr ⟨pstep_few q _ _ _ h18, fun hr => ?_⟩)
      rw [hr, List.append_nil] at hq
      unfold rd
      rw [hq, if_pos h18]
    · have hQ18 : ¬ Q.length < 18 := by rw [hq, List.length_append]; omega
      have e3 : Q.take 3 = q.take 3 := by rw [hq, List.take_append_of_le_length (by omega)]
      have e15 : (Q.drop 3).take 15 = (q.drop 3).take 15 := by rw [hq, List.drop_append_of_le_length (by omega), List.take_append_of_le_length (by rw [List.length_drop]; omega)]
      by_cases hT : num (q.take 3) < 2 ∨ 6 < num (q.take 3)
      · rw [pstep_noT q _ _ _ h18 hT]
        refine Or.inr (Or.inl ⟨rfl, rfl, by show 18 ≤ q.length; omega, ?_, rfl, rfl⟩)
        unfold rd
        rw [if_neg hQ18, e3, if_pos (by omega)]
        rfl
      · by_cases hN : num ((q.drop 3).take 15) = 0
        · rw [pstep_noN q _ _ _ h18 hT hN]
          refine Or.inr (Or.inl ⟨rfl, rfl, by show 18 ≤ q.length; omega, ?_, rfl, rfl⟩)
          unfold rd
          rw [if_neg hQ18, e3, e15, if_pos (by omega)]
          rfl
        · rw [pstep_first q _ _ _ h18 hT hN]
          have hlt := num_lt ((q.drop 3).take 15)
          have hl15 : ((q.drop 3).take 15).length = 15 := by rw [List.length_take, List.length_drop]; omega
          rw [hl15] at hlt
          refine Or.inl ⟨rfl, rfl, by show 1 ≤ 18; omega, by show 18 ≤ q.length; omega, Or.inr ⟨by show 2 ≤ num _; omega, by show num _ ≤ 6; omega, by show 1 ≤ num _; omega, by show num _ ≤ 32767; omega, Nat.zero_le _, Ord.start (by show num _ ≤ 6; omega), fun x hx => absurd hx (by simp), by omega, ?_, ?_, ?_⟩, by show 1 ≤ num _; omega⟩
          · show num (Q.take 3) = num (q.take 3)
            rw [e3]
          · show num ((Q.drop 3).take 15) = num ((q.drop 3).take 15)
            rw [e15]
          · unfold rd
            rw [if_neg hQ18, e3, e15, if_neg (by omega)]
            rfl
  · have hn0 : n ≠ 0 := by omega
    obtain ⟨M, hM⟩ : ∃ M, n - ps.length = M + 1 := ⟨n - ps.length - 1, by omega⟩
    rw [hM, hq] at hr
    have hll := lead_le q
    by_cases hw : t ≤ lead q
    · rw [pstep_wrong q ps o hn0 hw]
      refine Or.inr (Or.inl ⟨rfl, rfl, by show t ≤ q.length; omega, ?_, rfl, rfl⟩)
      rw [hr, run_wrong q r M o hw]
      rfl
    · by_cases hs : lead q = q.length
      · refine Or.inr (Or.inr ⟨pstep_short q ps o hn0 hw hs, fun e => ?_⟩)
        subst e
        rw [hr, List.append_nil, run_short q M o (by omega) hs]
        rfl
      · rw [pstep_one q ps o hn0 hw hs]
        have hd : Q.drop (p + (lead q + 1)) = q.drop (lead q + 1) ++ r := by
          rw [← List.drop_drop, hq, List.drop_append_of_le_length (by omega)]
        have hlen : (ps ++ [o.getD (lead q) 0]).length = ps.length + 1 := by rw [List.length_append]; rfl
        refine Or.inl ⟨rfl, rfl, by show 1 ≤ lead q + 1; omega, by show lead q + 1 ≤ q.length; omega, Or.inr ⟨h2, h6, hn1, hn2, by show (ps ++ [o.getD (lead q) 0]).length ≤ n; omega, hO.tch h6 (by omega), fun x hx => ?_, hQ18, ht, hn, ?_⟩, hn1⟩
        · rcases List.mem_append.1 hx with h | h
          · exact hlt x h
          · rw [List.mem_singleton] at h
            subst h
            exact hO.getD (by omega) h6
        · show rd Q = (run t (Q.drop (p + (lead q + 1))) (n - (ps ++ [o.getD (lead q) 0]).length) (tch o (lead q))).add (ps ++ [o.getD (lead q) 0]) (p + (lead q + 1))
          rw [hr, hd, hlen, show n - (ps.length + 1) = M by omega, run_step q r M o (by omega) (by omega), add_add]
/-- All were read. -/
theorem Rt.all {Q : List Bool} {p t n : Nat} {ps o : List Nat} (h : Rt Q p t n ps o) (hn : 1 ≤ n) (hl : ps.length = n) : rd Q = .ok ps p ∧ num (Q.take 3) = t := by
  rcases h with ⟨rfl, _⟩ | ⟨h2, h6, hn1, hn2, hle, hO, hlt, hQ18, ht, hn, hr⟩
  · omega
  · refine ⟨?_, ht⟩
    rw [hr, show n - ps.length = 0 by omega]
    show Res.ok (ps ++ []) (p + 0) = _
    rw [List.append_nil]
    rfl
theorem Rt.bnd {Q : List Bool} {p t n : Nat} {ps o : List Nat} (h : Rt Q p t n ps o) : (n = 0 ∧ ps = []) ∨ (2 ≤ t ∧ t ≤ 6 ∧ 1 ≤ n ∧ n ≤ 32767 ∧ ps.length ≤ n) := by
  rcases h with ⟨rfl, _, h, _⟩ | ⟨h2, h6, hn1, hn2, hle, _⟩
  · exact Or.inl ⟨rfl, h⟩
  · exact Or.inr ⟨h2, h6, hn1, hn2, hle⟩
/-! ### Letters -/
def lets (o : List Nat) : List UInt8 := o.map fun n => UInt8.ofNat (48 + n)
theorem lets_tch (o : List Nat) (i : Nat) : MtfM.touch (lets o) i = lets (tch o i) := by
  unfold MtfM.touch tch lets
  rw [← List.map_drop, ← List.map_take, ← List.map_take, ← List.map_drop, ← List.map_append, ← List.map_append]
theorem lets_length (o : List Nat) : (lets o).length = o.length := by simp [lets]
theorem lets_get {o : List Nat} {i x : Nat} (h : o[i]? = some x) : (lets o)[i]? = some (UInt8.ofNat (48 + x)) := by
  unfold lets
  rw [List.getElem?_map, h]
  rfl
/-- All numbers are below 6. -/
def Six (o : List Nat) : Prop := o.length = 6 ∧ ∀ x ∈ o, x < 6
theorem Six.start : Six [0, 1, 2, 3, 4, 5] := ⟨rfl, by decide⟩
theorem Six.tch {o : List Nat} (h : Six o) {i : Nat} (hi : i < 6) : Six (tch o i) := by
  have hl := h.1
  refine ⟨by rw [tch_length o i (by omega), hl], fun x hx => ?_⟩
  rw [tch_cons o i (by omega)] at hx
  simp only [List.mem_cons, List.mem_append] at hx
  rcases hx with rfl | hx | hx
  · exact h.2 _ (List.getElem_mem _)
  · exact h.2 _ (List.mem_of_mem_take hx)
  · exact h.2 _ (List.mem_of_mem_drop hx)
theorem idx_first {o : List Nat} {p j : Nat} (hj : j < o.idxOf p) : o[j]? ≠ some p := by
  intro h
  obtain ⟨h1, h2⟩ := List.getElem?_eq_some_iff.1 h
  have h3 : j < o.findIdx (· == p) := hj
  have h4 := List.not_of_lt_findIdx h3
  simp [h2] at h4
/-! ### How writing goes on -/
def O6 : List Nat := [0, 1, 2, 3, 4, 5]
def ordK (ps : List Nat) (k : Nat) : List Nat := ord O6 (ps.take k)
def encK (ps : List Nat) (k : Nat) : List Bool := enc O6 (ps.take k)
theorem take_next (ps : List Nat) {k : Nat} (h : k < ps.length) : ps.take (k + 1) = ps.take k ++ [ps.getD k 0] := by
  rw [List.take_succ_eq_append_getElem h, List.getD_eq_getElem?_getD, List.getElem?_eq_getElem h]
  rfl
theorem encK_next (ps : List Nat) {k : Nat} (h : k < ps.length) : encK ps (k + 1) = encK ps k ++ (List.replicate ((ordK ps k).idxOf (ps.getD k 0)) true ++ [false]) := by
  unfold encK ordK
  rw [take_next ps h, enc_app, enc]
  rfl
theorem ordK_next (ps : List Nat) {k : Nat} (h : k < ps.length) : ordK ps (k + 1) = tch (ordK ps k) ((ordK ps k).idxOf (ps.getD k 0)) := by
  unfold ordK
  rw [take_next ps h, ord_app, ord, ord]
theorem ordK_ord (ps : List Nat) {t : Nat} (ht : t ≤ 6) (hp : ∀ x ∈ ps, x < t) : ∀ k, k ≤ ps.length → Ord t (ordK ps k) ∧ Six (ordK ps k)
  | 0, _ => ⟨Ord.start ht, Six.start⟩
  | k + 1, hk => by
    have ih := ordK_ord ps ht hp k (by omega)
    rw [ordK_next ps (by omega)]
    have h1 : ps.getD k 0 < t := by
      rw [List.getD_eq_getElem?_getD, List.getElem?_eq_getElem (by omega)]
      exact hp _ (List.getElem_mem _)
    have h2 := (ih.1.place ht h1).1
    exact ⟨ih.1.tch ht h2, ih.2.tch (by omega)⟩
theorem encK_len (ps : List Nat) {t : Nat} (ht : t ≤ 6) (hp : ∀ x ∈ ps, x < t) : ∀ k, k ≤ ps.length → (encK ps k).length ≤ 6 * k
  | 0, _ => Nat.le_refl _
  | k + 1, hk => by
    have ih := encK_len ps ht hp k (by omega)
    have h1 : ps.getD k 0 < t := by
      rw [List.getD_eq_getElem?_getD, List.getElem?_eq_getElem (by omega)]
      exact hp _ (List.getElem_mem _)
    have h2 := ((ordK_ord ps ht hp k (by omega)).1.place ht h1).1
    rw [encK_next ps (by omega), List.length_append, List.length_append, List.length_replicate, List.length_singleton]
    omega
theorem encK_all (ps : List Nat) (k : Nat) (hk : ps.length ≤ k) : encK ps k = enc [0, 1, 2, 3, 4, 5] ps := by
  unfold encK
  rw [List.take_of_length_le hk]
  rfl
/-- Numbers that may be told as numbers of tables. -/
def MayI (zs : List Int) (t : Int) : Prop := 2 ≤ t ∧ t ≤ 6 ∧ 1 ≤ zs.length ∧ zs.length ≤ 32767 ∧ ∀ z ∈ zs, 0 ≤ z ∧ z < t
theorem May.int {ps : List Nat} {T : Nat} (h : May ps T) : MayI (toI ps) (T : Int) := by
  obtain ⟨h2, h6, h1, hm, hp⟩ := h
  refine ⟨by omega, by omega, by rw [toI_length]; exact h1, by rw [toI_length]; exact hm, fun z hz => ?_⟩
  obtain ⟨x, hx, rfl⟩ := List.mem_map.1 hz
  have := hp x hx
  constructor
  · show (0 : Int) ≤ (x : Int)
    omega
  · show (x : Int) < (T : Int)
    omega
end PkM
end Go.Proofs.YtojphcoghbiepaaGreatDoor
namespace Go.Proofs.YtojphcoghbiepaaGreatDoor
namespace DelM
open Go.RowKit BitM
set_option linter.unusedVariables false

/-! ### Lengths as bits -/
def two (b : Bool) : Nat → List Bool
  | 0 => []
  | k + 1 => two b k ++ [true, b]
theorem two_length (b : Bool) : ∀ k, (two b k).length = 2 * k
  | 0 => rfl
  | k + 1 => by
    rw [two, List.length_append, two_length b k]
    show 2 * k + 2 = _
    omega
theorem two_cons (b : Bool) : ∀ k, two b (k + 1) = true :: b :: two b k
  | 0 => rfl
  | k + 1 => by
    show two b (k + 1) ++ [true, b] = true :: b :: (two b k ++ [true, b])
    rw [two_cons b k]
    rfl
/-- From the length told last to the next one. -/
def mv (last x : Int) : List Bool := two false (x - last).toNat ++ two true (last - x).toNat
theorem mv_length (last x : Int) : ((mv last x).length : Int) = 2 * max (x - last) (last - x) := by
  unfold mv
  rw [List.length_append, two_length, two_length]
  omega
/-- The length told last ahead of symbol k. -/
def prv (zs : List Int) (k : Nat) : Int := zs.getD (k - 1) 0
/-- The bits of the first k symbols. -/
def encK (zs : List Int) : Nat → List Bool
  | 0 => []
  | k + 1 => encK zs k ++ (mv (prv zs k) (zs.getD k 0) ++ [false])
/-- All bits. -/
def allB (zs : List Int) : List Bool := field (zs.getD 0 0).toNat 5 ++ encK zs zs.length
theorem prv_succ (zs : List Int) (k : Nat) : prv zs (k + 1) = zs.getD k 0 := rfl
def May (zs : List Int) : Prop := 3 ≤ zs.length ∧ zs.length ≤ 258 ∧ ∀ z ∈ zs, 1 ≤ z ∧ z ≤ 20
theorem May.at_ {zs : List Int} (h : May zs) {k : Nat} (hk : k < zs.length) : 1 ≤ zs.getD k 0 ∧ zs.getD k 0 ≤ 20 :=
  h.2.2 _ (by rw [List.getD_eq_getElem?_getD, List.getElem?_eq_getElem hk]; exact List.getElem_mem hk)
theorem May.prv {zs : List Int} (h : May zs) {k : Nat} (hk : k ≤ zs.length) : 1 ≤ prv zs k ∧ prv zs k ≤ 20 := by
  have h3 := h.1
  exact h.at_ (show k - 1 < zs.length by omega)
theorem encK_le {zs : List Int} (h : May zs) : ∀ {k : Nat}, k ≤ zs.length → (encK zs k).length ≤ 39 * k ∧ k ≤ (encK zs k).length
  | 0, _ => ⟨Nat.le_refl _, Nat.le_refl _⟩
  | k + 1, hk => by
    have h1 := encK_le h (k := k) (by omega)
    have h2 := mv_length (prv zs k) (zs.getD k 0)
    have h3 := h.at_ (show k < zs.length by omega)
    have h4 := h.prv (show k ≤ zs.length by omega)
    rw [encK, List.length_append, List.length_append]
    show _ + (_ + 1) ≤ _ ∧ _ ≤ _ + (_ + 1)
    omega
theorem allB_length (zs : List Int) : (allB zs).length = 5 + (encK zs zs.length).length := by
  unfold allB
  rw [List.length_append, field_length]
theorem encK_len (zs : List Int) (k : Nat) : ((encK zs (k + 1)).length : Int) = ((encK zs k).length : Int) + (2 * max (zs.getD k 0 - prv zs k) (prv zs k - zs.getD k 0) + 1) := by
  have h2 := mv_length (prv zs k) (zs.getD k 0)
  rw [encK, List.length_append, List.length_append]
  show ((_ + (_ + 1) : Nat) : Int) = _
  omega

/-! ### Lengths read of bits -/
/-- What is told of bits: that they end, that a length is none, or the lengths, and how many bits they took. -/
inductive Res where
  | short : Res
  | table : Res
  | ok : List Int → Nat → Res
deriving DecidableEq
def Res.add (l : List Int) (k : Nat) : Res → Res
  | .short => .short
  | .table => .table
  | .ok l' k' => .ok (l ++ l') (k + k')
theorem add_add (r : Res) (l l' : List Int) (k k' : Nat) : (r.add l k).add l' k' = r.add (l' ++ l) (k' + k) := by
  cases r with
  | short => rfl
  | table => rfl
  | ok a b => simp [Res.add, Nat.add_assoc]
/-- The length behind a step. -/
def nx (now : Int) (b : Bool) : Int := if b then now - 1 else now + 1
def run : List Bool → Nat → Int → Res
  | _, 0, _ => .ok [] 0
  | [], _ + 1, _ => .short
  | [true], _ + 1, _ => .short
  | false :: t, m + 1, now => (run t m now).add [now] 1
  | true :: b :: t, m + 1, now => if nx now b < 1 ∨ 20 < nx now b then .table else (run t (m + 1) (nx now b)).add [] 2
def rd (q : List Bool) (m : Nat) : Res :=
  if q.length < 5 then .short else if (num (q.take 5) : Int) < 1 ∨ 20 < (num (q.take 5) : Int) then .table else (run (q.drop 5) m (num (q.take 5))).add [] 5
theorem run_zero (q : List Bool) (now : Int) : run q 0 now = .ok [] 0 := by
  cases q with
  | nil => rfl
  | cons a t => cases t with
    | nil => cases a <;> rfl
    | cons b u => cases a <;> rfl
theorem run_same (t : List Bool) (m : Nat) (now : Int) : run (false :: t) (m + 1) now = (run t m now).add [now] 1 := by
  cases t <;> rfl
theorem run_bad (b : Bool) (t : List Bool) (m : Nat) (now : Int) (h : nx now b < 1 ∨ 20 < nx now b) : run (true :: b :: t) (m + 1) now = .table := by
  show (if nx now b < 1 ∨ 20 < nx now b then Res.table else _) = _
  rw [if_pos h]
theorem run_move (b : Bool) (t : List Bool) (m : Nat) (now : Int) (h : ¬ (nx now b < 1 ∨ 20 < nx now b)) : run (true :: b :: t) (m + 1) now = (run t (m + 1) (nx now b)).add [] 2 := by
  show (if nx now b < 1 ∨ 20 < nx now b then Res.table else _) = _
  rw [if_neg h]
theorem run_up (q : List Bool) (m : Nat) : ∀ (k : Nat) (now : Int), 1 ≤ now → now + (k : Int) ≤ 20 → run (two false k ++ q) (m + 1) now = (run q (m + 1) (now + k)).add [] (2 * k)
  | 0, now, _, _ => by
    show run q (m + 1) now = _
    have e : now + ((0 : Nat) : Int) = now := by omega
    rw [e]
    cases run q (m + 1) now with
    | short => rfl
    | table => rfl
    | ok a b => show Res.ok a b = Res.ok ([] ++ a) (2 * 0 + b); simp
  | k + 1, now, h1, h2 => by
    rw [two_cons]
    show run (true :: false :: (two false k ++ q)) (m + 1) now = _
    have e1 : nx now false = now + 1 := rfl
    rw [run_move _ _ _ _ (by rw [e1]; omega), e1, run_up q m k (now + 1) (by omega) (by omega), add_add]
    have e2 : now + 1 + (k : Int) = now + ((k + 1 : Nat) : Int) := by omega
    rw [e2]
    congr 1
    omega
theorem run_down (q : List Bool) (m : Nat) : ∀ (k : Nat) (now : Int), now ≤ 20 → 1 ≤ now - (k : Int) → run (two true k ++ q) (m + 1) now = (run q (m + 1) (now - k)).add [] (2 * k)
  | 0, now, _, _ => by
    show run q (m + 1) now = _
    have e : now - ((0 : Nat) : Int) = now := by omega
    rw [e]
    cases run q (m + 1) now with
    | short => rfl
    | table => rfl
    | ok a b => show Res.ok a b = Res.ok ([] ++ a) (2 * 0 + b); simp
  | k + 1, now, h1, h2 => by
    rw [two_cons]
    show run (true :: true :: (two true k ++ q)) (m + 1) now = _
    have e1 : nx now true = now - 1 := rfl
    rw [run_move _ _ _ _ (by rw [e1]; omega), e1, run_down q m k (now - 1) (by omega) (by omega), add_add]
    have e2 : now - 1 - (k : Int) = now - ((k + 1 : Nat) : Int) := by omega
    rw [e2]
    congr 1
    omega
theorem run_mv (q : List Bool) (m : Nat) (last x : Int) (h1 : 1 ≤ last ∧ last ≤ 20) (h2 : 1 ≤ x ∧ x ≤ 20) : run (mv last x ++ (false :: q)) (m + 1) last = (run q m x).add [x] ((mv last x).length + 1) := by
  have hl := mv_length last x
  unfold mv at hl ⊢
  rw [List.append_assoc, run_up _ _ _ _ h1.1 (by omega), run_down _ _ _ _ (by omega) (by omega), run_same, add_add, add_add]
  have e : last + ((x - last).toNat : Int) - ((last - x).toNat : Int) = x := by omega
  rw [e]
  congr 1
  rw [List.length_append, two_length, two_length]
theorem run_len : ∀ (q : List Bool) (m : Nat) (now : Int) (l : List Int) (n : Nat), run q m now = .ok l n → l.length = m
  | q, 0, now, l, n, h => by
    rw [run_zero] at h
    cases h
    rfl
  | [], m + 1, now, l, n, h => by cases h
  | [true], m + 1, now, l, n, h => by cases h
  | false :: t, m + 1, now, l, n, h => by
    rw [run_same] at h
    cases hr : run t m now with
    | short => rw [hr] at h; cases h
    | table => rw [hr] at h; cases h
    | ok a c =>
      rw [hr] at h
      have := run_len t m now a c hr
      cases h
      rw [List.length_append, this]
      show 1 + m = _
      omega
  | true :: b :: t, m + 1, now, l, n, h => by
    by_cases hb : nx now b < 1 ∨ 20 < nx now b
    · rw [run_bad _ _ _ _ hb] at h
      cases h
    · rw [run_move _ _ _ _ hb] at h
      cases hr : run t (m + 1) (nx now b) with
      | short => rw [hr] at h; cases h
      | table => rw [hr] at h; cases h
      | ok a c =>
        rw [hr] at h
        have := run_len t (m + 1) (nx now b) a c hr
        cases h
        exact this
theorem rd_len {q : List Bool} {m : Nat} {l : List Int} {n : Nat} (h : rd q m = .ok l n) : l.length = m := by
  unfold rd at h
  split at h
  · cases h
  · split at h
    · cases h
    · cases hr : run (q.drop 5) m (num (q.take 5)) with
      | short => rw [hr] at h; cases h
      | table => rw [hr] at h; cases h
      | ok a c =>
        rw [hr] at h
        have := run_len _ _ _ _ _ hr
        cases h
        exact this
/-- What is read of what was written. -/
theorem run_enc {zs : List Int} (h : May zs) (q : List Bool) : ∀ (e k : Nat), k + e = zs.length → ∃ s, encK zs zs.length = encK zs k ++ s ∧ run (s ++ q) e (prv zs k) = .ok (zs.drop k) s.length
  | 0, k, hk => by
    obtain rfl : k = zs.length := by omega
    refine ⟨[], by simp, ?_⟩
    rw [run_zero, List.drop_length]
    rfl
  | e + 1, k, hk => by
    obtain ⟨s, h1, h2⟩ := run_enc h q e (k + 1) (by omega)
    have hk2 : k < zs.length := by omega
    refine ⟨mv (prv zs k) (zs.getD k 0) ++ (false :: s), ?_, ?_⟩
    · rw [h1, encK]
      simp
    · rw [List.append_assoc]
      show run (mv (prv zs k) (zs.getD k 0) ++ (false :: (s ++ q))) (e + 1) (prv zs k) = _
      rw [run_mv _ _ _ _ (h.prv (by omega)) (h.at_ hk2)]
      rw [prv_succ] at h2
      rw [h2]
      show Res.ok ([zs.getD k 0] ++ zs.drop (k + 1)) _ = _
      have e1 : zs.drop k = zs.getD k 0 :: zs.drop (k + 1) := by
        rw [List.getD_eq_getElem?_getD, List.getElem?_eq_getElem hk2]
        exact List.drop_eq_getElem_cons hk2
      rw [e1]
      congr 1
      rw [List.length_append]
      show _ + 1 + s.length = _ + (s.length + 1)
      omega
theorem rd_all {zs : List Int} (h : May zs) (q : List Bool) : rd (allB zs ++ q) zs.length = .ok zs (allB zs).length := by
  obtain ⟨s, h1, h2⟩ := run_enc h q zs.length 0 (by omega)
  have h3 := h.1
  have h0 := h.at_ (show 0 < zs.length by omega)
  have hs : encK zs zs.length = s := by rw [h1]; rfl
  have hl := allB_length zs
  have hf : (field (zs.getD 0 0).toNat 5).length = 5 := field_length _ _
  have ht : (allB zs ++ q).take 5 = field (zs.getD 0 0).toNat 5 := by
    unfold allB
    rw [List.append_assoc, List.take_append_of_le_length (by omega), List.take_of_length_le (by omega)]
  have hd : (allB zs ++ q).drop 5 = s ++ q := by
    unfold allB
    rw [List.append_assoc, List.drop_append_of_le_length (by omega), List.drop_of_length_le (by omega), hs]
    rfl
  have hn : (num (field (zs.getD 0 0).toNat 5) : Int) = zs.getD 0 0 := by
    rw [field_num]
    have : (zs.getD 0 0).toNat < 32 := by omega
    omega
  unfold rd
  rw [if_neg (by rw [List.length_append, hl]; omega), ht, hd, hn, if_neg (by omega)]
  have e0 : prv zs 0 = zs.getD 0 0 := rfl
  rw [e0] at h2
  rw [h2]
  show Res.ok ([] ++ zs.drop 0) _ = _
  rw [hl, hs]
  rfl
end DelM
end Go.Proofs.YtojphcoghbiepaaGreatDoor
namespace Go.Proofs.YtojphcoghbiepaaGreatDoor
namespace DelM
open Go.RowKit BitM
set_option linter.unusedVariables false
def okLen (x : Int) : Bool := decide (1 ≤ x) && decide (x ≤ 20)
theorem okLen_iff (x : Int) : okLen x = true ↔ 1 ≤ x ∧ x ≤ 20 := by unfold okLen; simp
/-- What a step tells: an error, how many bits it read, and what is known then. -/
structure DO where
  err : Int
  used : Nat
  ls : List Int
  now : Int
  bad : Bool
def eOf (b : Bool) : Int := if b then 0 else 22
def dstep (q : List Bool) (ls : List Int) (now : Int) (bad : Bool) : DO :=
  if bad = true then ⟨22, 0, ls, now, true⟩
  else if now = 0 then
    if q.length < 5 then ⟨3, 0, ls, 0, false⟩
    else ⟨eOf (okLen (num (q.take 5))), 5, ls, num (q.take 5), !okLen (num (q.take 5))⟩
  else match q with
    | [] => ⟨3, 0, ls, now, false⟩
    | [true] => ⟨3, 0, ls, now, false⟩
    | false :: _ => ⟨0, 1, ls ++ [now], now, false⟩
    | true :: b :: _ => ⟨eOf (okLen (nx now b)), 2, ls, nx now b, !okLen (nx now b)⟩
theorem dstep_bad (q : List Bool) (ls : List Int) (now : Int) : dstep q ls now true = ⟨22, 0, ls, now, true⟩ := rfl
theorem dstep_few (q : List Bool) (ls : List Int) (h : q.length < 5) : dstep q ls 0 false = ⟨3, 0, ls, 0, false⟩ := by
  unfold dstep
  rw [if_neg (by simp), if_pos rfl, if_pos h]
theorem dstep_first (q : List Bool) (ls : List Int) (h : ¬ q.length < 5) : dstep q ls 0 false = ⟨eOf (okLen (num (q.take 5))), 5, ls, num (q.take 5), !okLen (num (q.take 5))⟩ := by
  unfold dstep
  rw [if_neg (by simp), if_pos rfl, if_neg h]
theorem dstep_nil (ls : List Int) {now : Int} (h : now ≠ 0) : dstep [] ls now false = ⟨3, 0, ls, now, false⟩ := by
  unfold dstep
  rw [if_neg (by simp), if_neg h]
theorem dstep_one (ls : List Int) {now : Int} (h : now ≠ 0) : dstep [true] ls now false = ⟨3, 0, ls, now, false⟩ := by
  unfold dstep
  rw [if_neg (by simp), if_neg h]
theorem dstep_same (t : List Bool) (ls : List Int) {now : Int} (h : now ≠ 0) : dstep (false :: t) ls now false = ⟨0, 1, ls ++ [now], now, false⟩ := by
  unfold dstep
  rw [if_neg (by simp), if_neg h]
theorem dstep_move (b : Bool) (t : List Bool) (ls : List Int) {now : Int} (h : now ≠ 0) : dstep (true :: b :: t) ls now false = ⟨eOf (okLen (nx now b)), 2, ls, nx now b, !okLen (nx now b)⟩ := by
  unfold dstep
  rw [if_neg (by simp), if_neg h]
/-- What is known behind p bits of all is right. -/
def Rt (Q : List Bool) (N p : Nat) (ls : List Int) (now : Int) : Prop :=
  ls.length ≤ N ∧ ((now = 0 ∧ ls = [] ∧ p = 0) ∨ (1 ≤ now ∧ now ≤ 20 ∧ rd Q N = (run (Q.drop p) (N - ls.length) now).add ls p))
theorem Rt.start (Q : List Bool) (N : Nat) : Rt Q N 0 [] 0 := ⟨Nat.zero_le _, Or.inl ⟨rfl, rfl, rfl⟩⟩
theorem rd_five {Q : List Bool} {N : Nat} (h : ¬ Q.length < 5) : rd Q N = if (num (Q.take 5) : Int) < 1 ∨ 20 < (num (Q.take 5) : Int) then .table else (run (Q.drop 5) N (num (Q.take 5))).add [] 5 := by
  unfold rd
  rw [if_neg h]
/-- A step of the bits q that are there; r comes behind them. -/
theorem Rt.step {Q : List Bool} {N p : Nat} {ls : List Int} {now : Int} (h : Rt Q N p ls now) (hl : ls.length < N) (q r : List Bool) (hq : Q.drop p = q ++ r) :
    ((dstep q ls now false).err = 0 ∧ (dstep q ls now false).bad = false ∧ 1 ≤ (dstep q ls now false).used ∧ (dstep q ls now false).used ≤ q.length ∧ Rt Q N (p + (dstep q ls now false).used) (dstep q ls now false).ls (dstep q ls now false).now) ∨
    ((dstep q ls now false).err = 22 ∧ (dstep q ls now false).bad = true ∧ (dstep q ls now false).used ≤ q.length ∧ rd Q N = .table ∧ (dstep q ls now false).ls = ls) ∨
    (dstep q ls now false = ⟨3, 0, ls, now, false⟩ ∧ (r = [] → rd Q N = .short)) := by
  obtain ⟨hle, h | ⟨h1, h20, hr⟩⟩ := h
  · obtain ⟨rfl, rfl, rfl⟩ := h
    rw [List.drop_zero] at hq
    by_cases h5 : q.length < 5
    · refine Or.inr (Or.inr ⟨dstep_few q [] h5, fun hr => ?_⟩)
      rw [hr, List.append_nil] at hq
      unfold rd
      rw [hq, if_pos h5]
    · rw [dstep_first q [] h5]
      have hQ5 : ¬ Q.length < 5 := by rw [hq, List.length_append]; omega
      have ht : Q.take 5 = q.take 5 := by rw [hq, List.take_append_of_le_length (by omega)]
      have h2 := rd_five (N := N) hQ5
      rw [ht] at h2
      cases hk : okLen (num (q.take 5))
      · refine Or.inr (Or.inl ⟨rfl, rfl, by show 5 ≤ q.length; omega, ?_, rfl⟩)
        rw [h2, if_pos]
        have h3 : ¬ (1 ≤ (num (q.take 5) : Int) ∧ (num (q.take 5) : Int) ≤ 20) := fun e => by rw [(okLen_iff _).2 e] at hk; cases hk
        omega
      · have h3 := (okLen_iff _).1 hk
        refine Or.inl ⟨rfl, rfl, by show 1 ≤ 5; omega, by show 5 ≤ q.length; omega, hle, Or.inr ⟨h3.1, h3.2, ?_⟩⟩
        rw [h2, if_neg (by omega)]
        rfl
  · have hn0 : now ≠ 0 := by omega
    obtain ⟨M, hM⟩ : ∃ M, N - ls.length = M + 1 := ⟨N - ls.length - 1, by omega⟩
    rw [hM, hq] at hr
    match q, hq, hr with
    | [], hq, hr =>
      refine Or.inr (Or.inr ⟨dstep_nil ls hn0, fun e => ?_⟩)
      subst e
      rw [hr]
      rfl
    | [true], hq, hr =>
      refine Or.inr (Or.inr ⟨dstep_one ls hn0, fun e => ?_⟩)
      subst e
      rw [hr]
      rfl
    | false :: t, hq, hr =>
      rw [dstep_same t ls hn0]
      refine Or.inl ⟨rfl, rfl, Nat.le_refl _, by show 1 ≤ t.length + 1; omega, by show (ls ++ [now]).length ≤ N; rw [List.length_append]; exact hl, Or.inr ⟨h1, h20, ?_⟩⟩
      have hd : Q.drop (p + 1) = t ++ r := by
        rw [← List.drop_drop, hq]
        rfl
      show rd Q N = (run (Q.drop (p + 1)) (N - (ls ++ [now]).length) now).add (ls ++ [now]) (p + 1)
      rw [hr, hd]
      show (run (false :: (t ++ r)) (M + 1) now).add ls p = _
      rw [run_same, add_add, List.length_append, show N - (ls.length + [now].length) = M from by show N - (ls.length + 1) = M; omega]
    | true :: b :: t, hq, hr =>
      rw [dstep_move b t ls hn0]
      have hd : Q.drop (p + 2) = t ++ r := by
        rw [← List.drop_drop, hq]
        rfl
      cases hk : okLen (nx now b)
      · have h3 : ¬ (1 ≤ nx now b ∧ nx now b ≤ 20) := fun e => by rw [(okLen_iff _).2 e] at hk; cases hk
        refine Or.inr (Or.inl ⟨rfl, rfl, by show 2 ≤ t.length + 2; omega, ?_, rfl⟩)
        rw [hr]
        show (run (true :: b :: (t ++ r)) (M + 1) now).add ls p = _
        rw [run_bad _ _ _ _ (by omega)]
        rfl
      · have h3 := (okLen_iff _).1 hk
        refine Or.inl ⟨rfl, rfl, by show 1 ≤ 2; omega, by show 2 ≤ t.length + 2; omega, hle, Or.inr ⟨h3.1, h3.2, ?_⟩⟩
        show rd Q N = (run (Q.drop (p + 2)) (N - ls.length) (nx now b)).add ls (p + 2)
        rw [hr, hd, hM]
        show (run (true :: b :: (t ++ r)) (M + 1) now).add ls p = _
        rw [run_move _ _ _ _ (by omega), add_add, List.append_nil]
/-- All were read. -/
theorem Rt.all {Q : List Bool} {N p : Nat} {ls : List Int} {now : Int} (h : Rt Q N p ls now) (hl : ls.length = N) (hN : 0 < N) : rd Q N = .ok ls p := by
  obtain ⟨hle, h | ⟨h1, h20, hr⟩⟩ := h
  · obtain ⟨rfl, rfl, rfl⟩ := h
    simp at hl
    omega
  · rw [hr, show N - ls.length = 0 by omega, run_zero]
    show Res.ok (ls ++ []) (p + 0) = _
    rw [List.append_nil]
    rfl
theorem Rt.now {Q : List Bool} {N p : Nat} {ls : List Int} {now : Int} (h : Rt Q N p ls now) : 0 ≤ now ∧ now ≤ 20 := by
  obtain ⟨hle, h | ⟨h1, h20, hr⟩⟩ := h
  · omega
  · omega
end DelM
end Go.Proofs.YtojphcoghbiepaaGreatDoor
namespace Go.Proofs.YtojphcoghbiepaaGreatDoor
namespace HufM
open Go.RowKit
set_option linter.unusedVariables false

/-! ### Sums -/
def sumN {α : Type} (f : α → Nat) : List α → Nat
  | [] => 0
  | x :: t => f x + sumN f t
theorem sumN_perm {α : Type} (f : α → Nat) {a b : List α} (h : a.Perm b) : sumN f a = sumN f b := by
  induction h with
  | nil => rfl
  | cons x _ ih => simp only [sumN, ih]
  | swap x y l => simp only [sumN]; omega
  | trans _ _ ih1 ih2 => exact ih1.trans ih2
/-! ### What lengths cost, and their share -/
/-- A weight, and a length. -/
abbrev WL := Nat × Nat
def cost (P : List WL) : Nat := sumN (fun p => p.1 * p.2) P
theorem split_mem {α : Type} {P : List α} {p : α} (h : p ∈ P) : ∃ Q, P.Perm (p :: Q) := by
  obtain ⟨s, t, rfl⟩ := List.append_of_mem h
  exact ⟨s ++ t, List.perm_middle⟩
/-! ### Weights joined two by two -/
/-- c is what the joined weights are, together, if always two least ones are joined. -/
inductive Huff : List Nat → Nat → Prop
  | one (w : Nat) : Huff [w] 0
  | step (l : List Nat) (x y : Nat) (r : List Nat) (c : Nat) : l.Perm (x :: y :: r) → x ≤ y → (∀ a ∈ r, y ≤ a) → Huff ((x + y) :: r) c → Huff l (c + (x + y))
/-! ### Trees by weight and number -/
/-- A tree: its weight, its number. -/
abbrev Tr := Nat × Nat
def lt (a b : Tr) : Prop := a.1 < b.1 ∨ (a.1 = b.1 ∧ a.2 < b.2)
theorem lt_or (a b : Tr) (h : a.2 ≠ b.2) : lt a b ∨ lt b a := by unfold lt; omega
theorem lt_asym {a b : Tr} (h : lt a b) : ¬ lt b a := by unfold lt at *; omega
theorem lt_trans {a b c : Tr} (h : lt a b) (k : lt b c) : lt a c := by unfold lt at *; omega
theorem lt_le {a b : Tr} (h : lt a b) : a.1 ≤ b.1 := by unfold lt at h; omega
/-- d are the depths of trees (by number), if from the trees l on always the two least are joined; k is the next number. -/
inductive Run : Nat → List Tr → (Nat → Nat) → Prop
  | one (k : Nat) (t : Tr) (d : Nat → Nat) : d t.2 = 0 → Run k [t] d
  | step (k : Nat) (l : List Tr) (x y : Tr) (r : List Tr) (d : Nat → Nat) : l.Perm (x :: y :: r) → lt x y → (∀ t ∈ r, lt y t) → Run (k + 1) ((x.1 + y.1, k) :: r) d → d x.2 = d k + 1 → d y.2 = d k + 1 → Run k l d
theorem Run.perm {k : Nat} {l l2 : List Tr} {d : Nat → Nat} (h : Run k l d) (hp : l.Perm l2) : Run k l2 d := by
  cases h with
  | one _ t _ h0 =>
    obtain rfl : l2 = [t] := List.perm_singleton.1 hp.symm
    exact .one _ _ _ h0
  | step _ _ x y r _ h1 h2 h3 h4 h5 h6 => exact .step _ _ x y r _ (hp.symm.trans h1) h2 h3 h4 h5 h6
/-- What the depths cost is what the joined weights are. -/
theorem Run.cost {k : Nat} {l : List Tr} {d : Nat → Nat} (h : Run k l d) : Huff (l.map (·.1)) (sumN (fun t => t.1 * d t.2) l) := by
  induction h with
  | one k t d h0 =>
    simp only [List.map_cons, List.map_nil, sumN, h0, Nat.mul_zero, Nat.add_zero]
    exact .one _
  | step k l x y r d hp hxy hr _ hx hy ih =>
    rw [sumN_perm _ hp]
    simp only [sumN, hx, hy]
    simp only [sumN, List.map_cons] at ih
    have := Huff.step (l.map (·.1)) x.1 y.1 (r.map (·.1)) _ (by simpa using hp.map (·.1)) (lt_le hxy) (fun a ha => by
      obtain ⟨t, ht, rfl⟩ := List.mem_map.1 ha
      exact lt_le (hr t ht)) ih
    have e : (x.1 + y.1) * d k + sumN (fun t => t.1 * d t.2) r + (x.1 + y.1) = x.1 * (d k + 1) + (y.1 * (d k + 1) + sumN (fun t => t.1 * d t.2) r) := by
      simp only [Nat.mul_add, Nat.add_mul, Nat.mul_one]; omega
    rw [e] at this
    exact this
/-- Their share is whole. -/
theorem Run.whole {k : Nat} {l : List Tr} {d : Nat → Nat} (h : Run k l d) : ∀ K, (∀ t ∈ l, d t.2 ≤ K) → sumN (fun t => 2 ^ (K - d t.2)) l = 2 ^ K := by
  induction h with
  | one k t d h0 => intro K _; simp only [sumN, h0, Nat.sub_zero, Nat.add_zero]
  | step k l x y r d hp hxy hr _ hx hy ih =>
    intro K hK
    rw [sumN_perm _ hp]
    have h1 := hK x (hp.mem_iff.2 (List.mem_cons_self ..))
    rw [hx] at h1
    have h2 := ih K (fun t ht => by
      rcases List.mem_cons.1 ht with rfl | ht
      · simp only; omega
      · exact hK t (hp.mem_iff.2 (List.mem_cons_of_mem _ (List.mem_cons_of_mem _ ht))))
    simp only [sumN] at h2 ⊢
    rw [hx, hy]
    have e : 2 ^ (K - d k) = 2 ^ (K - (d k + 1)) + 2 ^ (K - (d k + 1)) := by
      rw [show K - d k = K - (d k + 1) + 1 by omega, Nat.pow_succ]; omega
    omega
/-- A tree's weight. -/
def wt (t : Tr) : Nat := t.1
/-- How much trees weigh, if one of weight a lies D deep, and the others weigh m or more. -/
def grow : Nat → Nat → Nat → Nat
  | 0, a, _ => a
  | D + 1, a, m => grow D (a + m) (max a m)
theorem grow_mono : ∀ (D a b m n : Nat), a ≤ b → m ≤ n → grow D a m ≤ grow D b n
  | 0, a, b, m, n, h, _ => h
  | D + 1, a, b, m, n, h, k => grow_mono D _ _ _ _ (by omega) (by omega)
theorem Run.deep {k : Nat} {l : List Tr} {d : Nat → Nat} (h : Run k l d) : ∀ (t : Tr) (r : List Tr) (m : Nat), l.Perm (t :: r) → (∀ u ∈ r, m ≤ u.1) → grow (d t.2) t.1 m ≤ sumN wt l := by
  induction h with
  | one k t d h0 =>
    intro u r m hp hm
    have := List.perm_singleton.1 hp.symm
    simp only [List.cons.injEq] at this
    obtain ⟨rfl, rfl⟩ := this
    rw [h0]
    simp [grow, sumN, wt]
  | step k l x y r d hp hxy hr _ hx hy ih =>
    intro t q m hq hm
    have hs : sumN wt l = sumN wt (((x.1 + y.1, k) : Tr) :: r) := by
      rw [sumN_perm _ hp]; simp only [sumN, wt]; omega
    have hpq := hp.symm.trans hq
    have hxw := lt_le hxy
    rw [hs]
    by_cases htx : t = x
    · subst htx
      have hqq := hpq.cons_inv
      have hmy := hm y (hqq.mem_iff.1 (List.mem_cons_self ..))
      have h1 := ih (t.1 + y.1, k) r (max t.1 m) (List.Perm.refl _) (fun u hu => by
        have h2 := lt_le (hr u hu)
        omega)
      rw [hx]
      exact Nat.le_trans (grow_mono (d k) (t.1 + m) (t.1 + y.1) (max t.1 m) (max t.1 m) (by omega) (Nat.le_refl _)) h1
    · by_cases hty : t = y
      · subst hty
        have hqq := ((List.Perm.swap x t r).trans hpq).cons_inv
        have hmx := hm x (hqq.mem_iff.1 (List.mem_cons_self ..))
        have h1 := ih (x.1 + t.1, k) r (max t.1 m) (List.Perm.refl _) (fun u hu => by
          have h2 := lt_le (hr u hu)
          have h3 := hm u (hqq.mem_iff.1 (List.mem_cons_of_mem _ hu))
          omega)
        rw [hy]
        have h2 : grow (d k) (t.1 + m) (max t.1 m) ≤ grow (d k) (x.1 + t.1) (max t.1 m) := grow_mono _ _ _ _ _ (by omega) (Nat.le_refl _)
        exact Nat.le_trans h2 h1
      · have htr : t ∈ r := by
          have : t ∈ x :: y :: r := hpq.mem_iff.2 (List.mem_cons_self ..)
          rcases List.mem_cons.1 this with h | h
          · exact absurd h htx
          · rcases List.mem_cons.1 h with h | h
            · exact absurd h hty
            · exact h
        obtain ⟨r2, hr2⟩ := split_mem htr
        have hqq : (x :: y :: r2).Perm q := by
          have h1 : (x :: y :: r).Perm (t :: x :: y :: r2) :=
            ((hr2.cons y).cons x).trans (((List.Perm.swap t y r2).cons x).trans (List.Perm.swap t x (y :: r2)))
          exact (h1.symm.trans hpq).cons_inv
        refine ih t (((x.1 + y.1, k) : Tr) :: r2) m ((hr2.cons _).trans (List.Perm.swap _ _ _)) (fun u hu => ?_)
        rcases List.mem_cons.1 hu with rfl | hu
        · have := hm x (hqq.mem_iff.1 (List.mem_cons_self ..)); simp only; omega
        · exact hm u (hqq.mem_iff.1 (List.mem_cons_of_mem _ (List.mem_cons_of_mem _ hu)))
end HufM
end Go.Proofs.YtojphcoghbiepaaGreatDoor
namespace Go.Proofs.YtojphcoghbiepaaGreatDoor
namespace HufM
open Go.RowKit
set_option linter.unusedVariables false

/-- No two trees have one number. -/
def Dis (l : List Tr) : Prop := l.Pairwise (fun a b => a.2 ≠ b.2)
theorem Dis.perm {l m : List Tr} (h : Dis l) (p : l.Perm m) : Dis m := (p.pairwise_iff (fun h => fun e => h e.symm)).1 h
theorem Run.congr {k : Nat} {l : List Tr} {d : Nat → Nat} (h : Run k l d) : ∀ d' : Nat → Nat, (∀ t ∈ l, d' t.2 = d t.2) → (∀ n, k ≤ n → d' n = d n) → Run k l d' := by
  induction h with
  | one k t d h0 => intro d' h1 _; exact .one _ _ _ (by rw [h1 t (List.mem_cons_self ..), h0])
  | step k l x y r d hp hxy hr _ hx hy ih =>
    intro d' h1 h2
    refine .step _ _ x y r _ hp hxy hr (ih d' (fun t ht => ?_) (fun n hn => h2 n (by omega))) ?_ ?_
    · rcases List.mem_cons.1 ht with rfl | ht
      · exact h2 k (Nat.le_refl _)
      · exact h1 t (hp.mem_iff.2 (List.mem_cons_of_mem _ (List.mem_cons_of_mem _ ht)))
    · rw [h1 x (hp.mem_iff.2 (List.mem_cons_self ..)), h2 k (Nat.le_refl _), hx]
    · rw [h1 y (hp.mem_iff.2 (List.mem_cons_of_mem _ (List.mem_cons_self ..))), h2 k (Nat.le_refl _), hy]
theorem least_mem : ∀ (l : List Tr), l ≠ [] → Dis l → ∃ x r, l.Perm (x :: r) ∧ ∀ t ∈ r, lt x t
  | [], h, _ => absurd rfl h
  | [a], _, _ => ⟨a, [], List.Perm.refl _, fun t h => (by cases h)⟩
  | a :: b :: t, _, hd => by
    obtain ⟨ha, hd2⟩ := List.pairwise_cons.1 hd
    obtain ⟨x, r, hp, hx⟩ := least_mem (b :: t) (by simp) hd2
    have hxm : x ∈ b :: t := hp.mem_iff.2 (List.mem_cons_self ..)
    rcases lt_or a x (ha x hxm) with h | h
    · exact ⟨a, x :: r, hp.cons a, fun u hu => by
        rcases List.mem_cons.1 hu with rfl | hu
        · exact h
        · exact lt_trans h (hx u hu)⟩
    · exact ⟨x, a :: r, (hp.cons a).trans (List.Perm.swap x a r), fun u hu => by
        rcases List.mem_cons.1 hu with rfl | hu
        · exact h
        · exact hx u hu⟩
theorem two_least (l : List Tr) (h : 2 ≤ l.length) (hd : Dis l) : ∃ x y r, l.Perm (x :: y :: r) ∧ lt x y ∧ ∀ t ∈ r, lt y t := by
  obtain ⟨x, q, hp, hx⟩ := least_mem l (by rintro rfl; simp at h) hd
  have hl := hp.length_eq
  have hq := (List.pairwise_cons.1 (hd.perm hp)).2
  obtain ⟨y, r, hp2, hy⟩ := least_mem q (by rintro rfl; simp at hl; omega) hq
  exact ⟨x, y, r, hp.trans (hp2.cons x), hx y (hp2.mem_iff.2 (List.mem_cons_self ..)), hy⟩
theorem Run.exists : ∀ (n k : Nat) (l : List Tr), l.length = n + 1 → Dis l → (∀ t ∈ l, t.2 < k) → ∃ d, Run k l d
  | 0, k, l, hl, _, _ => by
    obtain ⟨t, rfl⟩ := List.length_eq_one_iff.1 hl
    exact ⟨fun _ => 0, .one _ _ _ rfl⟩
  | n + 1, k, l, hl, hd, hk => by
    obtain ⟨x, y, r, hp, hxy, hr⟩ := two_least l (by omega) hd
    have hlen := hp.length_eq
    have hdp := hd.perm hp
    obtain ⟨hdx, hd2⟩ := List.pairwise_cons.1 hdp
    obtain ⟨hdy, hd3⟩ := List.pairwise_cons.1 hd2
    have hkr : ∀ t ∈ r, t.2 < k := fun t ht => hk t (hp.mem_iff.2 (List.mem_cons_of_mem _ (List.mem_cons_of_mem _ ht)))
    have hkx := hk x (hp.mem_iff.2 (List.mem_cons_self ..))
    have hky := hk y (hp.mem_iff.2 (List.mem_cons_of_mem _ (List.mem_cons_self ..)))
    obtain ⟨d, hrun⟩ := Run.exists n (k + 1) (((x.1 + y.1, k) : Tr) :: r) (by simp at hlen ⊢; omega)
      (List.pairwise_cons.2 ⟨fun t ht => by have := hkr t ht; simp only; omega, hd3⟩)
      (fun t ht => by
        rcases List.mem_cons.1 ht with rfl | ht
        · exact Nat.lt_succ_self _
        · exact Nat.lt_succ_of_lt (hkr t ht))
    refine ⟨fun i => if i = x.2 ∨ i = y.2 then d k + 1 else d i, .step _ _ x y r _ hp hxy hr (hrun.congr _ (fun t ht => ?_) (fun i hi => if_neg (by omega))) ?_ ?_⟩
    · refine if_neg ?_
      rcases List.mem_cons.1 ht with rfl | ht
      · simp only; omega
      · have h1 := hdx t (List.mem_cons_of_mem _ ht)
        have h2 := hdy t ht
        omega
    · show (if x.2 = x.2 ∨ x.2 = y.2 then _ else _) = (if k = x.2 ∨ k = y.2 then _ else _) + 1
      rw [if_pos (Or.inl rfl), if_neg (by omega)]
    · show (if y.2 = x.2 ∨ y.2 = y.2 then _ else _) = (if k = x.2 ∨ k = y.2 then _ else _) + 1
      rw [if_pos (Or.inr rfl), if_neg (by omega)]
theorem least_one {x x' : Tr} {r r' : List Tr} (hp : (x :: r).Perm (x' :: r')) (h : ∀ t ∈ r, lt x t) (h' : ∀ t ∈ r', lt x' t) : x = x' ∧ r.Perm r' := by
  have hx : x' ∈ x :: r := hp.mem_iff.2 (List.mem_cons_self ..)
  have hx' : x ∈ x' :: r' := hp.mem_iff.1 (List.mem_cons_self ..)
  have e : x = x' := by
    rcases List.mem_cons.1 hx with e | hx
    · exact e.symm
    · rcases List.mem_cons.1 hx' with e | hx'
      · exact e
      · exact absurd (h x' hx) (lt_asym (h' x hx'))
  subst e
  exact ⟨rfl, hp.cons_inv⟩
/-- What is joined next is what the two least are: the depths go on. -/
theorem Run.next {k : Nat} {l : List Tr} {d : Nat → Nat} (h : Run k l d) {x y : Tr} {r : List Tr} (hp : l.Perm (x :: y :: r)) (hxy : lt x y) (hr : ∀ t ∈ r, lt y t) :
    Run (k + 1) ((x.1 + y.1, k) :: r) d ∧ d x.2 = d k + 1 ∧ d y.2 = d k + 1 := by
  cases h with
  | one _ t _ h0 =>
    have := hp.length_eq
    simp at this
  | step _ _ a b q _ hq hab hb hrun ha hb2 =>
    obtain ⟨rfl, h2⟩ := least_one (hq.symm.trans hp) (fun t ht => by
      rcases List.mem_cons.1 ht with rfl | ht
      · exact hab
      · exact lt_trans hab (hb t ht)) (fun t ht => by
      rcases List.mem_cons.1 ht with rfl | ht
      · exact hxy
      · exact lt_trans hxy (hr t ht))
    obtain ⟨rfl, h3⟩ := least_one h2 hb hr
    exact ⟨hrun.perm (h3.cons _), ha, hb2⟩
theorem Run.end_ {k : Nat} {t : Tr} {d : Nat → Nat} (h : Run k [t] d) : d t.2 = 0 := by
  cases h with
  | one _ _ _ h0 => exact h0
  | step _ _ a b q _ hq _ _ _ _ _ =>
    have := hq.length_eq
    simp at this

/-! ### Two rows -/
/-- Symbols wait in A, joined trees in B, each row from the least one on. -/
structure Two (n k : Nat) (A B : List Tr) : Prop where
  a : A.Pairwise lt
  b : B.Pairwise lt
  an : ∀ t ∈ A, t.2 < n
  bn : ∀ t ∈ B, n ≤ t.2 ∧ t.2 < k
  low : ∃ m, (∀ t ∈ A, m ≤ t.1) ∧ (∀ t ∈ B, m ≤ t.1) ∧ ∀ t ∈ B, t.1 ≤ 2 * m
/-- The least tree of two rows, and what is left of them. -/
def pick : List Tr → List Tr → Option (Tr × List Tr × List Tr)
  | [], [] => none
  | a :: A, [] => some (a, A, [])
  | [], b :: B => some (b, [], B)
  | a :: A, b :: B => if a.1 ≤ b.1 then some (a, A, b :: B) else some (b, a :: A, B)
theorem pick_least {n k : Nat} {A B : List Tr} (h : Two n k A B) {x : Tr} {A' B' : List Tr} (hp : pick A B = some (x, A', B')) :
    (A ++ B).Perm (x :: (A' ++ B')) ∧ (∀ t ∈ A' ++ B', lt x t) ∧ Two n k A' B' := by
  obtain ⟨ha, hb, han, hbn, m, hm1, hm2, hm3⟩ := h
  cases A with
  | nil =>
    cases B with
    | nil => simp [pick] at hp
    | cons b B =>
      simp only [pick, Option.some.injEq, Prod.mk.injEq] at hp
      obtain ⟨rfl, rfl, rfl⟩ := hp
      obtain ⟨h1, h2⟩ := List.pairwise_cons.1 hb
      exact ⟨List.Perm.refl _, h1, ⟨List.Pairwise.nil, h2, fun t h => (by cases h), fun t ht => hbn t (List.mem_cons_of_mem _ ht), m, fun t h => (by cases h), fun t ht => hm2 t (List.mem_cons_of_mem _ ht), fun t ht => hm3 t (List.mem_cons_of_mem _ ht)⟩⟩
  | cons a A =>
    obtain ⟨h1, h2⟩ := List.pairwise_cons.1 ha
    cases B with
    | nil =>
      simp only [pick, Option.some.injEq, Prod.mk.injEq] at hp
      obtain ⟨rfl, rfl, rfl⟩ := hp
      exact ⟨List.Perm.refl _, fun t ht => h1 t (by simpa using ht), ⟨h2, List.Pairwise.nil, fun t ht => han t (List.mem_cons_of_mem _ ht), fun t h => (by cases h), m, fun t ht => hm1 t (List.mem_cons_of_mem _ ht), fun t h => (by cases h), fun t h => (by cases h)⟩⟩
    | cons b B =>
      obtain ⟨h3, h4⟩ := List.pairwise_cons.1 hb
      have hna := han a (List.mem_cons_self ..)
      have hnb := (hbn b (List.mem_cons_self ..)).1
      simp only [pick] at hp
      split at hp
      · rename_i hle
        simp only [Option.some.injEq, Prod.mk.injEq] at hp
        obtain ⟨rfl, rfl, rfl⟩ := hp
        have hab : lt a b := by unfold lt; omega
        refine ⟨List.Perm.refl _, fun t ht => ?_, ⟨h2, hb, fun t ht => han t (List.mem_cons_of_mem _ ht), hbn, m, fun t ht => hm1 t (List.mem_cons_of_mem _ ht), hm2, hm3⟩⟩
        rcases List.mem_append.1 ht with ht | ht
        · exact h1 t ht
        · rcases List.mem_cons.1 ht with rfl | ht
          · exact hab
          · exact lt_trans hab (h3 t ht)
      · rename_i hle
        simp only [Option.some.injEq, Prod.mk.injEq] at hp
        obtain ⟨rfl, rfl, rfl⟩ := hp
        have hba : lt b a := by unfold lt; omega
        refine ⟨List.perm_middle, fun t ht => ?_, ⟨ha, h4, han, fun t ht => hbn t (List.mem_cons_of_mem _ ht), m, hm1, fun t ht => hm2 t (List.mem_cons_of_mem _ ht), fun t ht => hm3 t (List.mem_cons_of_mem _ ht)⟩⟩
        rcases List.mem_append.1 ht with ht | ht
        · rcases List.mem_cons.1 ht with rfl | ht
          · exact hba
          · exact lt_trans hba (h1 t ht)
        · exact h3 t ht
/-- Two are taken and joined, and the joined one goes behind the others. -/
theorem Two.join {n k : Nat} {A B A1 B1 A2 B2 : List Tr} {x y : Tr} (h : Two n k A B) (hnk : n ≤ k) (h1 : pick A B = some (x, A1, B1)) (h2 : pick A1 B1 = some (y, A2, B2)) :
    Two n (k + 1) A2 (B2 ++ [(x.1 + y.1, k)]) ∧ (A ++ B).Perm (x :: y :: (A2 ++ B2)) ∧ lt x y ∧ ∀ t ∈ A2 ++ B2, lt y t := by
  obtain ⟨p1, l1, t1⟩ := pick_least h h1
  obtain ⟨p2, l2, t2⟩ := pick_least t1 h2
  have hxy : lt x y := l1 y (p2.mem_iff.2 (List.mem_cons_self ..))
  have hp : (A ++ B).Perm (x :: y :: (A2 ++ B2)) := p1.trans (p2.cons x)
  refine ⟨?_, hp, hxy, l2⟩
  obtain ⟨m, hm1, hm2, hm3⟩ := h.low
  have hsub : ∀ t ∈ B2, t ∈ B := fun t ht => by
    have h3 : t ∈ A ++ B := hp.mem_iff.2 (List.mem_cons_of_mem _ (List.mem_cons_of_mem _ (List.mem_append_right _ ht)))
    rcases List.mem_append.1 h3 with h4 | h4
    · have h5 := h.an t h4
      have h6 := (t2.bn t ht).1
      omega
    · exact h4
  have hmx : m ≤ x.1 := by
    have h3 : x ∈ A ++ B := hp.mem_iff.2 (List.mem_cons_self ..)
    rcases List.mem_append.1 h3 with h4 | h4
    · exact hm1 x h4
    · exact hm2 x h4
  have hxyw := lt_le hxy
  refine ⟨t2.a, ?_, t2.an, fun t ht => ?_, y.1, fun t ht => lt_le (l2 t (List.mem_append_left _ ht)), fun t ht => ?_, fun t ht => ?_⟩
  · refine List.pairwise_append.2 ⟨t2.b, List.pairwise_singleton _ _, fun a ha b hb => ?_⟩
    rw [List.mem_singleton] at hb
    subst hb
    have h3 := hm3 a (hsub a ha)
    have h4 := (t2.bn a ha).2
    unfold lt
    simp only
    omega
  · rcases List.mem_append.1 ht with ht | ht
    · have := t2.bn t ht; omega
    · rw [List.mem_singleton] at ht; subst ht; simp only; omega
  · rcases List.mem_append.1 ht with ht | ht
    · exact lt_le (l2 t (List.mem_append_right _ ht))
    · rw [List.mem_singleton] at ht; subst ht; simp only; omega
  · rcases List.mem_append.1 ht with ht | ht
    · have := hm3 t (hsub t ht); omega
    · rw [List.mem_singleton] at ht; subst ht; simp only; omega
theorem Two.start {n : Nat} {A : List Tr} (ha : A.Pairwise lt) (hn : ∀ t ∈ A, t.2 < n) : Two n n A [] :=
  ⟨ha, List.Pairwise.nil, hn, fun t h => (by cases h), 0, fun t _ => Nat.zero_le _, fun t h => (by cases h), fun t h => (by cases h)⟩
theorem Two.dis {n k : Nat} {A B : List Tr} (h : Two n k A B) (hA : Dis A) (hB : Dis B) : Dis (A ++ B) :=
  List.pairwise_append.2 ⟨hA, hB, fun a ha b hb => by have h1 := h.an a ha; have h2 := (h.bn b hb).1; omega⟩
end HufM
end Go.Proofs.YtojphcoghbiepaaGreatDoor
namespace Go.Proofs.YtojphcoghbiepaaGreatDoor
namespace HufM
open Go.RowKit
set_option linter.unusedVariables false

theorem Run.unique {k : Nat} {l : List Tr} {d : Nat → Nat} (h : Run k l d) : ∀ d', Run k l d' → ∀ t ∈ l, d t.2 = d' t.2 := by
  induction h with
  | one k t d h0 =>
    intro d' h' u hu
    rw [List.mem_singleton] at hu
    subst hu
    rw [h0, h'.end_]
  | step k l x y r d hp hxy hr hrun hx hy ih =>
    intro d' h' u hu
    obtain ⟨h1, h2, h3⟩ := h'.next hp hxy hr
    have key := ih d' h1
    have hk : d k = d' k := key ((x.1 + y.1, k) : Tr) (List.mem_cons_self ..)
    rcases List.mem_cons.1 (hp.mem_iff.1 hu) with rfl | hu
    · rw [hx, h2, hk]
    · rcases List.mem_cons.1 hu with rfl | hu
      · rw [hy, h3, hk]
      · exact key u (List.mem_cons_of_mem _ hu)
theorem Run.pos {k : Nat} {l : List Tr} {d : Nat → Nat} (h : Run k l d) : 2 ≤ l.length → ∀ t ∈ l, 1 ≤ d t.2 := by
  induction h with
  | one k t d h0 => intro h; simp at h
  | step k l x y r d hp hxy hr hrun hx hy ih =>
    intro _ u hu
    rcases List.mem_cons.1 (hp.mem_iff.1 hu) with rfl | hu
    · omega
    · rcases List.mem_cons.1 hu with rfl | hu
      · omega
      · refine ih ?_ u (List.mem_cons_of_mem _ hu)
        cases r with
        | nil => cases hu
        | cons a b => simp
theorem Run.short {k : Nat} {l : List Tr} {d : Nat → Nat} (h : Run k l d) : ∀ t ∈ l, d t.2 + 1 ≤ l.length := by
  induction h with
  | one k t d h0 =>
    intro u hu
    rw [List.mem_singleton] at hu
    subst hu
    rw [h0]; simp
  | step k l x y r d hp hxy hr hrun hx hy ih =>
    intro u hu
    have hl := hp.length_eq
    simp only [List.length_cons] at hl ih
    have hk := ih ((x.1 + y.1, k) : Tr) (List.mem_cons_self ..)
    simp only at hk
    rcases List.mem_cons.1 (hp.mem_iff.1 hu) with rfl | hu
    · omega
    · rcases List.mem_cons.1 hu with rfl | hu
      · omega
      · have := ih u (List.mem_cons_of_mem _ hu); omega
theorem sumN_map {α β : Type} (f : β → Nat) (g : α → β) (l : List α) : sumN f (l.map g) = sumN (fun x => f (g x)) l := by
  induction l with
  | nil => rfl
  | cons x t ih => simp only [List.map_cons, sumN, ih]
theorem sumN_append {α : Type} (f : α → Nat) (a b : List α) : sumN f (a ++ b) = sumN f a + sumN f b := by
  induction a with
  | nil => simp [sumN]
  | cons x t ih => simp only [List.cons_append, sumN, ih]; omega
theorem sumN_range (f : Nat → Nat) (k : Nat) : sumN f (List.range (k + 1)) = sumN f (List.range k) + f k := by
  rw [List.range_succ, sumN_append]; simp [sumN]
theorem sumN_congr {α : Type} {f g : α → Nat} {l : List α} (h : ∀ x ∈ l, f x = g x) : sumN f l = sumN g l := by
  induction l with
  | nil => rfl
  | cons x t ih => simp only [sumN]; rw [h x (List.mem_cons_self ..), ih (fun y hy => h y (List.mem_cons_of_mem _ hy))]
theorem sumN_le {α : Type} {f : α → Nat} {l : List α} {c : Nat} (h : ∀ x ∈ l, f x ≤ c) : sumN f l ≤ c * l.length := by
  induction l with
  | nil => simp [sumN]
  | cons x t ih =>
    have h1 := h x (List.mem_cons_self ..)
    have h2 := ih (fun y hy => h y (List.mem_cons_of_mem _ hy))
    simp only [sumN, List.length_cons, Nat.mul_add]
    omega

/-! ### The depths of a row of weights -/
/-- Each symbol is a tree by itself. -/
def ini (w : List Int) : List Tr := (List.range w.length).map fun i => ((w.getD i 0).toNat, i)
theorem ini_len (w : List Int) : (ini w).length = w.length := by simp [ini]
theorem ini_mem {w : List Int} {t : Tr} (h : t ∈ ini w) : t.2 < w.length ∧ t.1 = (w.getD t.2 0).toNat := by
  obtain ⟨i, hi, rfl⟩ := List.mem_map.1 h
  exact ⟨List.mem_range.1 hi, rfl⟩
theorem ini_of {w : List Int} {i : Nat} (h : i < w.length) : ((w.getD i 0).toNat, i) ∈ ini w := List.mem_map.2 ⟨i, List.mem_range.2 h, rfl⟩
theorem ini_dis (w : List Int) : Dis (ini w) := by
  unfold Dis ini
  rw [List.pairwise_map]
  exact List.pairwise_lt_range.imp (fun h => by simp only; omega)
/-- The depths of weights. -/
def DepP (w zs : List Int) : Prop := ∃ d, Run w.length (ini w) d ∧ zs = (List.range w.length).map fun i => (d i : Int)
theorem DepP.exists {w : List Int} (h : 1 ≤ w.length) : ∃ zs, DepP w zs := by
  obtain ⟨d, hd⟩ := Run.exists (w.length - 1) w.length (ini w) (by rw [ini_len]; omega) (ini_dis w) (fun t ht => (ini_mem ht).1)
  exact ⟨_, d, hd, rfl⟩
theorem DepP.same {w zs ys : List Int} (h : DepP w zs) (k : DepP w ys) : zs = ys := by
  obtain ⟨d, hd, rfl⟩ := h
  obtain ⟨e, he, rfl⟩ := k
  apply List.map_congr_left
  intro i hi
  rw [hd.unique e he _ (ini_of (List.mem_range.1 hi))]
theorem DepP.len {w zs : List Int} (h : DepP w zs) : zs.length = w.length := by
  obtain ⟨d, _, rfl⟩ := h
  simp
theorem DepP.bound {w zs : List Int} (h : DepP w zs) (h2 : 2 ≤ w.length) : ∀ z ∈ zs, 1 ≤ z ∧ z + 1 ≤ (w.length : Int) := by
  obtain ⟨d, hd, rfl⟩ := h
  intro z hz
  obtain ⟨i, hi, rfl⟩ := List.mem_map.1 hz
  have hm := ini_of (w := w) (List.mem_range.1 hi)
  have h1 := hd.pos (by rw [ini_len]; exact h2) _ hm
  have h3 := hd.short _ hm
  rw [ini_len] at h3
  simp only at h1 h3
  omega
/-- The share of lengths. -/
def shr (l : List Int) : Nat := sumN (fun x => 2 ^ (20 - x.toNat)) l
theorem DepP.whole {w zs : List Int} (h : DepP w zs) (h20 : ∀ z ∈ zs, z ≤ 20) : shr zs = 2 ^ 20 := by
  obtain ⟨d, hd, rfl⟩ := h
  have hK : ∀ t ∈ ini w, d t.2 ≤ 20 := fun t ht => by
    have h1 := (ini_mem ht).1
    have h2 := h20 (d t.2 : Int) (List.mem_map.2 ⟨t.2, List.mem_range.2 h1, rfl⟩)
    omega
  have := hd.whole 20 hK
  unfold shr
  rw [sumN_map]
  unfold ini at this
  rw [sumN_map] at this
  simpa using this
theorem grow_up : ∀ (D a m : Nat), grow D a m ≤ grow (D + 1) a m
  | 0, a, m => by simp [grow]
  | D + 1, a, m => grow_up D (a + m) (max a m)
theorem grow_le : ∀ (e D a m : Nat), grow D a m ≤ grow (D + e) a m
  | 0, D, a, m => Nat.le_refl _
  | e + 1, D, a, m => Nat.le_trans (grow_le e D a m) (grow_up (D + e) a m)
theorem DepP.deep {w zs : List Int} (h : DepP w zs) (h2 : ∀ x ∈ w, 1 ≤ x ∧ x ≤ 2) (hn : w.length ≤ 1000) : ∀ z ∈ zs, z ≤ 20 := by
  obtain ⟨d, hd, rfl⟩ := h
  intro z hz
  obtain ⟨i, hi, rfl⟩ := List.mem_map.1 hz
  have hi' := List.mem_range.1 hi
  have hw : ∀ j, j < w.length → 1 ≤ w.getD j 0 ∧ w.getD j 0 ≤ 2 := fun j hj => h2 _ (by
    rw [List.getD_eq_getElem?_getD, List.getElem?_eq_getElem hj]
    exact List.getElem_mem hj)
  obtain ⟨r, hr⟩ := split_mem (ini_of hi')
  have h3 := hd.deep _ r 1 hr (fun u hu => by
    obtain ⟨h4, h5⟩ := ini_mem (hr.mem_iff.2 (List.mem_cons_of_mem _ hu))
    have := hw u.2 h4
    omega)
  have h4 : sumN wt (ini w) ≤ 2 * (ini w).length := sumN_le (fun t ht => by
    obtain ⟨h4, h5⟩ := ini_mem ht
    have := hw t.2 h4
    unfold wt
    omega)
  rw [ini_len] at h4
  by_cases hd20 : d i ≤ 20
  · omega
  · exfalso
    have h5 := grow_le (d i - 21) 21 1 1
    rw [show 21 + (d i - 21) = d i by omega] at h5
    have h6 := hw i hi'
    have h7 := grow_mono (d i) 1 (w.getD i 0).toNat 1 1 (by omega) (Nat.le_refl _)
    have h8 : grow 21 1 1 = 28657 := by decide
    simp only at h3
    omega

/-! ### Halves; lengths -/
def hv (x : Int) : Int := (if x < 0 then 0 else x) / 2 + 1
def hvs (w : List Int) : List Int := w.map hv
theorem hvs_len (w : List Int) : (hvs w).length = w.length := by simp [hvs]
/-- All weights are from 1 to 2^j + 1. -/
def Bd (j : Nat) (w : List Int) : Prop := ∀ x ∈ w, 1 ≤ x ∧ x ≤ ((2 ^ j + 1 : Nat) : Int)
theorem Bd.half {j : Nat} {w : List Int} (h : Bd (j + 1) w) : Bd j (hvs w) := by
  intro y hy
  obtain ⟨x, hx, rfl⟩ := List.mem_map.1 hy
  obtain ⟨h1, h2⟩ := h x hx
  rw [Nat.pow_succ] at h2
  unfold hv
  rw [if_neg (by omega)]
  omega
theorem Bd.stay {w : List Int} (h : Bd 0 w) : Bd 0 (hvs w) := by
  intro y hy
  obtain ⟨x, hx, rfl⟩ := List.mem_map.1 hy
  obtain ⟨h1, h2⟩ := h x hx
  simp at h2
  unfold hv
  rw [if_neg (by omega)]
  simp
  omega
/-- Lengths of weights: behind n halvings no depth is above 20. -/
inductive OfR : Nat → List Int → List Int → Prop
  | now (w zs : List Int) : DepP w zs → (∀ z ∈ zs, z ≤ 20) → OfR 0 w zs
  | later (n : Nat) (w ys zs : List Int) : DepP w ys → ¬ (∀ y ∈ ys, y ≤ 20) → OfR n (hvs w) zs → OfR (n + 1) w zs
theorem OfR.same {n : Nat} {w zs : List Int} (h : OfR n w zs) : ∀ m ys, OfR m w ys → zs = ys ∧ n = m := by
  induction h with
  | now w zs h1 h2 =>
    intro m ys h
    cases h with
    | now _ _ k1 k2 => exact ⟨h1.same k1, rfl⟩
    | later _ _ y2 _ k1 k2 k3 => rw [← h1.same k1] at k2; exact absurd h2 k2
  | later n w y zs h1 h2 _ ih =>
    intro m ys h
    cases h with
    | now _ _ k1 k2 => rw [← h1.same k1] at k2; exact absurd k2 h2
    | later _ _ y2 _ k1 k2 k3 =>
      obtain ⟨h3, rfl⟩ := ih _ _ k3
      exact ⟨h3, rfl⟩
theorem OfR.exists : ∀ (j : Nat) (w : List Int), Bd j w → 1 ≤ w.length → w.length ≤ 1000 → ∃ n zs, n ≤ j ∧ OfR n w zs
  | 0, w, hb, h1, h2 => by
    obtain ⟨zs, hz⟩ := DepP.exists h1
    exact ⟨0, zs, Nat.le_refl _, .now _ _ hz (hz.deep (fun x hx => by
      have := hb x hx
      simp at this
      omega) h2)⟩
  | j + 1, w, hb, h1, h2 => by
    obtain ⟨ys, hy⟩ := DepP.exists h1
    by_cases h : ∀ y ∈ ys, y ≤ 20
    · exact ⟨0, ys, Nat.zero_le _, .now _ _ hy h⟩
    · obtain ⟨n, zs, hn, ho⟩ := OfR.exists j (hvs w) hb.half (by rw [hvs_len]; exact h1) (by rw [hvs_len]; exact h2)
      exact ⟨n + 1, zs, by omega, .later _ _ ys _ hy h ho⟩
theorem OfR.whole {n : Nat} {w zs : List Int} (h : OfR n w zs) : 2 ≤ w.length → zs.length = w.length ∧ (∀ z ∈ zs, 1 ≤ z ∧ z ≤ 20) ∧ shr zs = 2 ^ 20 := by
  induction h with
  | now w zs h1 h2 => intro hl; exact ⟨h1.len, fun z hz => ⟨(h1.bound hl z hz).1, h2 z hz⟩, h1.whole h2⟩
  | later n w y zs h1 h2 _ ih =>
    intro hl
    have := ih (by rw [hvs_len]; exact hl)
    rw [hvs_len] at this
    exact this
end HufM
end Go.Proofs.YtojphcoghbiepaaGreatDoor
namespace Go.Proofs.YtojphcoghbiepaaGreatDoor
namespace CanM
open Go.RowKit HufM BitM
set_option linter.unusedVariables false

/-- How many rows of 20 bits a code of n bits begins. -/
def sz (n : Nat) : Nat := 2 ^ (20 - n)
/-- A symbol's length, and the symbol: in the order in which codes are given. -/
def ent (l : List Int) : List Tr := ini l
theorem sorted_is : ∀ (n : Nat) (l : List Tr), l.length = n → Dis l → ∃ os, l.Perm os ∧ os.Pairwise lt
  | 0, l, hl, _ => ⟨[], by rw [List.eq_nil_of_length_eq_zero hl], List.Pairwise.nil⟩
  | n + 1, l, hl, hd => by
    obtain ⟨x, r, hp, hx⟩ := least_mem l (by rintro rfl; simp at hl) hd
    have hlr := hp.length_eq
    obtain ⟨os, h1, h2⟩ := sorted_is n r (by simp at hlr; omega) (List.pairwise_cons.1 (hd.perm hp)).2
    exact ⟨x :: os, hp.trans (h1.cons x), List.pairwise_cons.2 ⟨fun t ht => hx t (h1.mem_iff.2 ht), h2⟩⟩
instance (a b : Tr) : Decidable (lt a b) := by unfold lt; exact inferInstance
/-- Where a symbol's code begins: behind all that stand ahead of it. -/
def frm (l : List Int) (x : Tr) : Nat := sumN (fun y : Tr => if lt y x then sz y.1 else 0) (ent l)
def siz (y : Tr) : Nat := sz y.1
theorem frm_split {l : List Int} {os s t : List Tr} {x : Tr} (hp : (ent l).Perm os) (hs : os.Pairwise lt) (he : os = s ++ x :: t) : frm l x = sumN siz s := by
  unfold frm
  rw [sumN_perm _ hp, he, sumN_append]
  subst he
  obtain ⟨h1, h2, h3⟩ := List.pairwise_append.1 hs
  obtain ⟨h4, h5⟩ := List.pairwise_cons.1 h2
  have e1 : sumN (fun y : Tr => if lt y x then sz y.1 else 0) s = sumN siz s := sumN_congr (fun y hy => by
    rw [if_pos (h3 y hy x (List.mem_cons_self ..))]
    rfl)
  have e2 : sumN (fun y : Tr => if lt y x then sz y.1 else 0) (x :: t) = 0 := by
    have : ∀ y ∈ x :: t, (fun y : Tr => if lt y x then sz y.1 else 0) y = (fun _ => 0) y := fun y hy => by
      simp only
      refine if_neg ?_
      rcases List.mem_cons.1 hy with rfl | hy
      · unfold lt; omega
      · exact lt_asym (h4 y hy)
    rw [sumN_congr this]
    have := sumN_le (f := fun _ : Tr => 0) (l := x :: t) (c := 0) (fun _ _ => Nat.le_refl _)
    omega
  rw [e1, e2]
  omega
theorem ent_siz (l : List Int) : sumN siz (ent l) = shr l := by
  unfold ent ini shr
  rw [sumN_map]
  have e : l = (List.range l.length).map fun i => l.getD i 0 := by
    apply List.ext_getElem
    · simp
    · intro j h1 h2
      rw [List.getElem_map, List.getElem_range, List.getD_eq_getElem?_getD, List.getElem?_eq_getElem h1]
      rfl
  conv => rhs; rw [e, sumN_map]
  rfl
theorem find : ∀ (os : List Tr) (a v : Nat), a ≤ v → v < a + sumN siz os → ∃ s x t, os = s ++ x :: t ∧ a + sumN siz s ≤ v ∧ v < a + sumN siz s + siz x
  | [], a, v, h1, h2 => by simp [sumN] at h2; omega
  | x :: t, a, v, h1, h2 => by
    by_cases h : v < a + siz x
    · exact ⟨[], x, t, rfl, by simpa [sumN] using h1, by simpa [sumN] using h⟩
    · obtain ⟨s, y, u, he, h3, h4⟩ := find t (a + siz x) v (by omega) (by simp only [sumN] at h2; omega)
      exact ⟨x :: s, y, u, by rw [he]; rfl, by simp only [sumN]; omega, by simp only [sumN]; omega⟩
/-- Each row of 20 bits begins with a code. -/
theorem cover {l : List Int} {v : Nat} (hv : v < shr l) : ∃ i, i < l.length ∧ frm l ((l.getD i 0).toNat, i) ≤ v ∧ v < frm l ((l.getD i 0).toNat, i) + sz (l.getD i 0).toNat := by
  obtain ⟨os, hp, hs⟩ := sorted_is (ent l).length (ent l) rfl (ini_dis l)
  rw [← ent_siz, sumN_perm _ hp] at hv
  obtain ⟨s, x, t, he, h1, h2⟩ := find os 0 v (Nat.zero_le _) (by omega)
  have hf := frm_split hp hs he
  have hx : x ∈ ent l := hp.mem_iff.2 (by rw [he]; exact List.mem_append_right _ (List.mem_cons_self ..))
  obtain ⟨h3, h4⟩ := ini_mem hx
  have ex : ((l.getD x.2 0).toNat, x.2) = x := by rw [← h4]
  refine ⟨x.2, h3, ?_, ?_⟩
  · rw [ex, hf]; omega
  · have h6 : siz x = sz x.1 := rfl
    rw [ex, hf, ← h4]; omega
/-- One that stands ahead ends ahead. -/
theorem apart {l : List Int} {x y : Tr} (hx : x ∈ ent l) (hy : y ∈ ent l) (h : lt x y) : frm l x + siz x ≤ frm l y := by
  obtain ⟨os, hp, hs⟩ := sorted_is (ent l).length (ent l) rfl (ini_dis l)
  obtain ⟨s, t, he⟩ := List.append_of_mem (hp.mem_iff.1 hy)
  rw [frm_split hp hs he]
  have hxs : x ∈ s := by
    have h1 : x ∈ s ++ y :: t := by rw [← he]; exact hp.mem_iff.1 hx
    rcases List.mem_append.1 h1 with h2 | h2
    · exact h2
    · exfalso
      rcases List.mem_cons.1 h2 with rfl | h2
      · unfold lt at h; omega
      · rw [he] at hs
        obtain ⟨_, h3, _⟩ := List.pairwise_append.1 hs
        exact lt_asym h ((List.pairwise_cons.1 h3).1 x h2)
  obtain ⟨s1, s2, hse⟩ := List.append_of_mem hxs
  have he2 : os = s1 ++ x :: (s2 ++ y :: t) := by rw [he, hse]; simp
  rw [frm_split hp hs he2, hse, sumN_append]
  simp only [sumN]
  omega
theorem within {l : List Int} {x : Tr} (hx : x ∈ ent l) : frm l x + siz x ≤ shr l := by
  obtain ⟨os, hp, hs⟩ := sorted_is (ent l).length (ent l) rfl (ini_dis l)
  obtain ⟨s, t, he⟩ := List.append_of_mem (hp.mem_iff.1 hx)
  rw [frm_split hp hs he, ← ent_siz, sumN_perm _ hp, he, sumN_append]
  simp only [sumN]
  omega
theorem sum_dvd {α : Type} {f : α → Nat} {c : Nat} {l : List α} (h : ∀ x ∈ l, c ∣ f x) : c ∣ sumN f l := by
  induction l with
  | nil => exact Nat.dvd_zero _
  | cons x t ih => exact Nat.dvd_add (h x (List.mem_cons_self ..)) (ih (fun y hy => h y (List.mem_cons_of_mem _ hy)))
theorem frm_dvd (l : List Int) (x : Tr) : sz x.1 ∣ frm l x := by
  refine sum_dvd (fun y hy => ?_)
  split
  · rename_i h
    have := lt_le h
    exact Nat.pow_dvd_pow 2 (by omega)
  · exact Nat.dvd_zero _
/-- A symbol's code, as a number. -/
def cod (l : List Int) (x : Tr) : Nat := frm l x / sz x.1
theorem sz_pos (n : Nat) : 0 < sz n := Nat.pow_pos (by decide)
theorem cod_mul (l : List Int) (x : Tr) : cod l x * sz x.1 = frm l x := Nat.div_mul_cancel (frm_dvd l x)
theorem cod_lt {l : List Int} {x : Tr} (hx : x ∈ ent l) (hw : shr l = 2 ^ 20) (hn : x.1 ≤ 20) : cod l x < 2 ^ x.1 := by
  have h1 := within hx
  rw [hw, ← cod_mul l x] at h1
  have e : (2 : Nat) ^ 20 = 2 ^ x.1 * sz x.1 := by unfold sz; rw [← Nat.pow_add]; congr 1; omega
  rw [e] at h1
  have h2 := sz_pos x.1
  unfold siz at h1
  have h3 : (cod l x + 1) * sz x.1 ≤ 2 ^ x.1 * sz x.1 := by rw [Nat.add_mul]; omega
  exact Nat.le_of_mul_le_mul_right h3 h2
/-! ### Bits that begin with a code -/
/-- The bits q begin with the code of symbol x. -/
def Begins (l : List Int) (x : Tr) (q : List Bool) : Prop := x.1 ≤ q.length ∧ num (q.take x.1) = cod l x
theorem begins_row {l : List Int} {x : Tr} {q r : List Bool} (h : Begins l x q) (h20 : (q ++ r).length = 20) (hx : x.1 ≤ 20) : frm l x ≤ num (q ++ r) ∧ num (q ++ r) < frm l x + siz x := by
  obtain ⟨h1, h2⟩ := h
  have e : q ++ r = q.take x.1 ++ (q.drop x.1 ++ r) := by rw [← List.append_assoc, List.take_append_drop]
  have hl : (q.drop x.1 ++ r).length = 20 - x.1 := by
    rw [List.length_append, List.length_drop]; rw [List.length_append] at h20; omega
  have h3 := num_lt (q.drop x.1 ++ r)
  rw [e, num_append, h2, hl, ← cod_mul l x]
  rw [hl] at h3
  unfold siz sz
  unfold sz at *
  omega
/-- No two codes stand at one place. -/
theorem begins_one {l : List Int} {x y : Tr} {q : List Bool} (hx : x ∈ ent l) (hy : y ∈ ent l) (hx2 : x.1 ≤ 20) (hy2 : y.1 ≤ 20) (h : Begins l x q) (k : Begins l y q) : x = y := by
  have trim : ∀ z : Tr, z.1 ≤ 20 → Begins l z q → Begins l z (q.take 20) := fun z hz hb => ⟨by rw [List.length_take]; have := hb.1; omega, by rw [List.take_take, Nat.min_eq_left hz]; exact hb.2⟩
  have hlen : (q.take 20 ++ List.replicate (20 - (q.take 20).length) false).length = 20 := by simp; omega
  obtain ⟨h1, h2⟩ := begins_row (trim x hx2 h) hlen hx2
  obtain ⟨k1, k2⟩ := begins_row (trim y hy2 k) hlen hy2
  by_cases e : x.2 = y.2
  · obtain ⟨_, hxw⟩ := ini_mem hx
    obtain ⟨_, hyw⟩ := ini_mem hy
    exact Prod.ext (by rw [hxw, hyw, e]) e
  · exfalso
    rcases lt_or x y e with h5 | h5
    · have := apart hx hy h5; omega
    · have := apart hy hx h5; omega
/-! ### Symbols of one length stand side by side -/
/-- Where the codes of n bits begin. -/
def fst_ (l : List Int) (n : Nat) : Nat := sumN (fun y : Tr => if y.1 < n then sz y.1 else 0) (ent l)
/-- How many symbols ahead of i have n bits. -/
def rank (l : List Int) (n i : Nat) : Nat := sumN (fun j => if (l.getD j 0).toNat = n then 1 else 0) (List.range i)
theorem rank_succ (l : List Int) (n i : Nat) : rank l n (i + 1) = rank l n i + if (l.getD i 0).toNat = n then 1 else 0 := sumN_range _ _
theorem sumN_add {α : Type} (f g : α → Nat) (l : List α) : sumN (fun x => f x + g x) l = sumN f l + sumN g l := by
  induction l with
  | nil => rfl
  | cons x t ih => simp only [sumN, ih]; omega
theorem rank_is (l : List Int) (n i : Nat) : ∀ e : Nat, sumN (fun j => if (l.getD j 0).toNat = n ∧ j < i then sz n else 0) (List.range (i + e)) = rank l n i * sz n
  | 0 => by
    unfold rank
    rw [Nat.add_zero]
    have h : ∀ k, k ≤ i → sumN (fun j => if (l.getD j 0).toNat = n ∧ j < i then sz n else 0) (List.range k) = sumN (fun j => if (l.getD j 0).toNat = n then 1 else 0) (List.range k) * sz n := by
      intro k
      induction k with
      | zero => intro _; simp [sumN]
      | succ k ih =>
        intro hk
        rw [sumN_range, sumN_range, ih (by omega), Nat.add_mul]
        by_cases e : (l.getD k 0).toNat = n
        · rw [if_pos ⟨e, by omega⟩, if_pos e, Nat.one_mul]
        · rw [if_neg (fun h => e h.1), if_neg e, Nat.zero_mul]
    exact h i (Nat.le_refl _)
  | e + 1 => by
    rw [← Nat.add_assoc, sumN_range, rank_is l n i e, if_neg (by omega)]
    rfl
theorem frm_rank {l : List Int} {i : Nat} (hi : i < l.length) (n : Nat) (hn : (l.getD i 0).toNat = n) : frm l (n, i) = fst_ l n + rank l n i * sz n := by
  unfold frm fst_ ent ini
  rw [sumN_map, sumN_map]
  have h := rank_is l n i (l.length - i)
  rw [show i + (l.length - i) = l.length by omega] at h
  rw [← h, ← sumN_add]
  refine sumN_congr (fun j hj => ?_)
  have e : lt ((l.getD j 0).toNat, j) (n, i) ↔ (l.getD j 0).toNat < n ∨ ((l.getD j 0).toNat = n ∧ j < i) := Iff.rfl
  by_cases h1 : (l.getD j 0).toNat < n
  · rw [if_pos (e.2 (Or.inl h1)), if_pos h1, if_neg (by omega)]
    rfl
  · by_cases h2 : (l.getD j 0).toNat = n ∧ j < i
    · rw [if_pos (e.2 (Or.inr h2)), if_neg h1, if_pos h2, h2.1]
      exact (Nat.zero_add _).symm
    · rw [if_neg (fun h => by rcases e.1 h with h | h; exact h1 h; exact h2 h), if_neg h1, if_neg h2]
theorem fst_dvd (l : List Int) (n : Nat) : sz n ∣ fst_ l n := by
  refine sum_dvd (fun y hy => ?_)
  split
  · exact Nat.pow_dvd_pow 2 (by omega)
  · exact Nat.dvd_zero _
/-- The first code of n bits. -/
def fcod (l : List Int) (n : Nat) : Nat := fst_ l n / sz n
theorem cod_rank {l : List Int} {i : Nat} (hi : i < l.length) (n : Nat) (hn : (l.getD i 0).toNat = n) : cod l (n, i) = fcod l n + rank l n i := by
  unfold cod fcod
  rw [frm_rank hi n hn, Nat.add_mul_div_right _ _ (sz_pos n)]
/-- How the first code of more bits comes of that of fewer. -/
theorem fcod_succ (l : List Int) {n : Nat} (hn : n < 20) : fcod l (n + 1) = 2 * (fcod l n + rank l n l.length) := by
  have h1 : fst_ l (n + 1) = fst_ l n + rank l n l.length * sz n := by
    have h := rank_is l n l.length 0
    rw [Nat.add_zero] at h
    rw [← h]
    unfold fst_ ent ini
    rw [sumN_map, sumN_map, ← sumN_add]
    refine sumN_congr (fun j hj => ?_)
    have hj' := List.mem_range.1 hj
    by_cases h1 : (l.getD j 0).toNat < n
    · rw [if_pos (by simp only; omega), if_pos h1, if_neg (by omega)]; rfl
    · by_cases h2 : (l.getD j 0).toNat = n
      · rw [if_pos (by simp only; omega), if_neg h1, if_pos ⟨h2, hj'⟩]; simp only [h2]; omega
      · rw [if_neg (by simp only; omega), if_neg h1, if_neg (fun h => h2 h.1)]
  have e : sz n = 2 * sz (n + 1) := by
    unfold sz
    rw [show 20 - n = 20 - (n + 1) + 1 by omega, Nat.pow_succ]; omega
  have h2 := Nat.div_mul_cancel (fst_dvd l n)
  have h3 : fst_ l (n + 1) = 2 * (fcod l n + rank l n l.length) * sz (n + 1) := by
    rw [h1]
    conv => lhs; rw [← h2]
    show fcod l n * sz n + rank l n l.length * sz n = _
    rw [← Nat.add_mul, e, ← Nat.mul_assoc, Nat.mul_comm (fcod l n + rank l n l.length) 2]
  unfold fcod at h3 ⊢
  rw [h3, Nat.mul_div_cancel _ (sz_pos _)]
theorem rank_mono (l : List Int) (n : Nat) : ∀ (i e : Nat), rank l n i ≤ rank l n (i + e)
  | i, 0 => Nat.le_refl _
  | i, e + 1 => by
    rw [← Nat.add_assoc, rank_succ]
    have := rank_mono l n i e
    omega
end CanM
end Go.Proofs.YtojphcoghbiepaaGreatDoor
namespace Go.Proofs.YtojphcoghbiepaaGreatDoor
namespace CanM
open Go.RowKit HufM BitM
set_option linter.unusedVariables false
/-- Symbol i's length. -/
def ln (l : List Int) (i : Nat) : Nat := (l.getD i 0).toNat
/-- How many symbols have fewer than m bits. -/
def cl (l : List Int) (m : Nat) : Nat := sumN (fun j => if ln l j < m then 1 else 0) (List.range l.length)
theorem cl_succ (l : List Int) (m : Nat) : cl l (m + 1) = cl l m + rank l m l.length := by
  unfold cl rank
  rw [← sumN_add]
  refine sumN_congr (fun j _ => ?_)
  unfold ln
  by_cases h1 : (l.getD j 0).toNat < m
  · rw [if_pos h1, if_pos (by omega), if_neg (by omega)]
  · by_cases h2 : (l.getD j 0).toNat = m
    · rw [if_pos (by omega), if_neg h1, if_pos h2]
    · rw [if_neg (by omega), if_neg h1, if_neg h2]
theorem cl_mono (l : List Int) : ∀ (e m : Nat), cl l m ≤ cl l (m + e)
  | 0, m => Nat.le_refl _
  | e + 1, m => by
    rw [← Nat.add_assoc, cl_succ]
    have := cl_mono l e m
    omega
theorem cl_le (l : List Int) (m : Nat) : cl l m ≤ l.length := by
  have := sumN_le (f := fun j => if ln l j < m then 1 else 0) (l := List.range l.length) (c := 1) (fun x _ => by split <;> omega)
  rw [List.length_range] at this
  unfold cl
  omega
/-- Where a symbol stands. -/
def plc (l : List Int) (i : Nat) : Nat := cl l (ln l i) + rank l (ln l i) i
theorem rank_lt (l : List Int) {i N : Nat} (h : i < N) : rank l (ln l i) i < rank l (ln l i) N := by
  have h1 := rank_succ l (ln l i) i
  rw [if_pos (show (l.getD i 0).toNat = ln l i from rfl)] at h1
  have h2 := rank_mono l (ln l i) (i + 1) (N - (i + 1))
  rw [show i + 1 + (N - (i + 1)) = N by omega] at h2
  omega
theorem plc_lt (l : List Int) {i j : Nat} (hj : j < l.length) (h : ln l j < ln l i ∨ (ln l j = ln l i ∧ j < i)) : plc l j < plc l i := by
  rcases h with h | ⟨h1, h2⟩
  · have h1 := rank_lt l hj
    have h2 := cl_succ l (ln l j)
    have h3 := cl_mono l (ln l i - (ln l j + 1)) (ln l j + 1)
    rw [show ln l j + 1 + (ln l i - (ln l j + 1)) = ln l i by omega] at h3
    unfold plc
    omega
  · have h3 := rank_lt l h2
    unfold plc
    rw [← h1]
    omega
theorem plc_bound (l : List Int) {i : Nat} (hi : i < l.length) : plc l i < l.length := by
  have h1 := rank_lt l hi
  have h2 := cl_succ l (ln l i)
  have h3 := cl_le l (ln l i + 1)
  unfold plc
  omega
theorem plc_ne (l : List Int) {i j : Nat} (hi : i < l.length) (hj : j < l.length) (h : i ≠ j) : plc l i ≠ plc l j := by
  intro e
  by_cases h1 : ln l i < ln l j ∨ (ln l i = ln l j ∧ i < j)
  · have := plc_lt l hi h1; omega
  · have := plc_lt l hj (i := i) (by omega); omega
/-- The first code of m bits, and how many of them there are. -/
theorem fst_next (l : List Int) (m : Nat) (hm : m ≤ 20) : (fcod l m + rank l m l.length) * sz m = sumN (fun y : Tr => if y.1 < m + 1 then sz y.1 else 0) (ent l) := by
  have h1 : fst_ l (m + 1) = fst_ l m + rank l m l.length * sz m := by
    have h := rank_is l m l.length 0
    rw [Nat.add_zero] at h
    rw [← h]
    unfold fst_ ent ini
    rw [sumN_map, sumN_map, ← sumN_add]
    refine sumN_congr (fun j hj => ?_)
    have hj' := List.mem_range.1 hj
    by_cases h1 : (l.getD j 0).toNat < m
    · rw [if_pos (by simp only; omega), if_pos h1, if_neg (by omega)]; rfl
    · by_cases h2 : (l.getD j 0).toNat = m
      · rw [if_pos (by simp only; omega), if_neg h1, if_pos ⟨h2, hj'⟩]; simp only [h2]; omega
      · rw [if_neg (by simp only; omega), if_neg h1, if_neg (fun h => h2 h.1)]
  have h2 := Nat.div_mul_cancel (fst_dvd l m)
  show _ = fst_ l (m + 1)
  rw [h1, Nat.add_mul]
  unfold fcod
  rw [h2]
theorem fcod_bound (l : List Int) (m : Nat) (hm : m ≤ 20) : (fcod l m + rank l m l.length) * sz m ≤ shr l := by
  rw [fst_next l m hm, ← ent_siz]
  have : ∀ (t : List Tr), sumN (fun y : Tr => if y.1 < m + 1 then sz y.1 else 0) t ≤ sumN siz t := by
    intro t
    induction t with
    | nil => exact Nat.le_refl _
    | cons x t ih =>
      simp only [sumN]
      have h1 : siz x = sz x.1 := rfl
      split <;> omega
  exact this _
theorem fcod_zero (l : List Int) : fcod l 0 = 0 := by
  unfold fcod fst_
  have : sumN (fun y : Tr => if y.1 < 0 then sz y.1 else 0) (ent l) = 0 := by
    have h := sumN_le (f := fun y : Tr => if y.1 < 0 then sz y.1 else 0) (l := ent l) (c := 0) (fun y _ => by rw [if_neg (by omega)]; exact Nat.le_refl 0)
    omega
  rw [this, Nat.zero_div]
theorem rank_zero {l : List Int} (h : ∀ z ∈ l, 1 ≤ z) : rank l 0 l.length = 0 := by
  unfold rank
  have h2 := sumN_le (f := fun j => if (l.getD j 0).toNat = 0 then 1 else 0) (l := List.range l.length) (c := 0) (fun j hj => by
    have hj := List.mem_range.1 hj
    have h3 := h (l.getD j 0) (by rw [List.getD_eq_getElem?_getD, List.getElem?_eq_getElem hj]; exact List.getElem_mem hj)
    rw [if_neg (by omega)]
    exact Nat.le_refl 0)
  omega
theorem cl_one {l : List Int} (h : ∀ z ∈ l, 1 ≤ z) : cl l 1 = 0 := by
  have h1 := cl_succ l 0
  rw [rank_zero h] at h1
  have h2 : cl l 0 = 0 := by
    have h := sumN_le (f := fun j => if ln l j < 0 then 1 else 0) (l := List.range l.length) (c := 0) (fun j _ => by rw [if_neg (by omega)]; exact Nat.le_refl 0)
    unfold cl
    omega
  rw [h1, h2]
end CanM
end Go.Proofs.YtojphcoghbiepaaGreatDoor
