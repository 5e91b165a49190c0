/-
  PLAIN MATHEMATICS OF LAYER 10 (canon): the code that stands behind one, as rows of bits. No program is named here.
-/
import Derived.Test.YtclmnmfdajlddaaCanMathC
namespace Go.Proofs.Ytclmnmfdajlddaa
namespace CanM
open Go.RowKit HufM BitM
set_option linter.unusedVariables false
theorem field_cons' (X k : Nat) : field X (k + 1) = (X / 2 ^ k % 2 == 1) :: field X k := by
  apply num_inj
  · simp [field_length]
  · have e : num ((X / 2 ^ k % 2 == 1) :: field X k) = bn (X / 2 ^ k % 2 == 1) * 2 ^ (field X k).length + num (field X k) := num_append [X / 2 ^ k % 2 == 1] (field X k) |>.trans (by rw [show num [X / 2 ^ k % 2 == 1] = bn (X / 2 ^ k % 2 == 1) from Nat.zero_add _])
    have hb : bn (X / 2 ^ k % 2 == 1) = X / 2 ^ k % 2 := by
      have : X / 2 ^ k % 2 = 0 ∨ X / 2 ^ k % 2 = 1 := by omega
      rcases this with h | h <;> simp [h, bn]
    rw [e, hb, field_length, field_num, field_num, Nat.pow_succ, Nat.mod_mul, Nat.mul_comm, Nat.add_comm]
/-- One more, and whether all bits were 1. -/
def nxtL : List Bool → List Bool × Bool
  | [] => ([], true)
  | b :: t => ((b != (nxtL t).2) :: (nxtL t).1, (nxtL t).2 && b)
theorem nxtL_length : ∀ t, (nxtL t).1.length = t.length
  | [] => rfl
  | b :: t => by simp only [nxtL, List.length_cons, nxtL_length t]
theorem num_cons (b : Bool) (t : List Bool) : num (b :: t) = bn b * 2 ^ t.length + num t := by
  have := num_append [b] t
  rw [List.singleton_append] at this
  rw [this, show num [b] = bn b from Nat.zero_add _]
theorem nxtL_is : ∀ t, num (nxtL t).1 + bn (nxtL t).2 * 2 ^ t.length = num t + 1
  | [] => rfl
  | b :: t => by
    have ih := nxtL_is t
    have h1 := num_lt t
    have h2 := num_lt (nxtL t).1
    rw [nxtL_length] at h2
    simp only [nxtL, List.length_cons]
    rw [num_cons, num_cons, nxtL_length, Nat.pow_succ]
    generalize num (nxtL t).1 = A at *
    generalize num t = T at *
    generalize 2 ^ t.length = P at *
    generalize (nxtL t).2 = c at *
    cases b <;> cases c <;> simp [bn] at * <;> omega
/-- The next code of a length. -/
def nxtC (C : List Bool) (n : Nat) : List Bool := (nxtL C).1 ++ List.replicate (n - C.length) false
theorem nxtC_is {C : List Bool} {n X : Nat} (hm : C.length ≤ n) (hX : (num C + 1) * 2 ^ (n - C.length) = X) (hlt : X < 2 ^ n) : nxtC C n = field X n := by
  have h1 := nxtL_is C
  have hl := nxtL_length C
  have hp : 0 < 2 ^ (n - C.length) := Nat.pow_pos (by decide)
  have hn : 2 ^ n = 2 ^ C.length * 2 ^ (n - C.length) := by rw [← Nat.pow_add]; congr 1; omega
  have h2 : num C + 1 < 2 ^ C.length := by
    rw [← hX, hn] at hlt
    exact Nat.lt_of_mul_lt_mul_right hlt
  have h3 : num (nxtL C).1 = num C + 1 := by
    cases h : (nxtL C).2
    · rw [h] at h1; simp [bn] at h1; exact h1
    · rw [h] at h1
      simp only [bn, if_true, Nat.one_mul] at h1
      omega
  apply num_inj
  · unfold nxtC
    rw [List.length_append, List.length_replicate, hl, field_length]
    omega
  · unfold nxtC
    rw [num_zeros, h3, hX, field_num, Nat.mod_eq_of_lt hlt]
theorem field_zero (n : Nat) : field 0 n = List.replicate n false := by
  apply num_inj
  · rw [field_length, List.length_replicate]
  · rw [field_num, Nat.zero_mod]
    have := num_zeros [] n
    rw [List.nil_append] at this
    rw [this]
    simp [num]
/-- The number of the next code of n bits: behind the symbols of fewer bits, and those of n bits below i. -/
def nxtX (l : List Int) (n i : Nat) : Nat := fcod l n + rank l n i
theorem nxtX_skip {l : List Int} {n i : Nat} (h : ¬ ln l i = n) : nxtX l n (i + 1) = nxtX l n i := by
  unfold nxtX
  rw [rank_succ, if_neg (show ¬ (l.getD i 0).toNat = n from h)]
  rfl
theorem nxtX_take {l : List Int} {n i : Nat} (h : ln l i = n) : nxtX l n (i + 1) = nxtX l n i + 1 := by
  unfold nxtX
  rw [rank_succ, if_pos (show (l.getD i 0).toNat = n from h)]
  omega
theorem nxtX_next {l : List Int} {n : Nat} (h : n < 20) : nxtX l (n + 1) 0 = 2 * nxtX l n l.length := by
  unfold nxtX
  rw [fcod_succ l h]
  show _ + 0 = _
  rfl
theorem nxtX_cod {l : List Int} {n i : Nat} (hi : i < l.length) (h : ln l i = n) : nxtX l n i = cod l (ln l i, i) := by
  rw [h, cod_rank hi n h]
  rfl
/-- What the last code says of the next one. -/
def CodeAt (C : List Bool) (n X : Nat) : Prop := (C = [] ∧ X = 0) ∨ (C ≠ [] ∧ C.length ≤ n ∧ (num C + 1) * 2 ^ (n - C.length) = X)
theorem CodeAt.next {C : List Bool} {n X : Nat} (h : CodeAt C n X) : CodeAt C (n + 1) (2 * X) := by
  rcases h with ⟨h1, h2⟩ | ⟨h1, h2, h3⟩
  · exact Or.inl ⟨h1, by rw [h2]⟩
  · refine Or.inr ⟨h1, by omega, ?_⟩
    rw [← h3, show n + 1 - C.length = n - C.length + 1 by omega, Nat.pow_succ, ← Nat.mul_assoc, Nat.mul_comm]
theorem CodeAt.took {n X : Nat} (h1 : 1 ≤ n) (hX : X < 2 ^ n) : CodeAt (field X n) n (X + 1) := by
  refine Or.inr ⟨?_, by rw [field_length]; exact Nat.le_refl _, ?_⟩
  · intro h
    have := field_length X n
    rw [h] at this
    simp at this
    omega
  · rw [field_length, field_num, Nat.mod_eq_of_lt hX, Nat.sub_self, Nat.pow_zero, Nat.mul_one]
end CanM
end Go.Proofs.Ytclmnmfdajlddaa
