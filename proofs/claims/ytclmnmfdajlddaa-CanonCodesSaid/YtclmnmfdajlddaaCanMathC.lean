/-
  PLAIN MATHEMATICS OF LAYER 10 (canon): which code a row of at most 20 bits begins with, by the ends of the lengths. No program is named here.
-/
import Derived.Test.YtclmnmfdajlddaaCanMathB
namespace Go.Proofs.Ytclmnmfdajlddaa
namespace CanM
open Go.RowKit HufM BitM
set_option linter.unusedVariables false
theorem num_zeros : ∀ (q : List Bool) (e : Nat), num (q ++ List.replicate e false) = num q * 2 ^ e
  | q, 0 => by simp
  | q, e + 1 => by
    rw [List.replicate_succ', ← List.append_assoc, num_snoc, num_zeros q e, Nat.pow_succ]
    show 2 * _ + 0 = _
    rw [Nat.add_zero, ← Nat.mul_assoc, Nat.mul_comm 2, Nat.mul_assoc, Nat.mul_comm 2]
/-- Behind the codes of m bits. -/
def endc (l : List Int) (m : Nat) : Nat := (fcod l m + rank l m l.length) * sz m
theorem endc_is (l : List Int) (m : Nat) (hm : m ≤ 20) : endc l m = fst_ l (m + 1) := fst_next l m hm
theorem fst_mono (l : List Int) : ∀ (e m : Nat), fst_ l m ≤ fst_ l (m + e)
  | 0, m => Nat.le_refl _
  | e + 1, m => by
    refine Nat.le_trans (fst_mono l e m) ?_
    rw [← Nat.add_assoc]
    unfold fst_
    generalize ent l = t
    induction t with
    | nil => exact Nat.le_refl _
    | cons x t ih =>
      simp only [sumN]
      by_cases h : x.1 < m + e
      · rw [if_pos h, if_pos (by omega)]; omega
      · rw [if_neg h]; omega
theorem ent_of {l : List Int} {i : Nat} (hi : i < l.length) : (ln l i, i) ∈ ent l := ini_of hi
/-- What a row of bits begins with, told by the ends. -/
theorem row_find {l : List Int} (hw : ∀ z ∈ l, 1 ≤ z ∧ z ≤ 20) (hs : shr l = 1048576) (q : List Bool) (T V : Nat) (hT : T = min q.length 20) (hV : V = num (q.take T) * 2 ^ (20 - T)) :
    ∃ i, i < l.length ∧ 1 ≤ ln l i ∧ ln l i ≤ 20 ∧ V < 1048576 ∧ V < endc l (ln l i) ∧ (∀ m, 1 ≤ m → m < ln l i → endc l m ≤ V) ∧ V / 2 ^ (20 - ln l i) = fcod l (ln l i) + rank l (ln l i) i ∧
      (ln l i ≤ T → Begins l (ln l i, i) q) ∧ (T < ln l i → ∀ j, j < l.length → ¬ Begins l (ln l j, j) q) := by
  have hlnb : ∀ j, j < l.length → 1 ≤ ln l j ∧ ln l j ≤ 20 := fun j hj => by
    have h := hw (l.getD j 0) (by rw [List.getD_eq_getElem?_getD, List.getElem?_eq_getElem hj]; exact List.getElem_mem hj)
    unfold ln
    omega
  have hTq : T ≤ q.length := by omega
  have hT20 : T ≤ 20 := by omega
  have hlen : (q.take T ++ List.replicate (20 - T) false).length = 20 := by simp; omega
  have hrow : V = num (q.take T ++ List.replicate (20 - T) false) := by rw [num_zeros]; exact hV
  have hVl : V < 1048576 := by have := num_lt (q.take T ++ List.replicate (20 - T) false); rw [hlen, ← hrow] at this; exact this
  obtain ⟨i, hi, h1, h2⟩ := cover (l := l) (v := V) (by rw [hs]; exact hVl)
  have hb := hlnb i hi
  have h1' : frm l (ln l i, i) ≤ V := h1
  have h2' : V < frm l (ln l i, i) + sz (ln l i) := h2
  have hfr : frm l (ln l i, i) = fst_ l (ln l i) + rank l (ln l i) i * sz (ln l i) := frm_rank hi (ln l i) rfl
  have hrl := rank_lt l hi
  have hfe : fcod l (ln l i) * sz (ln l i) = fst_ l (ln l i) := Nat.div_mul_cancel (fst_dvd l (ln l i))
  have hcode : V / 2 ^ (20 - ln l i) = fcod l (ln l i) + rank l (ln l i) i := by
    rw [hfr, ← hfe, ← Nat.add_mul] at h1' h2'
    have hp := sz_pos (ln l i)
    show V / sz (ln l i) = _
    refine Nat.div_eq_of_lt_le h1' ?_
    rw [Nat.succ_mul]; exact h2'
  have hclash : ∀ j, j < l.length → Begins l (ln l j, j) q → j = i := by
    intro j hj hB
    have hbj := hlnb j hj
    obtain ⟨k1, k2⟩ := begins_row (l := l) (x := (ln l j, j)) (q := q.take T) (r := List.replicate (20 - T) false) ⟨by have := hB.1; simp only [List.length_take] at this ⊢; omega, by
      have := hB.1
      simp only at this
      rw [List.take_take, Nat.min_eq_left (by show ln l j ≤ T; omega)]; exact hB.2⟩ hlen hbj.2
    rw [← hrow] at k1 k2
    by_cases e : j = i
    · exact e
    · exfalso
      rcases lt_or (ln l j, j) (ln l i, i) e with h5 | h5
      · have := apart (ent_of hj) (ent_of hi) h5; omega
      · have h6 := apart (ent_of hi) (ent_of hj) h5
        have h7 : siz (ln l i, i) = sz (ln l i) := rfl
        omega
  refine ⟨i, hi, hb.1, hb.2, hVl, ?_, ?_, hcode, ?_, ?_⟩
  · unfold endc
    have hp := sz_pos (ln l i)
    rw [hfr, ← hfe, ← Nat.add_mul] at h2'
    have h3 : (fcod l (ln l i) + rank l (ln l i) i + 1) * sz (ln l i) ≤ (fcod l (ln l i) + rank l (ln l i) l.length) * sz (ln l i) := Nat.mul_le_mul_right _ (by omega)
    rw [Nat.add_mul, Nat.one_mul] at h3
    omega
  · intro m hm1 hm2
    rw [endc_is l m (by omega)]
    have := fst_mono l (ln l i - (m + 1)) (m + 1)
    rw [show m + 1 + (ln l i - (m + 1)) = ln l i by omega] at this
    omega
  · intro hle
    refine ⟨by show ln l i ≤ q.length; omega, ?_⟩
    show num (q.take (ln l i)) = cod l (ln l i, i)
    rw [cod_rank hi (ln l i) rfl, ← hcode, hrow]
    have e : (q.take T ++ List.replicate (20 - T) false).take (ln l i) = q.take (ln l i) := by
      rw [List.take_append_of_le_length (by rw [List.length_take]; omega), List.take_take, Nat.min_eq_left hle]
    rw [← e, num_take _ _ (by omega), hlen]
  · intro hlt j hj hB
    have := hclash j hj hB
    subst this
    have := hB.1
    simp only at this
    omega
end CanM
end Go.Proofs.Ytclmnmfdajlddaa
