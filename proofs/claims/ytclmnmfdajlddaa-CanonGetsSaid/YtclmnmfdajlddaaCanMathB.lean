/-
  PLAIN MATHEMATICS OF LAYER 10 (canon): where each symbol stands among all, in the order of the codes. No program is named here.
-/
import Derived.Test.YtclmnmfdajlddaaCanMath
namespace Go.Proofs.Ytclmnmfdajlddaa
namespace CanM
open Go.RowKit HufM BitM
set_option linter.unusedVariables false
/-- Symbol i's length. -/
def ln (l : List Int) (i : Nat) : Nat := (l.getD i 0).toNat
/-- How many symbols have fewer than m bits. -/
def cl (l : List Int) (m : Nat) : Nat := sumN (fun j => if ln l j < m then 1 else 0) (List.range l.length)
theorem cl_succ (l : List Int) (m : Nat) : cl l (m + 1) = cl l m + rank l m l.length := by
  unfold cl rank
  rw [← sumN_add]
  refine sumN_congr (fun j _ => ?_)
  unfold ln
  by_cases h1 : (l.getD j 0).toNat < m
  · rw [if_pos h1, if_pos (by omega), if_neg (by omega)]
  · by_cases h2 : (l.getD j 0).toNat = m
    · rw [if_pos (by omega), if_neg h1, if_pos h2]
    · rw [if_neg (by omega), if_neg h1, if_neg h2]
theorem cl_mono (l : List Int) : ∀ (e m : Nat), cl l m ≤ cl l (m + e)
  | 0, m => Nat.le_refl _
  | e + 1, m => by
    rw [← Nat.add_assoc, cl_succ]
    have := cl_mono l e m
    omega
theorem cl_le (l : List Int) (m : Nat) : cl l m ≤ l.length := by
  have := sumN_le (f := fun j => if ln l j < m then 1 else 0) (l := List.range l.length) (c := 1) (fun x _ => by split <;> omega)
  rw [List.length_range] at this
  unfold cl
  omega
/-- Where a symbol stands. -/
def plc (l : List Int) (i : Nat) : Nat := cl l (ln l i) + rank l (ln l i) i
theorem rank_lt (l : List Int) {i N : Nat} (h : i < N) : rank l (ln l i) i < rank l (ln l i) N := by
  have h1 := rank_succ l (ln l i) i
  rw [if_pos (show (l.getD i 0).toNat = ln l i from rfl)] at h1
  have h2 := rank_mono l (ln l i) (i + 1) (N - (i + 1))
  rw [show i + 1 + (N - (i + 1)) = N by omega] at h2
  omega
theorem plc_lt (l : List Int) {i j : Nat} (hj : j < l.length) (h : ln l j < ln l i ∨ (ln l j = ln l i ∧ j < i)) : plc l j < plc l i := by
  rcases h with h | ⟨h1, h2⟩
  · have h1 := rank_lt l hj
    have h2 := cl_succ l (ln l j)
    have h3 := cl_mono l (ln l i - (ln l j + 1)) (ln l j + 1)
    rw [show ln l j + 1 + (ln l i - (ln l j + 1)) = ln l i by omega] at h3
    unfold plc
    omega
  · have h3 := rank_lt l h2
    unfold plc
    rw [← h1]
    omega
theorem plc_bound (l : List Int) {i : Nat} (hi : i < l.length) : plc l i < l.length := by
  have h1 := rank_lt l hi
  have h2 := cl_succ l (ln l i)
  have h3 := cl_le l (ln l i + 1)
  unfold plc
  omega
theorem plc_ne (l : List Int) {i j : Nat} (hi : i < l.length) (hj : j < l.length) (h : i ≠ j) : plc l i ≠ plc l j := by
  intro e
  by_cases h1 : ln l i < ln l j ∨ (ln l i = ln l j ∧ i < j)
  · have := plc_lt l hi h1; omega
  · have := plc_lt l hj (i := i) (by omega); omega
/-- The first code of m bits, and how many of them there are. -/
theorem fst_next (l : List Int) (m : Nat) (hm : m ≤ 20) : (fcod l m + rank l m l.length) * sz m = sumN (fun y : Tr => if y.1 < m + 1 then sz y.1 else 0) (ent l) := by
  have h1 : fst_ l (m + 1) = fst_ l m + rank l m l.length * sz m := by
    have h := rank_is l m l.length 0
    rw [Nat.add_zero] at h
    rw [← h]
    unfold fst_ ent ini
    rw [sumN_map, sumN_map, ← sumN_add]
    refine sumN_congr (fun j hj => ?_)
    have hj' := List.mem_range.1 hj
    by_cases h1 : (l.getD j 0).toNat < m
    · rw [if_pos (by simp only; omega), if_pos h1, if_neg (by omega)]; rfl
    · by_cases h2 : (l.getD j 0).toNat = m
      · rw [if_pos (by simp only; omega), if_neg h1, if_pos ⟨h2, hj'⟩]; simp only [h2]; omega
      · rw [if_neg (by simp only; omega), if_neg h1, if_neg (fun h => h2 h.1)]
  have h2 := Nat.div_mul_cancel (fst_dvd l m)
  show _ = fst_ l (m + 1)
  rw [h1, Nat.add_mul]
  unfold fcod
  rw [h2]
theorem fcod_bound (l : List Int) (m : Nat) (hm : m ≤ 20) : (fcod l m + rank l m l.length) * sz m ≤ shr l := by
  rw [fst_next l m hm, ← ent_siz]
  have : ∀ (t : List Tr), sumN (fun y : Tr => if y.1 < m + 1 then sz y.1 else 0) t ≤ sumN siz t := by
    intro t
    induction t with
    | nil => exact Nat.le_refl _
    | cons x t ih =>
      simp only [sumN]
      have h1 : siz x = sz x.1 := rfl
      split <;> omega
  exact this _
theorem fcod_zero (l : List Int) : fcod l 0 = 0 := by
  unfold fcod fst_
  have : sumN (fun y : Tr => if y.1 < 0 then sz y.1 else 0) (ent l) = 0 := by
    have h := sumN_le (f := fun y : Tr => if y.1 < 0 then sz y.1 else 0) (l := ent l) (c := 0) (fun y _ => by rw [if_neg (by omega)]; exact Nat.le_refl 0)
    omega
  rw [this, Nat.zero_div]
theorem rank_zero {l : List Int} (h : ∀ z ∈ l, 1 ≤ z) : rank l 0 l.length = 0 := by
  unfold rank
  have h2 := sumN_le (f := fun j => if (l.getD j 0).toNat = 0 then 1 else 0) (l := List.range l.length) (c := 0) (fun j hj => by
    have hj := List.mem_range.1 hj
    have h3 := h (l.getD j 0) (by rw [List.getD_eq_getElem?_getD, List.getElem?_eq_getElem hj]; exact List.getElem_mem hj)
    rw [if_neg (by omega)]
    exact Nat.le_refl 0)
  omega
theorem cl_one {l : List Int} (h : ∀ z ∈ l, 1 ≤ z) : cl l 1 = 0 := by
  have h1 := cl_succ l 0
  rw [rank_zero h] at h1
  have h2 : cl l 0 = 0 := by
    have h := sumN_le (f := fun j => if ln l j < 0 then 1 else 0) (l := List.range l.length) (c := 0) (fun j _ => by rw [if_neg (by omega)]; exact Nat.le_refl 0)
    unfold cl
    omega
  rw [h1, h2]
end CanM
end Go.Proofs.Ytclmnmfdajlddaa
