/-
  PLAIN MATHEMATICS OF LAYER 8 (freq): counts, costs, totals, groups. No program is named here.
-/
import Derived.Test.YtmlcdfimcabgkaaDoorLawKit
namespace Go.Proofs.YtmlcdfimcabgkaaDoor
namespace FreqM
open Go.RowKit
set_option linter.unusedVariables false

/-- At most 2^40. -/
def cap (x : Int) : Int := if 1099511627776 < x then 1099511627776 else x
theorem cap_le (x : Int) : cap x ≤ 1099511627776 := by unfold cap; split <;> omega
theorem cap_nn (x : Int) (h : 0 ≤ x) : 0 ≤ cap x := by unfold cap; split <;> omega
theorem cap_id (x : Int) (h : x ≤ 1099511627776) : cap x = x := by unfold cap; split <;> omega
theorem cap_hi (x : Int) (h : 1099511627776 < x) : cap x = 1099511627776 := by unfold cap; rw [if_pos h]
theorem cap_add (a b : Int) (hb : 0 ≤ b) : cap (cap a + b) = cap (a + b) := by
  unfold cap
  repeat' split
  all_goals omega
def Syms (l : List Int) (n : Int) : Prop := ∀ x ∈ l, 0 ≤ x ∧ x < n
def Nums (l : List Int) : Prop := ∀ x ∈ l, 0 ≤ x ∧ x ≤ 1099511627776
theorem getD_mem (l : List Int) (k : Nat) (h : k < l.length) : l.getD k 0 ∈ l := by
  rw [List.getD_eq_getElem?_getD, List.getElem?_eq_getElem h]
  exact List.getElem_mem h

/-! ### Counts -/
def counts (l : List Int) (N : Nat) : List Int := (List.range N).map fun i : Nat => (l.count (i : Int) : Int)
theorem counts_len (l : List Int) (N : Nat) : (counts l N).length = N := by simp [counts]
theorem counts_get (l : List Int) (N i : Nat) (h : i < N) : (counts l N).getD i 0 = (l.count (i : Int) : Int) := by
  rw [List.getD_eq_getElem?_getD, List.getElem?_eq_getElem (by rw [counts_len]; exact h)]
  simp [counts]
theorem counts_nil (N : Nat) : counts [] N = List.replicate N 0 := by
  apply List.ext_getElem
  · simp [counts]
  · intro i h1 h2
    simp [counts]
theorem counts_snoc (l : List Int) (N i : Nat) (h : i < N) : counts (l ++ [(i : Int)]) N = (counts l N).set i ((counts l N).getD i 0 + 1) := by
  apply List.ext_getElem
  · simp [counts]
  · intro j h1 h2
    rw [counts_len] at h1
    rw [List.getElem_set]
    by_cases e : i = j
    · subst e
      rw [if_pos rfl, counts_get l N i h]
      simp [counts, List.count_append]
    · rw [if_neg e]
      simp only [counts, List.getElem_map, List.getElem_range, List.count_append]
      rw [List.count_singleton, if_neg (by simp; omega)]
      simp
theorem counts_take (l : List Int) (N k : Nat) (hk : k < l.length) (x : Nat) (hx : l.getD k 0 = (x : Int)) (hN : x < N) : counts (l.take (k + 1)) N = (counts (l.take k) N).set x ((counts (l.take k) N).getD x 0 + 1) := by
  rw [← counts_snoc _ _ _ hN, List.take_succ_eq_append_getElem hk]
  rw [List.getD_eq_getElem?_getD, List.getElem?_eq_getElem hk] at hx
  rw [← hx]
  rfl
theorem counts_succ (l : List Int) (N : Nat) : counts l (N + 1) = counts l N ++ [(l.count (N : Int) : Int)] := by
  simp [counts, List.range_succ]
theorem counts_app (a b : List Int) (N i : Nat) (h : i < N) : (counts (a ++ b) N).getD i 0 = (counts a N).getD i 0 + (counts b N).getD i 0 := by
  rw [counts_get _ _ _ h, counts_get _ _ _ h, counts_get _ _ _ h, List.count_append]
  simp
theorem counts_nn (l : List Int) (N : Nat) : ∀ x ∈ counts l N, 0 ≤ x ∧ x ≤ (l.length : Int) := by
  intro x hx
  obtain ⟨i, _, rfl⟩ := List.mem_map.1 hx
  have := List.count_le_length (a := (i : Int)) (l := l)
  omega
theorem count_take (l : List Int) (x : Int) (k : Nat) (hk : k < l.length) : (l.take (k + 1)).count x = (l.take k).count x + if x = l.getD k 0 then 1 else 0 := by
  rw [List.take_succ_eq_append_getElem hk, List.count_append, List.getD_eq_getElem?_getD, List.getElem?_eq_getElem hk, List.count_singleton]
  show _ + (if (l[k] == x) = true then 1 else 0) = _ + (if x = l[k] then 1 else 0)
  by_cases e : x = l[k]
  · rw [if_pos e, if_pos (by rw [e]; exact beq_self_eq_true _)]
  · rw [if_neg e, if_neg (by rw [beq_iff_eq]; exact fun h => e h.symm)]

/-! ### Together -/
def adds (a b : List Int) : List Int := List.zipWith (fun x y => cap (x + y)) a b
theorem adds_take (a b : List Int) (k : Nat) (h : k < a.length) (h2 : k < b.length) : adds (a.take (k + 1)) (b.take (k + 1)) = adds (a.take k) (b.take k) ++ [cap (a.getD k 0 + b.getD k 0)] := by
  unfold adds
  rw [List.take_succ_eq_append_getElem h, List.take_succ_eq_append_getElem h2, List.zipWith_append (by simp; omega)]
  rw [List.getD_eq_getElem?_getD, List.getElem?_eq_getElem h, List.getD_eq_getElem?_getD, List.getElem?_eq_getElem h2]
  rfl
theorem adds_len (a b : List Int) (h : a.length = b.length) : (adds a b).length = a.length := by simp [adds, h]
/-- One number more in a total. -/
def totS (n x : Int) : Int := if 0 < x then cap (n + cap x) else n
def tot (l : List Int) : Int := l.foldl totS 0
theorem totS_in (n x : Int) (h : 0 ≤ n ∧ n ≤ 1099511627776) : 0 ≤ totS n x ∧ totS n x ≤ 1099511627776 := by
  unfold totS cap
  repeat' split
  all_goals omega
theorem tot_take (l : List Int) (k : Nat) (h : k < l.length) : tot (l.take (k + 1)) = totS (tot (l.take k)) (l.getD k 0) := by
  unfold tot
  rw [List.take_succ_eq_append_getElem h, List.foldl_append, List.getD_eq_getElem?_getD, List.getElem?_eq_getElem h]
  rfl
theorem fold_in : ∀ (l : List Int) (n : Int), 0 ≤ n ∧ n ≤ 1099511627776 → 0 ≤ l.foldl totS n ∧ l.foldl totS n ≤ 1099511627776
  | [], n, h => h
  | x :: t, n, h => fold_in t (totS n x) (totS_in n x h)
theorem tot_in (l : List Int) : 0 ≤ tot l ∧ tot l ≤ 1099511627776 := fold_in l 0 (by omega)

/-! ### What symbols cost -/
def sumF : List Int → Int
  | [] => 0
  | x :: t => x + sumF t
theorem sumF_app (a b : List Int) : sumF (a ++ b) = sumF a + sumF b := by
  induction a with
  | nil => simp [sumF]
  | cons x t ih => simp only [List.cons_append, sumF, ih]; omega
theorem sumF_nn (a : List Int) (h : ∀ x ∈ a, 0 ≤ x) : 0 ≤ sumF a := by
  induction a with
  | nil => simp [sumF]
  | cons x t ih =>
    have h1 := h x (List.mem_cons_self ..)
    have h2 := ih (fun y hy => h y (List.mem_cons_of_mem _ hy))
    simp only [sumF]
    omega
/-- The lengths of all symbols, together. -/
def costS (l lens : List Int) : Int := sumF (l.map fun x => lens.getD x.toNat 0)
theorem costS_take (l lens : List Int) (k : Nat) (h : k < l.length) : costS (l.take (k + 1)) lens = costS (l.take k) lens + lens.getD (l.getD k 0).toNat 0 := by
  unfold costS
  rw [List.take_succ_eq_append_getElem h, List.map_append, sumF_app, List.getD_eq_getElem?_getD (l := l), List.getElem?_eq_getElem h]
  simp [sumF]
/-- Each symbol's length times its count, together: of the first k symbols. -/
def wgh (l lens : List Int) (k : Nat) : Int := sumF ((List.range k).map fun j : Nat => lens.getD j 0 * (l.count (j : Int) : Int))
theorem wgh_succ (l lens : List Int) (k : Nat) : wgh l lens (k + 1) = wgh l lens k + lens.getD k 0 * (l.count (k : Int) : Int) := by
  unfold wgh
  rw [List.range_succ, List.map_append, sumF_app]
  simp [sumF]
theorem wgh_cons_lt (x : Nat) (t lens : List Int) : ∀ k : Nat, wgh ((x : Int) :: t) lens k = wgh t lens k + if x < k then lens.getD x 0 else 0
  | 0 => by simp [wgh, sumF]
  | k + 1 => by
    rw [wgh_succ, wgh_succ, wgh_cons_lt x t lens k, List.count_cons]
    by_cases e : x = k
    · subst e
      rw [if_neg (by omega), if_pos (by simp), if_pos (by omega)]
      simp only [Int.natCast_add, Int.mul_add]
      simp
      omega
    · rw [show ((if ((x : Int) == (k : Int)) = true then 1 else 0) : Nat) = 0 from if_neg (by simp; omega)]
      by_cases h : x < k
      · rw [if_pos h, if_pos (by omega)]; simp; omega
      · rw [if_neg h, if_neg (by omega)]; simp
theorem wgh_all (l lens : List Int) (h : Syms l (lens.length : Int)) : wgh l lens lens.length = costS l lens := by
  induction l with
  | nil =>
    have : ∀ k, wgh [] lens k = 0 := fun k => by
      induction k with
      | zero => rfl
      | succ k ih => rw [wgh_succ, ih]; simp
    rw [this]; rfl
  | cons x t ih =>
    have hx := h x (List.mem_cons_self ..)
    have ht := ih (fun y hy => h y (List.mem_cons_of_mem _ hy))
    obtain ⟨n, rfl⟩ : ∃ n : Nat, x = (n : Int) := ⟨x.toNat, by omega⟩
    rw [wgh_cons_lt, ht, if_pos (by omega)]
    unfold costS
    simp only [List.map_cons, sumF]
    simp
    omega

/-! ### Groups -/
def ng (n : Nat) : Nat := (n + 49) / 50
def grp (l : List Int) (i : Nat) : List Int := (l.drop (50 * i)).take 50
def grps (l : List Int) (q : Nat) : List (List Int) := (List.range q).map (grp l)
theorem grps_len (l : List Int) (q : Nat) : (grps l q).length = q := by simp [grps]
theorem grps_succ (l : List Int) (q : Nat) : grps l (q + 1) = grps l q ++ [grp l q] := by simp [grps, List.range_succ]
theorem grps_get (l : List Int) (q i : Nat) (h : i < (grps l q).length) : (grps l q)[i] = grp l i := by simp [grps]
theorem ng_pos (n : Nat) (h : 0 < n) : (ng n : Int) = ((n : Int) - 1) / 50 + 1 := by unfold ng; omega
theorem ng_zero : ng 0 = 0 := rfl
theorem grp_len (l : List Int) (i : Nat) : (grp l i).length = min 50 (l.length - 50 * i) := by unfold grp; simp
theorem take_next (l : List Int) (i : Nat) : l.take (50 * (i + 1)) = l.take (50 * i) ++ grp l i := by
  unfold grp
  rw [show 50 * (i + 1) = 50 * i + 50 by omega, List.take_add]
end FreqM
end Go.Proofs.YtmlcdfimcabgkaaDoor
