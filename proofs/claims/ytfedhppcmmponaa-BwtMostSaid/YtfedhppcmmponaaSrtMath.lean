/-
  PLAIN MATHEMATICS OF LAYER 16 (sorter): rows sorted by halves, step by step, and how many steps that takes. No program is named here.
-/
import Derived.Test.YtfedhppcmmponaaRotMathB
namespace Go.Proofs.Ytfedhppcmmponaa
namespace SrtM
open Go.RowKit BwtM
set_option linter.unusedVariables false

/-! ### Steps of a part -/
def passS (n : Nat) : Nat := if h : n < 2 then 1 else 1 + passS (n / 2) + passS (n - n / 2) + n / 2 + n
termination_by n
decreasing_by all_goals omega
theorem passS_small {n : Nat} (h : n < 2) : passS n = 1 := by rw [passS]; simp [h]
theorem passS_big {n : Nat} (h : 2 ≤ n) : passS n = 1 + passS (n / 2) + passS (n - n / 2) + n / 2 + n := by
  conv => lhs; rw [passS]
  simp [show ¬ n < 2 by omega]
theorem passS_pos (n : Nat) : 1 ≤ passS n := by
  by_cases h : n < 2
  · rw [passS_small h]; exact Nat.le_refl _
  · rw [passS_big (by omega)]; omega
theorem passS_le : ∀ (n b : Nat), 1 ≤ n → n ≤ 2 ^ b → passS n ≤ n * (3 + 3 * b)
  | n, 0, h1, h2 => by
    obtain rfl : n = 1 := by simp at h2; omega
    rw [passS_small (by omega)]
    decide
  | n, b + 1, h1, h2 => by
    by_cases h : n < 2
    · obtain rfl : n = 1 := by omega
      rw [passS_small (by omega)]
      omega
    · have e : 2 ^ (b + 1) = 2 * 2 ^ b := by rw [Nat.pow_succ, Nat.mul_comm]
      rw [e] at h2
      have i1 := passS_le (n / 2) b (by omega) (by omega)
      have i2 := passS_le (n - n / 2) b (by omega) (by omega)
      rw [passS_big (by omega)]
      have e2 : n * (3 + 3 * (b + 1)) = (n / 2) * (3 + 3 * b) + (n - n / 2) * (3 + 3 * b) + 3 * n := by
        rw [← Nat.add_mul, show n / 2 + (n - n / 2) = n by omega, show 3 + 3 * (b + 1) = (3 + 3 * b) + 3 by omega, Nat.mul_add n (3 + 3 * b) 3, Nat.mul_comm n 3]
      rw [e2]
      omega

/-! ### Two rows put together -/
def mrg (K : Nat → Nat) (l r : List Nat) : List Nat := List.merge l r (fun a b => decide (K a ≤ K b))
theorem mrg_nil (K : Nat → Nat) (r : List Nat) : mrg K [] r = r := by simp [mrg]
theorem mrg_nil_r (K : Nat → Nat) (l : List Nat) : mrg K l [] = l := by simp [mrg]
theorem mrg_le {K : Nat → Nat} {a b : Nat} (l r : List Nat) (h : K a ≤ K b) : mrg K (a :: l) (b :: r) = a :: mrg K l (b :: r) := by simp [mrg, h]
theorem mrg_gt {K : Nat → Nat} {a b : Nat} (l r : List Nat) (h : ¬ K a ≤ K b) : mrg K (a :: l) (b :: r) = b :: mrg K (a :: l) r := by simp [mrg, h]
theorem mrg_perm (K : Nat → Nat) (l r : List Nat) : (mrg K l r).Perm (l ++ r) := List.merge_perm_append ..
theorem mrg_length (K : Nat → Nat) (l r : List Nat) : (mrg K l r).length = l.length + r.length := by rw [(mrg_perm K l r).length_eq, List.length_append]
/-- By keys, those of one key by themselves. -/
def Lt (K : Nat → Nat) (x y : Nat) : Prop := K x < K y ∨ (K x = K y ∧ x < y)
theorem Lt.le {K : Nat → Nat} {x y : Nat} (h : Lt K x y) : K x ≤ K y := by rcases h with h | h <;> omega
theorem mrg_sorted (K : Nat → Nat) : ∀ (l r : List Nat), l.Pairwise (Lt K) → r.Pairwise (Lt K) → (∀ x ∈ l, ∀ y ∈ r, K x = K y → x < y) → (mrg K l r).Pairwise (Lt K)
  | [], r, _, h, _ => by rw [mrg_nil]; exact h
  | a :: l, [], h, _, _ => by rw [mrg_nil_r]; exact h
  | a :: l, b :: r, hl, hr, hx => by
    obtain ⟨hl1, hl2⟩ := List.pairwise_cons.1 hl
    obtain ⟨hr1, hr2⟩ := List.pairwise_cons.1 hr
    by_cases h : K a ≤ K b
    · rw [mrg_le l r h]
      refine List.pairwise_cons.2 ⟨fun y hy => ?_, mrg_sorted K l (b :: r) hl2 hr (fun x h1 y h2 => hx x (List.mem_cons_of_mem _ h1) y h2)⟩
      rcases List.mem_append.1 ((mrg_perm K l (b :: r)).mem_iff.1 hy) with hy | hy
      · exact hl1 y hy
      · have h2 : K b ≤ K y := by
          rcases List.mem_cons.1 hy with rfl | hy2
          · exact Nat.le_refl _
          · exact (hr1 y hy2).le
        by_cases e : K a = K y
        · exact Or.inr ⟨e, hx a (List.mem_cons_self ..) y hy e⟩
        · exact Or.inl (by omega)
    · rw [mrg_gt l r h]
      refine List.pairwise_cons.2 ⟨fun y hy => ?_, mrg_sorted K (a :: l) r hl hr2 (fun x h1 y h2 => hx x h1 y (List.mem_cons_of_mem _ h2))⟩
      rcases List.mem_append.1 ((mrg_perm K (a :: l) r).mem_iff.1 hy) with hy | hy
      · have h2 : K a ≤ K y := by
          rcases List.mem_cons.1 hy with rfl | hy2
          · exact Nat.le_refl _
          · exact (hl1 y hy2).le
        exact Or.inl (by omega)
      · exact hr1 y hy
termination_by l r => l.length + r.length
def msort (K : Nat → Nat) (l : List Nat) : List Nat := if h : l.length < 2 then l else mrg K (msort K (l.take (l.length / 2))) (msort K (l.drop (l.length / 2)))
termination_by l.length
decreasing_by
  · rw [List.length_take]; omega
  · rw [List.length_drop]; omega
theorem msort_small {K : Nat → Nat} {l : List Nat} (h : l.length < 2) : msort K l = l := by rw [msort]; simp [h]
theorem msort_big {K : Nat → Nat} {l : List Nat} (h : 2 ≤ l.length) : msort K l = mrg K (msort K (l.take (l.length / 2))) (msort K (l.drop (l.length / 2))) := by
  conv => lhs; rw [msort]
  simp [show ¬ l.length < 2 by omega]
theorem msort_perm (K : Nat → Nat) : ∀ (m : Nat) (l : List Nat), l.length ≤ m → (msort K l).Perm l
  | m, l, hm => by
    by_cases h : l.length < 2
    · rw [msort_small h]
    · match m, hm with
      | 0, hm => omega
      | m + 1, hm =>
        rw [msort_big (by omega)]
        refine (mrg_perm ..).trans ?_
        conv => rhs; rw [← List.take_append_drop (l.length / 2) l]
        exact (msort_perm K m _ (by rw [List.length_take]; omega)).append (msort_perm K m _ (by rw [List.length_drop]; omega))
theorem msort_length (K : Nat → Nat) (l : List Nat) : (msort K l).length = l.length := (msort_perm K _ l (Nat.le_refl _)).length_eq
theorem msort_sorted (K : Nat → Nat) : ∀ (m : Nat) (l : List Nat), l.length ≤ m → l.Pairwise (fun x y => K x = K y → x < y) → (msort K l).Pairwise (Lt K)
  | m, l, hm, hp => by
    by_cases h : l.length < 2
    · rw [msort_small h]
      match l, h with
      | [], _ => exact List.Pairwise.nil
      | [x], _ => exact List.pairwise_singleton _ _
      | _ :: _ :: _, h => simp at h; omega
    · match m, hm with
      | 0, hm => omega
      | m + 1, hm =>
        rw [msort_big (by omega)]
        have hp2 := hp
        rw [← List.take_append_drop (l.length / 2) l, List.pairwise_append] at hp2
        obtain ⟨h1, h2, h3⟩ := hp2
        refine mrg_sorted K _ _ (msort_sorted K m _ (by rw [List.length_take]; omega) h1) (msort_sorted K m _ (by rw [List.length_drop]; omega) h2) (fun x hx y hy => ?_)
        exact h3 x ((msort_perm K _ _ (Nat.le_refl _)).mem_iff.1 hx) y ((msort_perm K _ _ (Nat.le_refl _)).mem_iff.1 hy)

/-! ### Putting together, place by place -/
structure MrgAt (K : Nat → Nat) (X Y : List Nat) (f s : Nat) : Prop where
  fl : f ≤ X.length
  sl : s ≤ Y.length
  eq : (mrg K X Y).drop (f + s) = mrg K (X.drop f) (Y.drop s)
theorem MrgAt.start (K : Nat → Nat) (X Y : List Nat) : MrgAt K X Y 0 0 := ⟨Nat.zero_le _, Nat.zero_le _, by simp⟩
theorem drop_next {M : List Nat} {j a : Nat} {R : List Nat} (h : M.drop j = a :: R) : M.getD j 0 = a ∧ M.drop (j + 1) = R := by
  have hj : j < M.length := by
    have := congrArg List.length h
    rw [List.length_drop] at this
    simp at this
    omega
  rw [List.drop_eq_getElem_cons hj] at h
  obtain ⟨h1, h2⟩ := List.cons.inj h
  exact ⟨by rw [List.getD_eq_getElem?_getD, List.getElem?_eq_getElem hj]; exact h1, h2⟩
theorem drop_at {X : List Nat} {f : Nat} (h : f < X.length) : X.drop f = X.getD f 0 :: X.drop (f + 1) := by
  rw [List.getD_eq_getElem?_getD, List.getElem?_eq_getElem h]
  exact List.drop_eq_getElem_cons h
theorem MrgAt.first {K : Nat → Nat} {X Y : List Nat} {f s : Nat} (h : MrgAt K X Y f s) (hf : f < X.length) (hc : s = Y.length ∨ K (X.getD f 0) ≤ K (Y.getD s 0)) : (mrg K X Y).getD (f + s) 0 = X.getD f 0 ∧ MrgAt K X Y (f + 1) s := by
  have he := h.eq
  have h2 : mrg K (X.drop f) (Y.drop s) = X.getD f 0 :: mrg K (X.drop (f + 1)) (Y.drop s) := by
    rw [drop_at hf]
    by_cases e : s = Y.length
    · rw [e, List.drop_length, mrg_nil_r, mrg_nil_r]
    · have hs : s < Y.length := by have := h.sl; omega
      rw [drop_at hs]
      exact mrg_le _ _ (hc.resolve_left e)
  rw [h2] at he
  obtain ⟨e1, e2⟩ := drop_next he
  exact ⟨e1, by omega, h.sl, by rw [show f + 1 + s = f + s + 1 by omega]; exact e2⟩
theorem MrgAt.second {K : Nat → Nat} {X Y : List Nat} {f s : Nat} (h : MrgAt K X Y f s) (hs : s < Y.length) (hc : f = X.length ∨ ¬ K (X.getD f 0) ≤ K (Y.getD s 0)) : (mrg K X Y).getD (f + s) 0 = Y.getD s 0 ∧ MrgAt K X Y f (s + 1) := by
  have he := h.eq
  have h2 : mrg K (X.drop f) (Y.drop s) = Y.getD s 0 :: mrg K (X.drop f) (Y.drop (s + 1)) := by
    rw [drop_at hs]
    by_cases e : f = X.length
    · rw [e, List.drop_length, mrg_nil, mrg_nil]
    · have hf : f < X.length := by have := h.fl; omega
      rw [drop_at hf]
      exact mrg_gt _ _ (hc.resolve_left e)
  rw [h2] at he
  obtain ⟨e1, e2⟩ := drop_next he
  exact ⟨e1, h.fl, by omega, by rw [show f + (s + 1) = f + s + 1 by omega]; exact e2⟩

/-! ### Parts on a stack -/
structure Part where
  lo : Nat
  hi : Nat
  begun : Bool
def Part.mid (p : Part) : Nat := (p.lo + p.hi) / 2
def Part.cost (p : Part) : Nat := if p.begun then (p.hi - p.lo) / 2 + (p.hi - p.lo) else passS (p.hi - p.lo)
/-- What becomes of the places, when a part is done. -/
def opP (K : Nat → Nat) (p : Part) (A : List Nat) : List Nat :=
  A.take p.lo ++ (if p.begun then mrg K ((A.drop p.lo).take (p.mid - p.lo)) ((A.drop p.mid).take (p.hi - p.mid)) else msort K ((A.drop p.lo).take (p.hi - p.lo))) ++ A.drop p.hi
theorem op_sort {K : Nat → Nat} {P X Q : List Nat} {lo hi : Nat} (h1 : P.length = lo) (h2 : lo + X.length = hi) : opP K ⟨lo, hi, false⟩ (P ++ X ++ Q) = P ++ msort K X ++ Q := by
  unfold opP
  simp only [Bool.false_eq_true, if_false]
  have e1 : (P ++ X ++ Q).take lo = P := by rw [List.append_assoc, ← h1, List.take_left]
  have e2 : (P ++ X ++ Q).drop lo = X ++ Q := by rw [List.append_assoc, ← h1, List.drop_left]
  have e3 : (P ++ X ++ Q).drop hi = Q := by rw [← h2, ← h1, ← List.length_append, List.drop_left]
  have e4 : (X ++ Q).take (hi - lo) = X := by rw [show hi - lo = X.length by omega, List.take_left]
  rw [e1, e2, e3, e4]
theorem op_merge {K : Nat → Nat} {P X Y Q : List Nat} {lo hi : Nat} (h1 : P.length = lo) (h2 : (⟨lo, hi, true⟩ : Part).mid = lo + X.length) (h3 : lo + X.length + Y.length = hi) : opP K ⟨lo, hi, true⟩ (P ++ (X ++ Y) ++ Q) = P ++ mrg K X Y ++ Q := by
  unfold opP
  simp only [if_true, h2]
  have e1 : (P ++ (X ++ Y) ++ Q).take lo = P := by rw [List.append_assoc, ← h1, List.take_left]
  have e2 : (P ++ (X ++ Y) ++ Q).drop lo = X ++ (Y ++ Q) := by rw [List.append_assoc, ← h1, List.drop_left, List.append_assoc]
  have e3 : (P ++ (X ++ Y) ++ Q).drop hi = Q := by rw [← h3, ← h1, show P.length + X.length + Y.length = (P ++ (X ++ Y)).length by simp; omega, List.drop_left]
  have e4 : (X ++ (Y ++ Q)).take (lo + X.length - lo) = X := by rw [show lo + X.length - lo = X.length by omega, List.take_left]
  have e5 : (P ++ (X ++ Y) ++ Q).drop (lo + X.length) = Y ++ Q := by rw [← h1, show P ++ (X ++ Y) ++ Q = (P ++ X) ++ (Y ++ Q) by simp, show P.length + X.length = (P ++ X).length by simp, List.drop_left]
  have e6 : (Y ++ Q).take (hi - (lo + X.length)) = Y := by rw [show hi - (lo + X.length) = Y.length by omega, List.take_left]
  rw [e1, e2, e3, e4, e5, e6]
theorem op_small {K : Nat → Nat} {A : List Nat} {lo hi : Nat} (h1 : lo ≤ hi) (h2 : hi ≤ A.length) (h3 : hi - lo < 2) : opP K ⟨lo, hi, false⟩ A = A := by
  have e : A = A.take lo ++ (A.drop lo).take (hi - lo) ++ A.drop hi := by
    conv => lhs; rw [← List.take_append_drop lo A, ← List.take_append_drop (hi - lo) (A.drop lo), List.drop_drop, show lo + (hi - lo) = hi by omega]
    rw [List.append_assoc]
  conv => lhs; rw [e]
  rw [op_sort (by rw [List.length_take]; omega) (by rw [List.length_take, List.length_drop]; omega), msort_small (by rw [List.length_take]; omega), ← e]
theorem mid_half (lo hi : Nat) (b : Bool) (h : lo ≤ hi) : (⟨lo, hi, b⟩ : Part).mid = lo + (hi - lo) / 2 := by
  show (lo + hi) / 2 = _
  omega
theorem op_halves {K : Nat → Nat} {A : List Nat} {lo hi : Nat} (h1 : lo + 2 ≤ hi) (h2 : hi ≤ A.length) :
    opP K ⟨lo, hi, true⟩ (opP K ⟨lo + (hi - lo) / 2, hi, false⟩ (opP K ⟨lo, lo + (hi - lo) / 2, false⟩ A)) = opP K ⟨lo, hi, false⟩ A := by
  obtain ⟨P, X, Q, rfl, hP, hX⟩ : ∃ P X Q, A = P ++ X ++ Q ∧ P.length = lo ∧ X.length = hi - lo := ⟨A.take lo, (A.drop lo).take (hi - lo), A.drop hi, by
    conv => lhs; rw [← List.take_append_drop lo A, ← List.take_append_drop (hi - lo) (A.drop lo), List.drop_drop, show lo + (hi - lo) = hi by omega]
    rw [List.append_assoc], by rw [List.length_take]; omega, by rw [List.length_take, List.length_drop]; omega⟩
  have ha : (X.take (X.length / 2)).length = (hi - lo) / 2 := by rw [List.length_take, hX]; omega
  have hb : (X.drop (X.length / 2)).length = (hi - lo) - (hi - lo) / 2 := by rw [List.length_drop, hX]
  have e1 : opP K ⟨lo, hi, false⟩ (P ++ X ++ Q) = P ++ msort K X ++ Q := op_sort hP (by omega)
  have e0 : P ++ X ++ Q = P ++ X.take (X.length / 2) ++ (X.drop (X.length / 2) ++ Q) := by
    rw [List.append_assoc P (X.take _), ← List.append_assoc (X.take _), List.take_append_drop, List.append_assoc]
  have e2 : opP K ⟨lo, lo + (hi - lo) / 2, false⟩ (P ++ X ++ Q) = P ++ msort K (X.take (X.length / 2)) ++ (X.drop (X.length / 2) ++ Q) := by
    rw [e0]
    exact op_sort hP (by rw [ha])
  have e3 : opP K ⟨lo + (hi - lo) / 2, hi, false⟩ (P ++ msort K (X.take (X.length / 2)) ++ (X.drop (X.length / 2) ++ Q)) = (P ++ msort K (X.take (X.length / 2))) ++ msort K (X.drop (X.length / 2)) ++ Q := by
    rw [← List.append_assoc]
    exact op_sort (by rw [List.length_append, msort_length, hP, ha]) (by rw [hb]; omega)
  rw [e1, e2, e3, List.append_assoc P]
  rw [op_merge hP (by rw [mid_half _ _ _ (by omega), msort_length, ha]) (by rw [msort_length, msort_length, ha, hb]; omega), msort_big (l := X) (by omega)]
def runAll (K : Nat → Nat) (stk : List Part) (A : List Nat) : List Nat := stk.foldl (fun A p => opP K p A) A
theorem runAll_cons (K : Nat → Nat) (p : Part) (stk : List Part) (A : List Nat) : runAll K (p :: stk) A = runAll K stk (opP K p A) := rfl
theorem op_whole (K : Nat → Nat) (A : List Nat) : opP K ⟨0, A.length, false⟩ A = msort K A := by
  have := op_sort (K := K) (P := []) (X := A) (Q := []) (lo := 0) (hi := A.length) rfl (by omega)
  simpa using this
def costs (stk : List Part) : Nat := (stk.map Part.cost).sum
end SrtM
end Go.Proofs.Ytfedhppcmmponaa
