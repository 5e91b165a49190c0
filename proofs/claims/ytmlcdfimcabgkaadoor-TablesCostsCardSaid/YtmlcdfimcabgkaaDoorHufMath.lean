/-
  PLAIN MATHEMATICS OF LAYER 9 (lens): trees of weights, joined two by two: depths, their share, what they cost, their order, how deep they can be. No program is named here.
-/
import Derived.Test.YtmlcdfimcabgkaaDoorLawKit
namespace Go.Proofs.YtmlcdfimcabgkaaDoor
namespace HufM
open Go.RowKit
set_option linter.unusedVariables false

/-! ### Sums -/
def sumN {α : Type} (f : α → Nat) : List α → Nat
  | [] => 0
  | x :: t => f x + sumN f t
theorem sumN_perm {α : Type} (f : α → Nat) {a b : List α} (h : a.Perm b) : sumN f a = sumN f b := by
  induction h with
  | nil => rfl
  | cons x _ ih => simp only [sumN, ih]
  | swap x y l => simp only [sumN]; omega
  | trans _ _ ih1 ih2 => exact ih1.trans ih2
theorem sumN_mem {α : Type} (f : α → Nat) {l : List α} {x : α} (h : x ∈ l) : f x ≤ sumN f l := by
  induction l with
  | nil => cases h
  | cons y t ih =>
    simp only [sumN]
    rcases List.mem_cons.1 h with rfl | h
    · omega
    · have := ih h; omega

/-! ### What lengths cost, and their share -/
/-- A weight, and a length. -/
abbrev WL := Nat × Nat
def cost (P : List WL) : Nat := sumN (fun p => p.1 * p.2) P
def kr (K : Nat) (P : List WL) : Nat := sumN (fun p => 2 ^ (K - p.2)) P
structure Fit (K : Nat) (P : List WL) : Prop where
  le : ∀ p ∈ P, p.2 ≤ K
  kr : kr K P ≤ 2 ^ K
theorem cost_perm {P Q : List WL} (h : P.Perm Q) : cost P = cost Q := sumN_perm _ h
theorem kr_perm {K : Nat} {P Q : List WL} (h : P.Perm Q) : kr K P = kr K Q := sumN_perm _ h
theorem cost_cons (p : WL) (P : List WL) : cost (p :: P) = p.1 * p.2 + cost P := rfl
theorem kr_cons (K : Nat) (p : WL) (P : List WL) : kr K (p :: P) = 2 ^ (K - p.2) + kr K P := rfl
theorem kr_up {K L : Nat} {P : List WL} (h : ∀ p ∈ P, p.2 ≤ L) (hL : L ≤ K) : kr K P = kr L P * 2 ^ (K - L) := by
  induction P with
  | nil => simp [kr, sumN]
  | cons p t ih =>
    have hp := h p (List.mem_cons_self ..)
    rw [kr_cons, kr_cons, ih (fun q hq => h q (List.mem_cons_of_mem _ hq)), Nat.add_mul, ← Nat.pow_add, show L - p.2 + (K - L) = K - p.2 by omega]
theorem max_mem {P : List WL} (h : P ≠ []) : ∃ p ∈ P, ∀ q ∈ P, q.2 ≤ p.2 := by
  induction P with
  | nil => exact absurd rfl h
  | cons a t ih =>
    by_cases ht : t = []
    · subst ht
      exact ⟨a, List.mem_cons_self .., fun q hq => by rw [List.mem_singleton] at hq; rw [hq]; exact Nat.le_refl _⟩
    · obtain ⟨p, hp, hm⟩ := ih ht
      by_cases h2 : p.2 ≤ a.2
      · exact ⟨a, List.mem_cons_self .., fun q hq => by
          rcases List.mem_cons.1 hq with rfl | hq
          · exact Nat.le_refl _
          · exact Nat.le_trans (hm q hq) h2⟩
      · exact ⟨p, List.mem_cons_of_mem _ hp, fun q hq => by
          rcases List.mem_cons.1 hq with rfl | hq
          · omega
          · exact hm q hq⟩
theorem split_mem {α : Type} {P : List α} {p : α} (h : p ∈ P) : ∃ Q, P.Perm (p :: Q) := by
  obtain ⟨s, t, rfl⟩ := List.append_of_mem h
  exact ⟨s ++ t, List.perm_middle⟩
/-- The least weight may have the greatest length. -/
theorem exch {P : List WL} {x : Nat} {r : List Nat} (hp : (P.map (·.1)).Perm (x :: r)) (hx : ∀ a ∈ r, x ≤ a) :
    ∃ L Q, cost ((x, L) :: Q) ≤ cost P ∧ (∀ K, kr K ((x, L) :: Q) = kr K P) ∧ (Q.map (·.1)).Perm r ∧ (∀ q ∈ Q, q.2 ≤ L) ∧ ∀ K, (∀ p ∈ P, p.2 ≤ K) → L ≤ K := by
  have hne : P ≠ [] := by
    rintro rfl
    have := hp.length_eq
    simp at this
  obtain ⟨⟨a, L⟩, ha, hm⟩ := max_mem hne
  obtain ⟨P1, hP1⟩ := split_mem ha
  have hmax : ∀ q ∈ P1, q.2 ≤ L := fun q hq => hm q (hP1.mem_iff.2 (List.mem_cons_of_mem _ hq))
  have hf : (a :: P1.map (·.1)).Perm (x :: r) := by
    have := hP1.map (·.1)
    exact this.symm.trans hp
  by_cases hax : a = x
  · subst hax
    exact ⟨L, P1, by rw [cost_perm hP1]; exact Nat.le_refl _, fun K => (kr_perm hP1).symm, hf.cons_inv, hmax, fun K h => h _ ha⟩
  · have hxm : x ∈ P1.map (·.1) := by
      have : x ∈ a :: P1.map (·.1) := hf.mem_iff.2 (List.mem_cons_self ..)
      rcases List.mem_cons.1 this with h | h
      · exact absurd h.symm hax
      · exact h
    obtain ⟨⟨x', l⟩, hq, rfl⟩ := List.mem_map.1 hxm
    obtain ⟨P2, hP2⟩ := split_mem hq
    have hl : l ≤ L := hmax _ hq
    have hr : (a :: P2.map (·.1)).Perm r := by
      have h1 : (a :: P1.map (·.1)).Perm (a :: x' :: P2.map (·.1)) := (hP2.map (·.1)).cons a
      have h2 : (x' :: a :: P2.map (·.1)).Perm (x' :: r) := (List.Perm.swap a x' _).trans (h1.symm.trans hf)
      exact h2.cons_inv
    have hxa : x' ≤ a := hx a (hr.mem_iff.1 (List.mem_cons_self ..))
    have hPP : P.Perm ((a, L) :: (x', l) :: P2) := hP1.trans (hP2.cons _)
    refine ⟨L, (a, l) :: P2, ?_, fun K => ?_, hr, fun q hq2 => ?_, fun K h => h _ ha⟩
    · rw [cost_perm hPP, cost_cons, cost_cons, cost_cons, cost_cons]
      simp only
      obtain ⟨d, rfl⟩ := Nat.exists_eq_add_of_le hl
      obtain ⟨e, rfl⟩ := Nat.exists_eq_add_of_le hxa
      simp only [Nat.mul_add, Nat.add_mul]
      omega
    · rw [kr_perm hPP, kr_cons, kr_cons, kr_cons, kr_cons]
    · rcases List.mem_cons.1 hq2 with rfl | hq2
      · exact hl
      · exact hmax q (hP2.mem_iff.2 (List.mem_cons_of_mem _ hq2))
/-- Two least weights may have one length, the greatest. -/
theorem exch2 {P : List WL} {x y : Nat} {r : List Nat} {K : Nat} (hp : (P.map (·.1)).Perm (x :: y :: r)) (hxy : x ≤ y) (hy : ∀ a ∈ r, y ≤ a) (hf : Fit K P) :
    ∃ L R, Fit K ((x, L + 1) :: (y, L + 1) :: R) ∧ cost ((x, L + 1) :: (y, L + 1) :: R) ≤ cost P ∧ (R.map (·.1)).Perm r := by
  obtain ⟨L1, Q, hc1, hk1, hp1, hm1, hb1⟩ := exch hp (fun a ha => by
    rcases List.mem_cons.1 ha with rfl | ha
    · exact hxy
    · exact Nat.le_trans hxy (hy a ha))
  obtain ⟨L2, R, hc2, hk2, hp2, hm2, hb2⟩ := exch hp1 hy
  have hL1 : L1 ≤ K := hb1 K hf.le
  have hL2 : L2 ≤ L1 := hb2 L1 hm1
  have hk : 2 ^ (K - L1) + kr K ((y, L2) :: R) ≤ 2 ^ K := by
    have := hf.kr
    rw [← hk1 K, kr_cons] at this
    rw [hk2 K]
    exact this
  have hRK : ∀ p ∈ (y, L2) :: R, p.2 ≤ L2 := fun p h => by
    rcases List.mem_cons.1 h with rfl | h
    · exact Nat.le_refl _
    · exact hm2 p h
  have hup := kr_up (K := K) hRK (by omega)
  have hU : 0 < 2 ^ (K - L2) := Nat.pow_pos (by decide)
  have hU1 : 0 < 2 ^ (K - L1) := Nat.pow_pos (by decide)
  have hKK : 2 ^ K = 2 ^ L2 * 2 ^ (K - L2) := by rw [← Nat.pow_add]; congr 1; omega
  have hm : kr L2 ((y, L2) :: R) + 1 ≤ 2 ^ L2 := by
    rw [hup, hKK] at hk
    have : kr L2 ((y, L2) :: R) * 2 ^ (K - L2) < 2 ^ L2 * 2 ^ (K - L2) := by omega
    exact Nat.lt_of_mul_lt_mul_right this
  have hfit : kr K ((x, L2) :: (y, L2) :: R) ≤ 2 ^ K := by
    rw [kr_cons, hup, hKK]
    have := Nat.mul_le_mul_right (2 ^ (K - L2)) hm
    rw [Nat.add_mul] at this
    simp only
    omega
  have hpos : 0 < L2 := by
    rcases Nat.eq_zero_or_pos L2 with h0 | h0
    · exfalso
      subst h0
      rw [kr_cons] at hm
      simp at hm
    · exact h0
  obtain ⟨L, rfl⟩ : ∃ L, L2 = L + 1 := ⟨L2 - 1, by omega⟩
  refine ⟨L, R, ⟨fun p h => ?_, hfit⟩, ?_, hp2⟩
  · rcases List.mem_cons.1 h with rfl | h
    · simp only; omega
    · have := hRK p h; omega
  · have hxl : x * (L + 1) ≤ x * L1 := Nat.mul_le_mul_left _ hL2
    rw [cost_cons] at hc1 ⊢
    simp only at hc1 ⊢
    omega

/-! ### Weights joined two by two -/
/-- c is what the joined weights are, together, if always two least ones are joined. -/
inductive Huff : List Nat → Nat → Prop
  | one (w : Nat) : Huff [w] 0
  | step (l : List Nat) (x y : Nat) (r : List Nat) (c : Nat) : l.Perm (x :: y :: r) → x ≤ y → (∀ a ∈ r, y ≤ a) → Huff ((x + y) :: r) c → Huff l (c + (x + y))
theorem Huff.opt {l : List Nat} {c : Nat} (h : Huff l c) : ∀ (P : List WL) (K : Nat), (P.map (·.1)).Perm l → Fit K P → c ≤ cost P := by
  induction h with
  | one w => intro P K _ _; exact Nat.zero_le _
  | step l x y r c hp hxy hy _ ih =>
    intro P K hP hf
    obtain ⟨L, R, hf2, hc, hr⟩ := exch2 (hP.trans hp) hxy hy hf
    have h1 := ih ((x + y, L) :: R) K (by simpa using hr.cons (x + y)) ⟨fun p h => by
      rcases List.mem_cons.1 h with rfl | h
      · have := hf2.le (x, L + 1) (List.mem_cons_self ..)
        simp only at this ⊢; omega
      · exact hf2.le p (List.mem_cons_of_mem _ (List.mem_cons_of_mem _ h)), by
      have h2 := hf2.kr
      have h3 := hf2.le (x, L + 1) (List.mem_cons_self ..)
      rw [kr_cons, kr_cons] at h2
      rw [kr_cons]
      simp only at h2 h3 ⊢
      have e : 2 ^ (K - L) = 2 ^ (K - (L + 1)) + 2 ^ (K - (L + 1)) := by
        rw [show K - L = K - (L + 1) + 1 by omega, Nat.pow_succ]; omega
      omega⟩
    rw [cost_cons, cost_cons] at hc
    rw [cost_cons] at h1
    simp only [Nat.mul_add, Nat.add_mul, Nat.mul_one] at hc h1 ⊢
    omega

/-! ### Trees by weight and number -/
/-- A tree: its weight, its number. -/
abbrev Tr := Nat × Nat
def lt (a b : Tr) : Prop := a.1 < b.1 ∨ (a.1 = b.1 ∧ a.2 < b.2)
theorem lt_or (a b : Tr) (h : a.2 ≠ b.2) : lt a b ∨ lt b a := by unfold lt; omega
theorem lt_asym {a b : Tr} (h : lt a b) : ¬ lt b a := by unfold lt at *; omega
theorem lt_trans {a b c : Tr} (h : lt a b) (k : lt b c) : lt a c := by unfold lt at *; omega
theorem lt_le {a b : Tr} (h : lt a b) : a.1 ≤ b.1 := by unfold lt at h; omega
/-- d are the depths of trees (by number), if from the trees l on always the two least are joined; k is the next number. -/
inductive Run : Nat → List Tr → (Nat → Nat) → Prop
  | one (k : Nat) (t : Tr) (d : Nat → Nat) : d t.2 = 0 → Run k [t] d
  | step (k : Nat) (l : List Tr) (x y : Tr) (r : List Tr) (d : Nat → Nat) : l.Perm (x :: y :: r) → lt x y → (∀ t ∈ r, lt y t) → Run (k + 1) ((x.1 + y.1, k) :: r) d → d x.2 = d k + 1 → d y.2 = d k + 1 → Run k l d
theorem Run.perm {k : Nat} {l l2 : List Tr} {d : Nat → Nat} (h : Run k l d) (hp : l.Perm l2) : Run k l2 d := by
  cases h with
  | one _ t _ h0 =>
    obtain rfl : l2 = [t] := List.perm_singleton.1 hp.symm
    exact .one _ _ _ h0
  | step _ _ x y r _ h1 h2 h3 h4 h5 h6 => exact .step _ _ x y r _ (hp.symm.trans h1) h2 h3 h4 h5 h6
/-- What the depths cost is what the joined weights are. -/
theorem Run.cost {k : Nat} {l : List Tr} {d : Nat → Nat} (h : Run k l d) : Huff (l.map (·.1)) (sumN (fun t => t.1 * d t.2) l) := by
  induction h with
  | one k t d h0 =>
    simp only [List.map_cons, List.map_nil, sumN, h0, Nat.mul_zero, Nat.add_zero]
    exact .one _
  | step k l x y r d hp hxy hr _ hx hy ih =>
    rw [sumN_perm _ hp]
    simp only [sumN, hx, hy]
    simp only [sumN, List.map_cons] at ih
    have := Huff.step (l.map (·.1)) x.1 y.1 (r.map (·.1)) _ (by simpa using hp.map (·.1)) (lt_le hxy) (fun a ha => by
      obtain ⟨t, ht, rfl⟩ := List.mem_map.1 ha
      exact lt_le (hr t ht)) ih
    have e : (x.1 + y.1) * d k + sumN (fun t => t.1 * d t.2) r + (x.1 + y.1) = x.1 * (d k + 1) + (y.1 * (d k + 1) + sumN (fun t => t.1 * d t.2) r) := by
      simp only [Nat.mul_add, Nat.add_mul, Nat.mul_one]; omega
    rw [e] at this
    exact this
/-- Their share is whole. -/
theorem Run.whole {k : Nat} {l : List Tr} {d : Nat → Nat} (h : Run k l d) : ∀ K, (∀ t ∈ l, d t.2 ≤ K) → sumN (fun t => 2 ^ (K - d t.2)) l = 2 ^ K := by
  induction h with
  | one k t d h0 => intro K _; simp only [sumN, h0, Nat.sub_zero, Nat.add_zero]
  | step k l x y r d hp hxy hr _ hx hy ih =>
    intro K hK
    rw [sumN_perm _ hp]
    have h1 := hK x (hp.mem_iff.2 (List.mem_cons_self ..))
    rw [hx] at h1
    have h2 := ih K (fun t ht => by
      rcases List.mem_cons.1 ht with rfl | ht
      · simp only; omega
      · exact hK t (hp.mem_iff.2 (List.mem_cons_of_mem _ (List.mem_cons_of_mem _ ht))))
    simp only [sumN] at h2 ⊢
    rw [hx, hy]
    have e : 2 ^ (K - d k) = 2 ^ (K - (d k + 1)) + 2 ^ (K - (d k + 1)) := by
      rw [show K - d k = K - (d k + 1) + 1 by omega, Nat.pow_succ]; omega
    omega
/-- A lesser tree is as deep or deeper; and of two whose weights lie close the lesser one is at most one deeper. -/
theorem Run.order {k : Nat} {l : List Tr} {d : Nat → Nat} (h : Run k l d) : (∀ t ∈ l, t.2 < k) →
    (∀ t ∈ l, ∀ u ∈ l, lt t u → d u.2 ≤ d t.2) ∧ ∀ m, (∀ t ∈ l, m ≤ t.1) → ∀ u ∈ l, ∀ t ∈ l, lt u t → t.1 ≤ u.1 + m → d u.2 ≤ d t.2 + 1 := by
  induction h with
  | one k t d h0 =>
    intro _
    refine ⟨fun a ha b hb h => ?_, fun m _ a ha b hb h _ => ?_⟩
    · rw [List.mem_singleton] at ha hb; subst ha; subst hb; exact Nat.le_refl _
    · rw [List.mem_singleton] at ha hb; subst ha; subst hb; exact Nat.le_succ _
  | step k l x y r d hp hxy hr _ hx hy ih =>
    intro hn
    have hxl : x ∈ l := hp.mem_iff.2 (List.mem_cons_self ..)
    have hyl : y ∈ l := hp.mem_iff.2 (List.mem_cons_of_mem _ (List.mem_cons_self ..))
    have hrl : ∀ t ∈ r, t ∈ l := fun t ht => hp.mem_iff.2 (List.mem_cons_of_mem _ (List.mem_cons_of_mem _ ht))
    have hin : ∀ t ∈ l, t = x ∨ t = y ∨ t ∈ r := fun t ht => by
      rcases List.mem_cons.1 (hp.mem_iff.1 ht) with h | h
      · exact Or.inl h
      · rcases List.mem_cons.1 h with h | h
        · exact Or.inr (Or.inl h)
        · exact Or.inr (Or.inr h)
    obtain ⟨hA, hB⟩ := ih (fun t ht => by
      rcases List.mem_cons.1 ht with rfl | ht
      · exact Nat.lt_succ_self _
      · exact Nat.lt_succ_of_lt (hn t (hrl t ht)))
    have hzm : ((x.1 + y.1, k) : Tr) ∈ ((x.1 + y.1, k) : Tr) :: r := List.mem_cons_self ..
    have hrm : ∀ t ∈ r, t ∈ ((x.1 + y.1, k) : Tr) :: r := fun t ht => List.mem_cons_of_mem _ ht
    have hxw := lt_le hxy
    -- a tree beside the joined one is at most one deeper than it
    have hone : ∀ u ∈ r, d u.2 ≤ d k + 1 := fun u hu => by
      have huw := lt_le (hr u hu)
      rcases lt_or u (x.1 + y.1, k) (by have := hn u (hrl u hu); simp only; omega) with h | h
      · have := hB x.1 (fun t ht => by
          rcases List.mem_cons.1 ht with rfl | ht
          · simp only; omega
          · have := lt_le (hr t ht); omega) u (hrm u hu) _ hzm h (by simp only; omega)
        exact this
      · have := hA _ hzm u (hrm u hu) h
        simp only at this
        omega
    refine ⟨fun t ht u hu h => ?_, fun m hm u hu t ht h hw => ?_⟩
    · rcases hin t ht with rfl | rfl | ht
      · rcases hin u hu with rfl | rfl | hu
        · exact Nat.le_refl _
        · rw [hx, hy]; exact Nat.le_refl _
        · rw [hx]; exact hone u hu
      · rcases hin u hu with rfl | rfl | hu
        · rw [hx, hy]; exact Nat.le_refl _
        · exact Nat.le_refl _
        · rw [hy]; exact hone u hu
      · rcases hin u hu with rfl | rfl | hu
        · exact absurd (lt_trans hxy (hr t ht)) (lt_asym h)
        · exact absurd (hr t ht) (lt_asym h)
        · exact hA t (hrm t ht) u (hrm u hu) h
    · rcases hin u hu with rfl | rfl | hu
      · rcases hin t ht with rfl | rfl | ht
        · exact Nat.le_succ _
        · rw [hx, hy]; exact Nat.le_succ _
        · have hmy := hm y hyl
          have hk := hn t (hrl t ht)
          have hlt : lt t (u.1 + y.1, k) := by unfold lt; simp only; omega
          have := hA t (hrm t ht) _ hzm hlt
          simp only at this
          omega
      · rcases hin t ht with rfl | rfl | ht
        · rw [hx, hy]; exact Nat.le_succ _
        · exact Nat.le_succ _
        · have hmx := hm x hxl
          have hk := hn t (hrl t ht)
          have hlt : lt t (x.1 + u.1, k) := by unfold lt; simp only; omega
          have := hA t (hrm t ht) _ hzm hlt
          simp only at this
          omega
      · rcases hin t ht with rfl | rfl | ht
        · exact absurd (lt_trans hxy (hr u hu)) (lt_asym h)
        · exact absurd (hr u hu) (lt_asym h)
        · exact hB m (fun q hq => by
            rcases List.mem_cons.1 hq with rfl | hq
            · have := hm x hxl; simp only; omega
            · exact hm q (hrl q hq)) u (hrm u hu) t (hrm t ht) h hw
/-- A tree's weight. -/
def wt (t : Tr) : Nat := t.1
/-- How much trees weigh, if one of weight a lies D deep, and the others weigh m or more. -/
def grow : Nat → Nat → Nat → Nat
  | 0, a, _ => a
  | D + 1, a, m => grow D (a + m) (max a m)
theorem grow_mono : ∀ (D a b m n : Nat), a ≤ b → m ≤ n → grow D a m ≤ grow D b n
  | 0, a, b, m, n, h, _ => h
  | D + 1, a, b, m, n, h, k => grow_mono D _ _ _ _ (by omega) (by omega)
theorem Run.deep {k : Nat} {l : List Tr} {d : Nat → Nat} (h : Run k l d) : ∀ (t : Tr) (r : List Tr) (m : Nat), l.Perm (t :: r) → (∀ u ∈ r, m ≤ u.1) → grow (d t.2) t.1 m ≤ sumN wt l := by
  induction h with
  | one k t d h0 =>
    intro u r m hp hm
    have := List.perm_singleton.1 hp.symm
    simp only [List.cons.injEq] at this
    obtain ⟨rfl, rfl⟩ := this
    rw [h0]
    simp [grow, sumN, wt]
  | step k l x y r d hp hxy hr _ hx hy ih =>
    intro t q m hq hm
    have hs : sumN wt l = sumN wt (((x.1 + y.1, k) : Tr) :: r) := by
      rw [sumN_perm _ hp]; simp only [sumN, wt]; omega
    have hpq := hp.symm.trans hq
    have hxw := lt_le hxy
    rw [hs]
    by_cases htx : t = x
    · subst htx
      have hqq := hpq.cons_inv
      have hmy := hm y (hqq.mem_iff.1 (List.mem_cons_self ..))
      have h1 := ih (t.1 + y.1, k) r (max t.1 m) (List.Perm.refl _) (fun u hu => by
        have h2 := lt_le (hr u hu)
        omega)
      rw [hx]
      exact Nat.le_trans (grow_mono (d k) (t.1 + m) (t.1 + y.1) (max t.1 m) (max t.1 m) (by omega) (Nat.le_refl _)) h1
    · by_cases hty : t = y
      · subst hty
        have hqq := ((List.Perm.swap x t r).trans hpq).cons_inv
        have hmx := hm x (hqq.mem_iff.1 (List.mem_cons_self ..))
        have h1 := ih (x.1 + t.1, k) r (max t.1 m) (List.Perm.refl _) (fun u hu => by
          have h2 := lt_le (hr u hu)
          have h3 := hm u (hqq.mem_iff.1 (List.mem_cons_of_mem _ hu))
          omega)
        rw [hy]
        have h2 : grow (d k) (t.1 + m) (max t.1 m) ≤ grow (d k) (x.1 + t.1) (max t.1 m) := grow_mono _ _ _ _ _ (by omega) (Nat.le_refl _)
        exact Nat.le_trans h2 h1
      · have htr : t ∈ r := by
          have : t ∈ x :: y :: r := hpq.mem_iff.2 (List.mem_cons_self ..)
          rcases List.mem_cons.1 this with h | h
          · exact absurd h htx
          · rcases List.mem_cons.1 h with h | h
            · exact absurd h hty
            · exact h
        obtain ⟨r2, hr2⟩ := split_mem htr
        have hqq : (x :: y :: r2).Perm q := by
          have h1 : (x :: y :: r).Perm (t :: x :: y :: r2) :=
            ((hr2.cons y).cons x).trans (((List.Perm.swap t y r2).cons x).trans (List.Perm.swap t x (y :: r2)))
          exact (h1.symm.trans hpq).cons_inv
        refine ih t (((x.1 + y.1, k) : Tr) :: r2) m ((hr2.cons _).trans (List.Perm.swap _ _ _)) (fun u hu => ?_)
        rcases List.mem_cons.1 hu with rfl | hu
        · have := hm x (hqq.mem_iff.1 (List.mem_cons_self ..)); simp only; omega
        · exact hm u (hqq.mem_iff.1 (List.mem_cons_of_mem _ (List.mem_cons_of_mem _ hu)))
end HufM
end Go.Proofs.YtmlcdfimcabgkaaDoor
