/-
  PLAIN MATHEMATICS OF LAYER 9 (lens): that depths are there, that they are the only ones, and trees that wait in two rows. No program is named here.
-/
import Derived.Test.YtmlcdfimcabgkaaDoorHufMath
namespace Go.Proofs.YtmlcdfimcabgkaaDoor
namespace HufM
open Go.RowKit
set_option linter.unusedVariables false

/-- No two trees have one number. -/
def Dis (l : List Tr) : Prop := l.Pairwise (fun a b => a.2 ≠ b.2)
theorem Dis.perm {l m : List Tr} (h : Dis l) (p : l.Perm m) : Dis m := (p.pairwise_iff (fun h => fun e => h e.symm)).1 h
theorem Run.congr {k : Nat} {l : List Tr} {d : Nat → Nat} (h : Run k l d) : ∀ d' : Nat → Nat, (∀ t ∈ l, d' t.2 = d t.2) → (∀ n, k ≤ n → d' n = d n) → Run k l d' := by
  induction h with
  | one k t d h0 => intro d' h1 _; exact .one _ _ _ (by rw [h1 t (List.mem_cons_self ..), h0])
  | step k l x y r d hp hxy hr _ hx hy ih =>
    intro d' h1 h2
    refine .step _ _ x y r _ hp hxy hr (ih d' (fun t ht => ?_) (fun n hn => h2 n (by omega))) ?_ ?_
    · rcases List.mem_cons.1 ht with rfl | ht
      · exact h2 k (Nat.le_refl _)
      · exact h1 t (hp.mem_iff.2 (List.mem_cons_of_mem _ (List.mem_cons_of_mem _ ht)))
    · rw [h1 x (hp.mem_iff.2 (List.mem_cons_self ..)), h2 k (Nat.le_refl _), hx]
    · rw [h1 y (hp.mem_iff.2 (List.mem_cons_of_mem _ (List.mem_cons_self ..))), h2 k (Nat.le_refl _), hy]
theorem least_mem : ∀ (l : List Tr), l ≠ [] → Dis l → ∃ x r, l.Perm (x :: r) ∧ ∀ t ∈ r, lt x t
  | [], h, _ => absurd rfl h
  | [a], _, _ => ⟨a, [], List.Perm.refl _, fun t h => (by cases h)⟩
  | a :: b :: t, _, hd => by
    obtain ⟨ha, hd2⟩ := List.pairwise_cons.1 hd
    obtain ⟨x, r, hp, hx⟩ := least_mem (b :: t) (by simp) hd2
    have hxm : x ∈ b :: t := hp.mem_iff.2 (List.mem_cons_self ..)
    rcases lt_or a x (ha x hxm) with h | h
    · exact ⟨a, x :: r, hp.cons a, fun u hu => by
        rcases List.mem_cons.1 hu with rfl | hu
        · exact h
        · exact lt_trans h (hx u hu)⟩
    · exact ⟨x, a :: r, (hp.cons a).trans (List.Perm.swap x a r), fun u hu => by
        rcases List.mem_cons.1 hu with rfl | hu
        · exact h
        · exact hx u hu⟩
theorem two_least (l : List Tr) (h : 2 ≤ l.length) (hd : Dis l) : ∃ x y r, l.Perm (x :: y :: r) ∧ lt x y ∧ ∀ t ∈ r, lt y t := by
  obtain ⟨x, q, hp, hx⟩ := least_mem l (by rintro rfl; simp at h) hd
  have hl := hp.length_eq
  have hq := (List.pairwise_cons.1 (hd.perm hp)).2
  obtain ⟨y, r, hp2, hy⟩ := least_mem q (by rintro rfl; simp at hl; omega) hq
  exact ⟨x, y, r, hp.trans (hp2.cons x), hx y (hp2.mem_iff.2 (List.mem_cons_self ..)), hy⟩
theorem Run.exists : ∀ (n k : Nat) (l : List Tr), l.length = n + 1 → Dis l → (∀ t ∈ l, t.2 < k) → ∃ d, Run k l d
  | 0, k, l, hl, _, _ => by
    obtain ⟨t, rfl⟩ := List.length_eq_one_iff.1 hl
    exact ⟨fun _ => 0, .one _ _ _ rfl⟩
  | n + 1, k, l, hl, hd, hk => by
    obtain ⟨x, y, r, hp, hxy, hr⟩ := two_least l (by omega) hd
    have hlen := hp.length_eq
    have hdp := hd.perm hp
    obtain ⟨hdx, hd2⟩ := List.pairwise_cons.1 hdp
    obtain ⟨hdy, hd3⟩ := List.pairwise_cons.1 hd2
    have hkr : ∀ t ∈ r, t.2 < k := fun t ht => hk t (hp.mem_iff.2 (List.mem_cons_of_mem _ (List.mem_cons_of_mem _ ht)))
    have hkx := hk x (hp.mem_iff.2 (List.mem_cons_self ..))
    have hky := hk y (hp.mem_iff.2 (List.mem_cons_of_mem _ (List.mem_cons_self ..)))
    obtain ⟨d, hrun⟩ := Run.exists n (k + 1) (((x.1 + y.1, k) : Tr) :: r) (by simp at hlen ⊢; omega)
      (List.pairwise_cons.2 ⟨fun t ht => by have := hkr t ht; simp only; omega, hd3⟩)
      (fun t ht => by
        rcases List.mem_cons.1 ht with rfl | ht
        · exact Nat.lt_succ_self _
        · exact Nat.lt_succ_of_lt (hkr t ht))
    refine ⟨fun i => if i = x.2 ∨ i = y.2 then d k + 1 else d i, .step _ _ x y r _ hp hxy hr (hrun.congr _ (fun t ht => ?_) (fun i hi => if_neg (by omega))) ?_ ?_⟩
    · refine if_neg ?_
      rcases List.mem_cons.1 ht with rfl | ht
      · simp only; omega
      · have h1 := hdx t (List.mem_cons_of_mem _ ht)
        have h2 := hdy t ht
        omega
    · show (if x.2 = x.2 ∨ x.2 = y.2 then _ else _) = (if k = x.2 ∨ k = y.2 then _ else _) + 1
      rw [if_pos (Or.inl rfl), if_neg (by omega)]
    · show (if y.2 = x.2 ∨ y.2 = y.2 then _ else _) = (if k = x.2 ∨ k = y.2 then _ else _) + 1
      rw [if_pos (Or.inr rfl), if_neg (by omega)]
theorem least_one {x x' : Tr} {r r' : List Tr} (hp : (x :: r).Perm (x' :: r')) (h : ∀ t ∈ r, lt x t) (h' : ∀ t ∈ r', lt x' t) : x = x' ∧ r.Perm r' := by
  have hx : x' ∈ x :: r := hp.mem_iff.2 (List.mem_cons_self ..)
  have hx' : x ∈ x' :: r' := hp.mem_iff.1 (List.mem_cons_self ..)
  have e : x = x' := by
    rcases List.mem_cons.1 hx with e | hx
    · exact e.symm
    · rcases List.mem_cons.1 hx' with e | hx'
      · exact e
      · exact absurd (h x' hx) (lt_asym (h' x hx'))
  subst e
  exact ⟨rfl, hp.cons_inv⟩
/-- What is joined next is what the two least are: the depths go on. -/
theorem Run.next {k : Nat} {l : List Tr} {d : Nat → Nat} (h : Run k l d) {x y : Tr} {r : List Tr} (hp : l.Perm (x :: y :: r)) (hxy : lt x y) (hr : ∀ t ∈ r, lt y t) :
    Run (k + 1) ((x.1 + y.1, k) :: r) d ∧ d x.2 = d k + 1 ∧ d y.2 = d k + 1 := by
  cases h with
  | one _ t _ h0 =>
    have := hp.length_eq
    simp at this
  | step _ _ a b q _ hq hab hb hrun ha hb2 =>
    obtain ⟨rfl, h2⟩ := least_one (hq.symm.trans hp) (fun t ht => by
      rcases List.mem_cons.1 ht with rfl | ht
      · exact hab
      · exact lt_trans hab (hb t ht)) (fun t ht => by
      rcases List.mem_cons.1 ht with rfl | ht
      · exact hxy
      · exact lt_trans hxy (hr t ht))
    obtain ⟨rfl, h3⟩ := least_one h2 hb hr
    exact ⟨hrun.perm (h3.cons _), ha, hb2⟩
theorem Run.end_ {k : Nat} {t : Tr} {d : Nat → Nat} (h : Run k [t] d) : d t.2 = 0 := by
  cases h with
  | one _ _ _ h0 => exact h0
  | step _ _ a b q _ hq _ _ _ _ _ =>
    have := hq.length_eq
    simp at this

/-! ### Two rows -/
/-- Symbols wait in A, joined trees in B, each row from the least one on. -/
structure Two (n k : Nat) (A B : List Tr) : Prop where
  a : A.Pairwise lt
  b : B.Pairwise lt
  an : ∀ t ∈ A, t.2 < n
  bn : ∀ t ∈ B, n ≤ t.2 ∧ t.2 < k
  low : ∃ m, (∀ t ∈ A, m ≤ t.1) ∧ (∀ t ∈ B, m ≤ t.1) ∧ ∀ t ∈ B, t.1 ≤ 2 * m
/-- The least tree of two rows, and what is left of them. -/
def pick : List Tr → List Tr → Option (Tr × List Tr × List Tr)
  | [], [] => none
  | a :: A, [] => some (a, A, [])
  | [], b :: B => some (b, [], B)
  | a :: A, b :: B => if a.1 ≤ b.1 then some (a, A, b :: B) else some (b, a :: A, B)
theorem pick_least {n k : Nat} {A B : List Tr} (h : Two n k A B) {x : Tr} {A' B' : List Tr} (hp : pick A B = some (x, A', B')) :
    (A ++ B).Perm (x :: (A' ++ B')) ∧ (∀ t ∈ A' ++ B', lt x t) ∧ Two n k A' B' := by
  obtain ⟨ha, hb, han, hbn, m, hm1, hm2, hm3⟩ := h
  cases A with
  | nil =>
    cases B with
    | nil => simp [pick] at hp
    | cons b B =>
      simp only [pick, Option.some.injEq, Prod.mk.injEq] at hp
      obtain ⟨rfl, rfl, rfl⟩ := hp
      obtain ⟨h1, h2⟩ := List.pairwise_cons.1 hb
      exact ⟨List.Perm.refl _, h1, ⟨List.Pairwise.nil, h2, fun t h => (by cases h), fun t ht => hbn t (List.mem_cons_of_mem _ ht), m, fun t h => (by cases h), fun t ht => hm2 t (List.mem_cons_of_mem _ ht), fun t ht => hm3 t (List.mem_cons_of_mem _ ht)⟩⟩
  | cons a A =>
    obtain ⟨h1, h2⟩ := List.pairwise_cons.1 ha
    cases B with
    | nil =>
      simp only [pick, Option.some.injEq, Prod.mk.injEq] at hp
      obtain ⟨rfl, rfl, rfl⟩ := hp
      exact ⟨List.Perm.refl _, fun t ht => h1 t (by simpa using ht), ⟨h2, List.Pairwise.nil, fun t ht => han t (List.mem_cons_of_mem _ ht), fun t h => (by cases h), m, fun t ht => hm1 t (List.mem_cons_of_mem _ ht), fun t h => (by cases h), fun t h => (by cases h)⟩⟩
    | cons b B =>
      obtain ⟨h3, h4⟩ := List.pairwise_cons.1 hb
      have hna := han a (List.mem_cons_self ..)
      have hnb := (hbn b (List.mem_cons_self ..)).1
      simp only [pick] at hp
      split at hp
      · rename_i hle
        simp only [Option.some.injEq, Prod.mk.injEq] at hp
        obtain ⟨rfl, rfl, rfl⟩ := hp
        have hab : lt a b := by unfold lt; omega
        refine ⟨List.Perm.refl _, fun t ht => ?_, ⟨h2, hb, fun t ht => han t (List.mem_cons_of_mem _ ht), hbn, m, fun t ht => hm1 t (List.mem_cons_of_mem _ ht), hm2, hm3⟩⟩
        rcases List.mem_append.1 ht with ht | ht
        · exact h1 t ht
        · rcases List.mem_cons.1 ht with rfl | ht
          · exact hab
          · exact lt_trans hab (h3 t ht)
      · rename_i hle
        simp only [Option.some.injEq, Prod.mk.injEq] at hp
        obtain ⟨rfl, rfl, rfl⟩ := hp
        have hba : lt b a := by unfold lt; omega
        refine ⟨List.perm_middle, fun t ht => ?_, ⟨ha, h4, han, fun t ht => hbn t (List.mem_cons_of_mem _ ht), m, hm1, fun t ht => hm2 t (List.mem_cons_of_mem _ ht), fun t ht => hm3 t (List.mem_cons_of_mem _ ht)⟩⟩
        rcases List.mem_append.1 ht with ht | ht
        · rcases List.mem_cons.1 ht with rfl | ht
          · exact hba
          · exact lt_trans hba (h1 t ht)
        · exact h3 t ht
/-- Two are taken and joined, and the joined one goes behind the others. -/
theorem Two.join {n k : Nat} {A B A1 B1 A2 B2 : List Tr} {x y : Tr} (h : Two n k A B) (hnk : n ≤ k) (h1 : pick A B = some (x, A1, B1)) (h2 : pick A1 B1 = some (y, A2, B2)) :
    Two n (k + 1) A2 (B2 ++ [(x.1 + y.1, k)]) ∧ (A ++ B).Perm (x :: y :: (A2 ++ B2)) ∧ lt x y ∧ ∀ t ∈ A2 ++ B2, lt y t := by
  obtain ⟨p1, l1, t1⟩ := pick_least h h1
  obtain ⟨p2, l2, t2⟩ := pick_least t1 h2
  have hxy : lt x y := l1 y (p2.mem_iff.2 (List.mem_cons_self ..))
  have hp : (A ++ B).Perm (x :: y :: (A2 ++ B2)) := p1.trans (p2.cons x)
  refine ⟨?_, hp, hxy, l2⟩
  obtain ⟨m, hm1, hm2, hm3⟩ := h.low
  have hsub : ∀ t ∈ B2, t ∈ B := fun t ht => by
    have h3 : t ∈ A ++ B := hp.mem_iff.2 (List.mem_cons_of_mem _ (List.mem_cons_of_mem _ (List.mem_append_right _ ht)))
    rcases List.mem_append.1 h3 with h4 | h4
    · have h5 := h.an t h4
      have h6 := (t2.bn t ht).1
      omega
    · exact h4
  have hmx : m ≤ x.1 := by
    have h3 : x ∈ A ++ B := hp.mem_iff.2 (List.mem_cons_self ..)
    rcases List.mem_append.1 h3 with h4 | h4
    · exact hm1 x h4
    · exact hm2 x h4
  have hxyw := lt_le hxy
  refine ⟨t2.a, ?_, t2.an, fun t ht => ?_, y.1, fun t ht => lt_le (l2 t (List.mem_append_left _ ht)), fun t ht => ?_, fun t ht => ?_⟩
  · refine List.pairwise_append.2 ⟨t2.b, List.pairwise_singleton _ _, fun a ha b hb => ?_⟩
    rw [List.mem_singleton] at hb
    subst hb
    have h3 := hm3 a (hsub a ha)
    have h4 := (t2.bn a ha).2
    unfold lt
    simp only
    omega
  · rcases List.mem_append.1 ht with ht | ht
    · have := t2.bn t ht; omega
    · rw [List.mem_singleton] at ht; subst ht; simp only; omega
  · rcases List.mem_append.1 ht with ht | ht
    · exact lt_le (l2 t (List.mem_append_right _ ht))
    · rw [List.mem_singleton] at ht; subst ht; simp only; omega
  · rcases List.mem_append.1 ht with ht | ht
    · have := hm3 t (hsub t ht); omega
    · rw [List.mem_singleton] at ht; subst ht; simp only; omega
theorem Two.start {n : Nat} {A : List Tr} (ha : A.Pairwise lt) (hn : ∀ t ∈ A, t.2 < n) : Two n n A [] :=
  ⟨ha, List.Pairwise.nil, hn, fun t h => (by cases h), 0, fun t _ => Nat.zero_le _, fun t h => (by cases h), fun t h => (by cases h)⟩
theorem Two.dis {n k : Nat} {A B : List Tr} (h : Two n k A B) (hA : Dis A) (hB : Dis B) : Dis (A ++ B) :=
  List.pairwise_append.2 ⟨hA, hB, fun a ha b hb => by have h1 := h.an a ha; have h2 := (h.bn b hb).1; omega⟩
end HufM
end Go.Proofs.YtmlcdfimcabgkaaDoor
