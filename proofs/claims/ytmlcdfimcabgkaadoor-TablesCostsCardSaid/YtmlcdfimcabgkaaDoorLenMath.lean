/-
  PLAIN MATHEMATICS OF LAYER 9 (lens): depths of a row of weights, and what follows: whole, cheap, in order, not too deep; halves; lengths. No program is named here.
-/
import Derived.Test.YtmlcdfimcabgkaaDoorHufMathB
namespace Go.Proofs.YtmlcdfimcabgkaaDoor
namespace HufM
open Go.RowKit
set_option linter.unusedVariables false

theorem Run.unique {k : Nat} {l : List Tr} {d : Nat → Nat} (h : Run k l d) : ∀ d', Run k l d' → ∀ t ∈ l, d t.2 = d' t.2 := by
  induction h with
  | one k t d h0 =>
    intro d' h' u hu
    rw [List.mem_singleton] at hu
    subst hu
    rw [h0, h'.end_]
  | step k l x y r d hp hxy hr hrun hx hy ih =>
    intro d' h' u hu
    obtain ⟨h1, h2, h3⟩ := h'.next hp hxy hr
    have key := ih d' h1
    have hk : d k = d' k := key ((x.1 + y.1, k) : Tr) (List.mem_cons_self ..)
    rcases List.mem_cons.1 (hp.mem_iff.1 hu) with rfl | hu
    · rw [hx, h2, hk]
    · rcases List.mem_cons.1 hu with rfl | hu
      · rw [hy, h3, hk]
      · exact key u (List.mem_cons_of_mem _ hu)
theorem Run.pos {k : Nat} {l : List Tr} {d : Nat → Nat} (h : Run k l d) : 2 ≤ l.length → ∀ t ∈ l, 1 ≤ d t.2 := by
  induction h with
  | one k t d h0 => intro h; simp at h
  | step k l x y r d hp hxy hr hrun hx hy ih =>
    intro _ u hu
    rcases List.mem_cons.1 (hp.mem_iff.1 hu) with rfl | hu
    · omega
    · rcases List.mem_cons.1 hu with rfl | hu
      · omega
      · refine ih ?_ u (List.mem_cons_of_mem _ hu)
        cases r with
        | nil => cases hu
        | cons a b => simp
theorem Run.short {k : Nat} {l : List Tr} {d : Nat → Nat} (h : Run k l d) : ∀ t ∈ l, d t.2 + 1 ≤ l.length := by
  induction h with
  | one k t d h0 =>
    intro u hu
    rw [List.mem_singleton] at hu
    subst hu
    rw [h0]; simp
  | step k l x y r d hp hxy hr hrun hx hy ih =>
    intro u hu
    have hl := hp.length_eq
    simp only [List.length_cons] at hl ih
    have hk := ih ((x.1 + y.1, k) : Tr) (List.mem_cons_self ..)
    simp only at hk
    rcases List.mem_cons.1 (hp.mem_iff.1 hu) with rfl | hu
    · omega
    · rcases List.mem_cons.1 hu with rfl | hu
      · omega
      · have := ih u (List.mem_cons_of_mem _ hu); omega
theorem sumN_map {α β : Type} (f : β → Nat) (g : α → β) (l : List α) : sumN f (l.map g) = sumN (fun x => f (g x)) l := by
  induction l with
  | nil => rfl
  | cons x t ih => simp only [List.map_cons, sumN, ih]
theorem sumN_append {α : Type} (f : α → Nat) (a b : List α) : sumN f (a ++ b) = sumN f a + sumN f b := by
  induction a with
  | nil => simp [sumN]
  | cons x t ih => simp only [List.cons_append, sumN, ih]; omega
theorem sumN_range (f : Nat → Nat) (k : Nat) : sumN f (List.range (k + 1)) = sumN f (List.range k) + f k := by
  rw [List.range_succ, sumN_append]; simp [sumN]
theorem sumN_congr {α : Type} {f g : α → Nat} {l : List α} (h : ∀ x ∈ l, f x = g x) : sumN f l = sumN g l := by
  induction l with
  | nil => rfl
  | cons x t ih => simp only [sumN]; rw [h x (List.mem_cons_self ..), ih (fun y hy => h y (List.mem_cons_of_mem _ hy))]
theorem sumN_le {α : Type} {f : α → Nat} {l : List α} {c : Nat} (h : ∀ x ∈ l, f x ≤ c) : sumN f l ≤ c * l.length := by
  induction l with
  | nil => simp [sumN]
  | cons x t ih =>
    have h1 := h x (List.mem_cons_self ..)
    have h2 := ih (fun y hy => h y (List.mem_cons_of_mem _ hy))
    simp only [sumN, List.length_cons, Nat.mul_add]
    omega

/-! ### The depths of a row of weights -/
/-- Each symbol is a tree by itself. -/
def ini (w : List Int) : List Tr := (List.range w.length).map fun i => ((w.getD i 0).toNat, i)
theorem ini_len (w : List Int) : (ini w).length = w.length := by simp [ini]
theorem ini_mem {w : List Int} {t : Tr} (h : t ∈ ini w) : t.2 < w.length ∧ t.1 = (w.getD t.2 0).toNat := by
  obtain ⟨i, hi, rfl⟩ := List.mem_map.1 h
  exact ⟨List.mem_range.1 hi, rfl⟩
theorem ini_of {w : List Int} {i : Nat} (h : i < w.length) : ((w.getD i 0).toNat, i) ∈ ini w := List.mem_map.2 ⟨i, List.mem_range.2 h, rfl⟩
theorem ini_dis (w : List Int) : Dis (ini w) := by
  unfold Dis ini
  rw [List.pairwise_map]
  exact List.pairwise_lt_range.imp (fun h => by simp only; omega)
/-- The depths of weights. -/
def DepP (w zs : List Int) : Prop := ∃ d, Run w.length (ini w) d ∧ zs = (List.range w.length).map fun i => (d i : Int)
theorem DepP.exists {w : List Int} (h : 1 ≤ w.length) : ∃ zs, DepP w zs := by
  obtain ⟨d, hd⟩ := Run.exists (w.length - 1) w.length (ini w) (by rw [ini_len]; omega) (ini_dis w) (fun t ht => (ini_mem ht).1)
  exact ⟨_, d, hd, rfl⟩
theorem DepP.same {w zs ys : List Int} (h : DepP w zs) (k : DepP w ys) : zs = ys := by
  obtain ⟨d, hd, rfl⟩ := h
  obtain ⟨e, he, rfl⟩ := k
  apply List.map_congr_left
  intro i hi
  rw [hd.unique e he _ (ini_of (List.mem_range.1 hi))]
theorem DepP.len {w zs : List Int} (h : DepP w zs) : zs.length = w.length := by
  obtain ⟨d, _, rfl⟩ := h
  simp
theorem map_getD (d : Nat → Nat) {n i : Nat} (h : i < n) : ((List.range n).map fun i => (d i : Int)).getD i 0 = (d i : Int) := by
  rw [List.getD_eq_getElem?_getD, List.getElem?_map, List.getElem?_range h]
  rfl
theorem DepP.bound {w zs : List Int} (h : DepP w zs) (h2 : 2 ≤ w.length) : ∀ z ∈ zs, 1 ≤ z ∧ z + 1 ≤ (w.length : Int) := by
  obtain ⟨d, hd, rfl⟩ := h
  intro z hz
  obtain ⟨i, hi, rfl⟩ := List.mem_map.1 hz
  have hm := ini_of (w := w) (List.mem_range.1 hi)
  have h1 := hd.pos (by rw [ini_len]; exact h2) _ hm
  have h3 := hd.short _ hm
  rw [ini_len] at h3
  simp only at h1 h3
  omega
theorem DepP.order {w zs : List Int} (h : DepP w zs) {i k : Nat} (hi : i < w.length) (hk : k < w.length) (h0 : 0 ≤ w.getD k 0) (hlt : w.getD k 0 < w.getD i 0) : zs.getD i 0 ≤ zs.getD k 0 := by
  obtain ⟨d, hd, rfl⟩ := h
  rw [map_getD d hi, map_getD d hk]
  have := (hd.order (fun t ht => (ini_mem ht).1)).1 _ (ini_of hk) _ (ini_of hi) (Or.inl (by simp only; omega))
  simp only at this
  omega
/-- The share of lengths. -/
def shr (l : List Int) : Nat := sumN (fun x => 2 ^ (20 - x.toNat)) l
theorem DepP.whole {w zs : List Int} (h : DepP w zs) (h20 : ∀ z ∈ zs, z ≤ 20) : shr zs = 2 ^ 20 := by
  obtain ⟨d, hd, rfl⟩ := h
  have hK : ∀ t ∈ ini w, d t.2 ≤ 20 := fun t ht => by
    have h1 := (ini_mem ht).1
    have h2 := h20 (d t.2 : Int) (List.mem_map.2 ⟨t.2, List.mem_range.2 h1, rfl⟩)
    omega
  have := hd.whole 20 hK
  unfold shr
  rw [sumN_map]
  unfold ini at this
  rw [sumN_map] at this
  simpa using this
/-- What lengths cost, weighed. -/
def cst (w zs : List Int) (k : Nat) : Nat := sumN (fun i => (w.getD i 0).toNat * (zs.getD i 0).toNat) (List.range k)
theorem DepP.cheap {w zs o : List Int} (h : DepP w zs) (ho : o.length = w.length) (h20 : ∀ x ∈ o, 0 ≤ x ∧ x ≤ 20) (hs : shr o ≤ 2 ^ 20) : cst w zs w.length ≤ cst w o w.length := by
  obtain ⟨d, hd, rfl⟩ := h
  have hc := hd.cost
  have h1 := hc.opt ((List.range w.length).map fun i => ((w.getD i 0).toNat, (o.getD i 0).toNat)) 20 (by
    unfold ini
    rw [List.map_map, List.map_map]
    exact List.Perm.refl _) ⟨fun p hp => by
      obtain ⟨i, hi, rfl⟩ := List.mem_map.1 hp
      have hi' := List.mem_range.1 hi
      have := h20 (o.getD i 0) (by
        rw [List.getD_eq_getElem?_getD, List.getElem?_eq_getElem (by omega)]
        exact List.getElem_mem _)
      simp only; omega, by
      unfold kr
      rw [sumN_map]
      refine Nat.le_trans (Nat.le_of_eq ?_) hs
      unfold shr
      have e : o = (List.range w.length).map fun i => o.getD i 0 := by
        apply List.ext_getElem
        · simp [ho]
        · intro j h1 h2
          rw [List.getElem_map, List.getElem_range, List.getD_eq_getElem?_getD, List.getElem?_eq_getElem h1]
          rfl
      rw [e, sumN_map]
      refine sumN_congr (fun i hi => ?_)
      rw [← e]⟩
  unfold ini at h1
  rw [sumN_map] at h1
  unfold cost at h1
  rw [sumN_map] at h1
  unfold cst
  refine Nat.le_trans (Nat.le_of_eq (sumN_congr (fun i hi => ?_))) h1
  rw [map_getD d (List.mem_range.1 hi)]
  simp
theorem grow_up : ∀ (D a m : Nat), grow D a m ≤ grow (D + 1) a m
  | 0, a, m => by simp [grow]
  | D + 1, a, m => grow_up D (a + m) (max a m)
theorem grow_le : ∀ (e D a m : Nat), grow D a m ≤ grow (D + e) a m
  | 0, D, a, m => Nat.le_refl _
  | e + 1, D, a, m => Nat.le_trans (grow_le e D a m) (grow_up (D + e) a m)
theorem DepP.deep {w zs : List Int} (h : DepP w zs) (h2 : ∀ x ∈ w, 1 ≤ x ∧ x ≤ 2) (hn : w.length ≤ 1000) : ∀ z ∈ zs, z ≤ 20 := by
  obtain ⟨d, hd, rfl⟩ := h
  intro z hz
  obtain ⟨i, hi, rfl⟩ := List.mem_map.1 hz
  have hi' := List.mem_range.1 hi
  have hw : ∀ j, j < w.length → 1 ≤ w.getD j 0 ∧ w.getD j 0 ≤ 2 := fun j hj => h2 _ (by
    rw [List.getD_eq_getElem?_getD, List.getElem?_eq_getElem hj]
    exact List.getElem_mem hj)
  obtain ⟨r, hr⟩ := split_mem (ini_of hi')
  have h3 := hd.deep _ r 1 hr (fun u hu => by
    obtain ⟨h4, h5⟩ := ini_mem (hr.mem_iff.2 (List.mem_cons_of_mem _ hu))
    have := hw u.2 h4
    omega)
  have h4 : sumN wt (ini w) ≤ 2 * (ini w).length := sumN_le (fun t ht => by
    obtain ⟨h4, h5⟩ := ini_mem ht
    have := hw t.2 h4
    unfold wt
    omega)
  rw [ini_len] at h4
  by_cases hd20 : d i ≤ 20
  · omega
  · exfalso
    have h5 := grow_le (d i - 21) 21 1 1
    rw [show 21 + (d i - 21) = d i by omega] at h5
    have h6 := hw i hi'
    have h7 := grow_mono (d i) 1 (w.getD i 0).toNat 1 1 (by omega) (Nat.le_refl _)
    have h8 : grow 21 1 1 = 28657 := by decide
    simp only at h3
    omega

/-! ### Halves; lengths -/
def hv (x : Int) : Int := (if x < 0 then 0 else x) / 2 + 1
def hvs (w : List Int) : List Int := w.map hv
theorem hvs_len (w : List Int) : (hvs w).length = w.length := by simp [hvs]
/-- All weights are from 1 to 2^j + 1. -/
def Bd (j : Nat) (w : List Int) : Prop := ∀ x ∈ w, 1 ≤ x ∧ x ≤ ((2 ^ j + 1 : Nat) : Int)
theorem Bd.half {j : Nat} {w : List Int} (h : Bd (j + 1) w) : Bd j (hvs w) := by
  intro y hy
  obtain ⟨x, hx, rfl⟩ := List.mem_map.1 hy
  obtain ⟨h1, h2⟩ := h x hx
  rw [Nat.pow_succ] at h2
  unfold hv
  rw [if_neg (by omega)]
  omega
theorem Bd.stay {w : List Int} (h : Bd 0 w) : Bd 0 (hvs w) := by
  intro y hy
  obtain ⟨x, hx, rfl⟩ := List.mem_map.1 hy
  obtain ⟨h1, h2⟩ := h x hx
  simp at h2
  unfold hv
  rw [if_neg (by omega)]
  simp
  omega
/-- Lengths of weights: behind n halvings no depth is above 20. -/
inductive OfR : Nat → List Int → List Int → Prop
  | now (w zs : List Int) : DepP w zs → (∀ z ∈ zs, z ≤ 20) → OfR 0 w zs
  | later (n : Nat) (w ys zs : List Int) : DepP w ys → ¬ (∀ y ∈ ys, y ≤ 20) → OfR n (hvs w) zs → OfR (n + 1) w zs
theorem OfR.same {n : Nat} {w zs : List Int} (h : OfR n w zs) : ∀ m ys, OfR m w ys → zs = ys ∧ n = m := by
  induction h with
  | now w zs h1 h2 =>
    intro m ys h
    cases h with
    | now _ _ k1 k2 => exact ⟨h1.same k1, rfl⟩
    | later _ _ y2 _ k1 k2 k3 => rw [← h1.same k1] at k2; exact absurd h2 k2
  | later n w y zs h1 h2 _ ih =>
    intro m ys h
    cases h with
    | now _ _ k1 k2 => rw [← h1.same k1] at k2; exact absurd k2 h2
    | later _ _ y2 _ k1 k2 k3 =>
      obtain ⟨h3, rfl⟩ := ih _ _ k3
      exact ⟨h3, rfl⟩
theorem OfR.exists : ∀ (j : Nat) (w : List Int), Bd j w → 1 ≤ w.length → w.length ≤ 1000 → ∃ n zs, n ≤ j ∧ OfR n w zs
  | 0, w, hb, h1, h2 => by
    obtain ⟨zs, hz⟩ := DepP.exists h1
    exact ⟨0, zs, Nat.le_refl _, .now _ _ hz (hz.deep (fun x hx => by
      have := hb x hx
      simp at this
      omega) h2)⟩
  | j + 1, w, hb, h1, h2 => by
    obtain ⟨ys, hy⟩ := DepP.exists h1
    by_cases h : ∀ y ∈ ys, y ≤ 20
    · exact ⟨0, ys, Nat.zero_le _, .now _ _ hy h⟩
    · obtain ⟨n, zs, hn, ho⟩ := OfR.exists j (hvs w) hb.half (by rw [hvs_len]; exact h1) (by rw [hvs_len]; exact h2)
      exact ⟨n + 1, zs, by omega, .later _ _ ys _ hy h ho⟩
theorem OfR.whole {n : Nat} {w zs : List Int} (h : OfR n w zs) : 2 ≤ w.length → zs.length = w.length ∧ (∀ z ∈ zs, 1 ≤ z ∧ z ≤ 20) ∧ shr zs = 2 ^ 20 := by
  induction h with
  | now w zs h1 h2 => intro hl; exact ⟨h1.len, fun z hz => ⟨(h1.bound hl z hz).1, h2 z hz⟩, h1.whole h2⟩
  | later n w y zs h1 h2 _ ih =>
    intro hl
    have := ih (by rw [hvs_len]; exact hl)
    rw [hvs_len] at this
    exact this
end HufM
end Go.Proofs.YtmlcdfimcabgkaaDoor
