/-
  PLAIN MATHEMATICS OF LAYERS 15 AND 16 (rotate, sorter): a text's bytes going round, and what is less by its first bytes. No program is named here.
-/
import Derived.Test.YtfedhppcmmponaaBwtMath
namespace Go.Proofs.Ytfedhppcmmponaa
namespace BwtM
open Go.RowKit
set_option linter.unusedVariables false

/-! ### Bytes going round -/
/-- The byte at a place, going round. -/
def bt (T : List UInt8) (i : Nat) : Nat := (T.getD (i % T.length) 0).toNat
theorem bt_mod (T : List UInt8) (i : Nat) : bt T (i % T.length) = bt T i := by unfold bt; rw [Nat.mod_mod]
theorem bt_in (T : List UInt8) {i : Nat} (h : i < T.length) : bt T i = (T.getD i 0).toNat := by unfold bt; rw [Nat.mod_eq_of_lt h]
theorem bt_on (T : List UInt8) {i : Nat} (h : T.length ≤ i) (h2 : i < 2 * T.length) : bt T i = (T.getD (i - T.length) 0).toNat := by
  unfold bt; rw [Nat.mod_eq_sub_mod h, Nat.mod_eq_of_lt (by omega)]
theorem bt_turn (T : List UInt8) (i : Nat) : bt T (i + T.length) = bt T i := by unfold bt; rw [Nat.add_mod_right]
theorem bt_add (T : List UInt8) (i t : Nat) : bt T (i % T.length + t) = bt T (i + t) := by unfold bt; rw [Nat.mod_add_mod]
theorem rot_getD (T : List UInt8) {i j : Nat} (hi : i ≤ T.length) (hj : j < T.length) : ((rot T i).getD j 0).toNat = bt T (i + j) := by
  unfold rot
  by_cases h : i + j < T.length
  · rw [bt_in T h, List.getD_eq_getElem?_getD, List.getElem?_append_left (by rw [List.length_drop]; omega), List.getElem?_drop, List.getD_eq_getElem?_getD]
  · rw [bt_on T (by omega) (by omega), List.getD_eq_getElem?_getD, List.getElem?_append_right (by rw [List.length_drop]; omega), List.length_drop, List.getElem?_take_of_lt (by omega), List.getD_eq_getElem?_getD]
    congr 3
    omega

/-! ### By the first bytes -/
def eqH (T : List UInt8) (H i k : Nat) : Prop := ∀ t, t < H → bt T (i + t) = bt T (k + t)
def ltH (T : List UInt8) (H i k : Nat) : Prop := ∃ t, t < H ∧ eqH T t i k ∧ bt T (i + t) < bt T (k + t)
theorem eqH_refl (T : List UInt8) (H i : Nat) : eqH T H i i := fun _ _ => rfl
theorem eqH.symm {T : List UInt8} {H i k : Nat} (h : eqH T H i k) : eqH T H k i := fun t ht => (h t ht).symm
theorem eqH.trans {T : List UInt8} {H i k m : Nat} (h : eqH T H i k) (g : eqH T H k m) : eqH T H i m := fun t ht => (h t ht).trans (g t ht)
theorem eqH.mono {T : List UInt8} {H G i k : Nat} (h : eqH T H i k) (hg : G ≤ H) : eqH T G i k := fun t ht => h t (by omega)
theorem eqH.more {T : List UInt8} {H i k : Nat} (h : eqH T H i k) (e : bt T (i + H) = bt T (k + H)) : eqH T (H + 1) i k := fun t ht => by
  by_cases h1 : t < H
  · exact h t h1
  · obtain rfl : t = H := by omega
    exact e
theorem ltH.mono {T : List UInt8} {H G i k : Nat} (h : ltH T H i k) (hg : H ≤ G) : ltH T G i k := by
  obtain ⟨t, h1, h2⟩ := h
  exact ⟨t, by omega, h2⟩
theorem ltH.noteq {T : List UInt8} {H i k : Nat} (h : ltH T H i k) : ¬ eqH T H i k := fun e => by
  obtain ⟨t, h1, h2, h3⟩ := h
  have := e t h1
  omega
theorem ltH.asym {T : List UInt8} {H i k : Nat} (h : ltH T H i k) : ¬ ltH T H k i := fun g => by
  obtain ⟨t, h1, h2, h3⟩ := h
  obtain ⟨u, g1, g2, g3⟩ := g
  rcases Nat.lt_trichotomy t u with c | rfl | c
  · have := g2 t c; omega
  · omega
  · have := h2 u c; omega
theorem ltH_total (T : List UInt8) (i k : Nat) : ∀ H, ltH T H i k ∨ eqH T H i k ∨ ltH T H k i
  | 0 => Or.inr (Or.inl fun t ht => by omega)
  | H + 1 => by
    rcases ltH_total T i k H with h | h | h
    · exact Or.inl (h.mono (by omega))
    · rcases Nat.lt_trichotomy (bt T (i + H)) (bt T (k + H)) with c | c | c
      · exact Or.inl ⟨H, by omega, h, c⟩
      · exact Or.inr (Or.inl (h.more c))
      · exact Or.inr (Or.inr ⟨H, by omega, h.symm, c⟩)
    · exact Or.inr (Or.inr (h.mono (by omega)))
theorem ltH.trans {T : List UInt8} {H i k m : Nat} (h : ltH T H i k) (g : ltH T H k m) : ltH T H i m := by
  obtain ⟨t, h1, h2, h3⟩ := h
  obtain ⟨u, g1, g2, g3⟩ := g
  rcases Nat.lt_trichotomy t u with c | rfl | c
  · exact ⟨t, h1, h2.trans (g2.mono (by omega)), by rw [← g2 t c]; exact h3⟩
  · exact ⟨t, h1, h2.trans g2, by omega⟩
  · exact ⟨u, g1, (h2.mono (by omega)).trans g2, by rw [h2 u c]; exact g3⟩
theorem ltH.eq_left {T : List UInt8} {H i k m : Nat} (h : eqH T H i k) (g : ltH T H k m) : ltH T H i m := by
  obtain ⟨u, g1, g2, g3⟩ := g
  exact ⟨u, g1, (h.mono (by omega)).trans g2, by rw [h u g1]; exact g3⟩
theorem ltH.eq_right {T : List UInt8} {H i k m : Nat} (h : ltH T H i k) (g : eqH T H k m) : ltH T H i m := by
  obtain ⟨u, g1, g2, g3⟩ := h
  exact ⟨u, g1, g2.trans (g.mono (by omega)), by rw [← g u g1]; exact g3⟩
/-- What goes round is told by its first bytes up to the text's length. -/
theorem eqH_all {T : List UInt8} {i k : Nat} (h : eqH T T.length i k) (t : Nat) : bt T (i + t) = bt T (k + t) := by
  by_cases hn : 0 < T.length
  · have e : ∀ x, bt T (x + t) = bt T (x + t % T.length) := fun x => by unfold bt; rw [Nat.add_mod_mod]
    rw [e i, e k]
    exact h _ (Nat.mod_lt _ hn)
  · unfold bt
    have : T = [] := List.eq_nil_of_length_eq_zero (by omega)
    subst this
    rfl
theorem eqH_up {T : List UInt8} {H G i k : Nat} (h : eqH T H i k) (hn : T.length ≤ H) : eqH T G i k := fun t _ => eqH_all (h.mono hn) t
theorem ltH_down {T : List UInt8} {H i k : Nat} (h : ltH T H i k) : ltH T T.length i k := by
  rcases ltH_total T i k T.length with g | g | g
  · exact g
  · exact absurd (eqH_up g (Nat.le_refl _)) h.noteq
  · exfalso
    obtain ⟨t, h1, h2, h3⟩ := h
    obtain ⟨u, g1, g2, g3⟩ := g
    rcases Nat.lt_trichotomy t u with c | rfl | c
    · have := g2 t c; omega
    · omega
    · have := h2 u c; omega
/-- The first bytes, and then those behind. -/
theorem eqH_add {T : List UInt8} {H G i k : Nat} : eqH T (H + G) i k ↔ eqH T H i k ∧ eqH T G (i + H) (k + H) := by
  constructor
  · intro h
    exact ⟨h.mono (by omega), fun t ht => by have := h (H + t) (by omega); rwa [Nat.add_assoc, Nat.add_assoc]⟩
  · rintro ⟨h, g⟩ t ht
    by_cases c : t < H
    · exact h t c
    · have := g (t - H) (by omega)
      rwa [Nat.add_assoc, Nat.add_assoc, show H + (t - H) = t by omega] at this
theorem ltH_add {T : List UInt8} {H G i k : Nat} : ltH T (H + G) i k ↔ ltH T H i k ∨ (eqH T H i k ∧ ltH T G (i + H) (k + H)) := by
  constructor
  · rintro ⟨t, h1, h2, h3⟩
    by_cases c : t < H
    · exact Or.inl ⟨t, c, h2, h3⟩
    · refine Or.inr ⟨h2.mono (by omega), t - H, by omega, fun u hu => ?_, ?_⟩
      · have := h2 (H + u) (by omega); rwa [Nat.add_assoc, Nat.add_assoc]
      · rwa [Nat.add_assoc, Nat.add_assoc, show H + (t - H) = t by omega]
  · rintro (h | ⟨h, t, g1, g2, g3⟩)
    · exact h.mono (by omega)
    · refine ⟨H + t, by omega, eqH_add.2 ⟨h, g2⟩, ?_⟩
      rwa [Nat.add_assoc, Nat.add_assoc] at g3
theorem eqH_mod (T : List UInt8) (H i k : Nat) : eqH T H (i % T.length) (k % T.length) ↔ eqH T H i k := by
  unfold eqH
  simp only [bt_add]
theorem ltH_mod (T : List UInt8) (H i k : Nat) : ltH T H (i % T.length) (k % T.length) ↔ ltH T H i k := by
  unfold ltH
  simp only [bt_add, eqH_mod]
theorem lle_get : ∀ (r s : List UInt8), r.length = s.length → ((∀ t, t < r.length → (r.getD t 0).toNat = (s.getD t 0).toNat) ↔ r = s) ∧ ((∃ t, t < r.length ∧ (∀ u, u < t → (r.getD u 0).toNat = (s.getD u 0).toNat) ∧ (r.getD t 0).toNat < (s.getD t 0).toNat) ↔ lle r s ∧ r ≠ s)
  | [], [], _ => ⟨⟨fun _ => rfl, fun _ t ht => by simp at ht⟩, ⟨fun ⟨t, ht, _⟩ => by simp at ht, fun h => absurd rfl h.2⟩⟩
  | [], _ :: _, h => by simp at h
  | _ :: _, [], h => by simp at h
  | a :: r, b :: s, h => by
    obtain ⟨i1, i2⟩ := lle_get r s (by simpa using h)
    have hab : a.toNat = b.toNat ↔ a = b := UInt8.toNat_inj
    constructor
    · constructor
      · intro g
        have g0 := g 0 (by simp)
        rw [(hab.1 (by simpa using g0)), i1.1 (fun t ht => by simpa using g (t + 1) (by simpa using ht))]
      · rintro ⟨rfl, rfl⟩ t _
        rfl
    · constructor
      · rintro ⟨t, ht, g1, g2⟩
        cases t with
        | zero =>
          simp at g2
          exact ⟨Or.inl g2, fun e => by injection e with e1 _; subst e1; omega⟩
        | succ t =>
          have g0 := hab.1 (by simpa using g1 0 (by omega))
          obtain ⟨j1, j2⟩ := i2.1 ⟨t, by simpa using ht, fun u hu => by simpa using g1 (u + 1) (by omega), by simpa using g2⟩
          exact ⟨Or.inr ⟨g0, j1⟩, fun e => by injection e with _ e2; exact j2 e2⟩
      · rintro ⟨g | ⟨rfl, g⟩, hne⟩
        · exact ⟨0, by simp, fun u hu => by omega, by simpa using g⟩
        · obtain ⟨t, ht, g1, g2⟩ := i2.2 ⟨g, fun e => hne (by rw [e])⟩
          refine ⟨t + 1, by simpa using ht, fun u hu => ?_, by simpa using g2⟩
          cases u with
          | zero => simp
          | succ u => simpa using g1 u (by omega)
theorem eqH_rot {T : List UInt8} {i k : Nat} (hi : i ≤ T.length) (hk : k ≤ T.length) : eqH T T.length i k ↔ rot T i = rot T k := by
  have := (lle_get (rot T i) (rot T k) (by rw [rot_len T i hi, rot_len T k hk])).1
  rw [← this, rot_len T i hi]
  unfold eqH
  constructor
  · intro h t ht; rw [rot_getD T hi ht, rot_getD T hk ht]; exact h t ht
  · intro h t ht; have := h t ht; rwa [rot_getD T hi ht, rot_getD T hk ht] at this
theorem ltH_rot {T : List UInt8} {i k : Nat} (hi : i ≤ T.length) (hk : k ≤ T.length) : ltH T T.length i k ↔ lle (rot T i) (rot T k) ∧ rot T i ≠ rot T k := by
  have := (lle_get (rot T i) (rot T k) (by rw [rot_len T i hi, rot_len T k hk])).2
  rw [← this, rot_len T i hi]
  unfold ltH eqH
  constructor
  · rintro ⟨t, h1, h2, h3⟩
    exact ⟨t, h1, fun u hu => by rw [rot_getD T hi (by omega), rot_getD T hk (by omega)]; exact h2 u hu, by rw [rot_getD T hi h1, rot_getD T hk h1]; exact h3⟩
  · rintro ⟨t, h1, h2, h3⟩
    exact ⟨t, h1, fun u hu => by have := h2 u hu; rwa [rot_getD T hi (by omega), rot_getD T hk (by omega)] at this, by rwa [rot_getD T hi h1, rot_getD T hk h1] at h3⟩
theorem ahead_iff {T : List UInt8} {i k : Nat} (hi : i ≤ T.length) (hk : k ≤ T.length) : Ahead T i k ↔ ltH T T.length i k ∨ (eqH T T.length i k ∧ i < k) := by
  unfold Ahead
  rw [ltH_rot hi hk, eqH_rot hi hk]
/-- Which of two rotations is less, as a number. -/
def IsCmp (T : List UInt8) (i k : Nat) (c : Int) : Prop := (c = -1 ∧ ltH T T.length i k) ∨ (c = 0 ∧ eqH T T.length i k) ∨ (c = 1 ∧ ltH T T.length k i)

/-! ### The first rotation -/
theorem least_is (T : List UInt8) : ∀ k, 0 < k → ∃ m, m < k ∧ ∀ j, j < k → j ≠ m → Ahead T m j
  | 0, h => by omega
  | 1, _ => ⟨0, by omega, fun j hj hne => by omega⟩
  | k + 2, _ => by
    obtain ⟨m, hm, h⟩ := least_is T (k + 1) (by omega)
    rcases ahead_total (T := T) (i := m) (k := k + 1) (by omega) with a | a
    · refine ⟨m, by omega, fun j hj hne => ?_⟩
      by_cases e : j = k + 1
      · subst e; exact a
      · exact h j (by omega) hne
    · refine ⟨k + 1, by omega, fun j hj hne => ?_⟩
      by_cases e : j = m
      · subst e; exact a
      · exact ahead_trans a (h j (by omega) e)
/-- Two places that vie: all ahead of k but a are beaten, and they begin with so many like bytes. -/
def Vie (T : List UInt8) (a k on : Nat) : Prop := a < k ∧ a < T.length ∧ (∀ j, j < k → j < T.length → j ≠ a → ∃ m, m < T.length ∧ Ahead T m j) ∧ eqH T on a k
theorem Vie.start (T : List UInt8) (h : 0 < T.length) : Vie T 0 1 0 := ⟨by omega, h, fun j h1 h2 h3 => by omega, fun t ht => by omega⟩
theorem Vie.beat {T : List UInt8} {a k on t : Nat} (h : eqH T on a k) (ho : on < T.length) (hlt : bt T (a + on) < bt T (k + on)) (ht : t ≤ on) : ltH T T.length (a + t) (k + t) :=
  ⟨on - t, by omega, fun u hu => by have := h (t + u) (by omega); rwa [Nat.add_assoc, Nat.add_assoc], by rwa [Nat.add_assoc, Nat.add_assoc, show t + (on - t) = on by omega]⟩
theorem Vie.same {T : List UInt8} {a k on : Nat} (h : Vie T a k on) (e : bt T (a + on) = bt T (k + on)) : Vie T a k (on + 1) := ⟨h.1, h.2.1, h.2.2.1, h.2.2.2.more e⟩
theorem Vie.less {T : List UInt8} {a k on : Nat} (h : Vie T a k on) (ho : on < T.length) (hk : k < T.length) (hlt : bt T (a + on) < bt T (k + on)) : Vie T a (k + on + 1) 0 := by
  obtain ⟨h1, h2, h3, h4⟩ := h
  refine ⟨by omega, h2, fun j hj hn hne => ?_, fun t ht => by omega⟩
  by_cases c : j < k
  · exact h3 j c hn hne
  · have hb := Vie.beat h4 ho hlt (t := j - k) (by omega)
    rw [show k + (j - k) = j by omega] at hb
    exact ⟨a + (j - k), by omega, (ahead_iff (by omega) (by omega)).2 (Or.inl hb)⟩
theorem Vie.greater {T : List UInt8} {a k on : Nat} (h : Vie T a k on) (ho : on < T.length) (hk : k < T.length) (hlt : bt T (k + on) < bt T (a + on)) : Vie T (max (a + on + 1) k) (max (a + on + 1) k + 1) 0 := by
  obtain ⟨h1, h2, h3, h4⟩ := h
  have hn : 0 < T.length := by omega
  have all : ∀ j, j < max (a + on + 1) k → j < T.length → ∃ m, m < T.length ∧ Ahead T m j := fun j hj hjn => by
    by_cases c : j < k ∧ j ≠ a
    · exact h3 j c.1 hjn c.2
    · have hja : a ≤ j ∧ j - a ≤ on := by omega
      have hb := Vie.beat h4.symm ho hlt (t := j - a) hja.2
      rw [show a + (j - a) = j by omega] at hb
      have hm := Nat.mod_lt (k + (j - a)) hn
      refine ⟨(k + (j - a)) % T.length, hm, (ahead_iff (by omega) (by omega)).2 (Or.inl ?_)⟩
      have := (ltH_mod T T.length (k + (j - a)) j).2 hb
      rwa [Nat.mod_eq_of_lt hjn] at this
  refine ⟨by omega, ?_, fun j hj hjn hne => all j (by omega) hjn, fun t ht => by omega⟩
  by_cases c : max (a + on + 1) k < T.length
  · exact c
  · exfalso
    obtain ⟨m, hm, hl⟩ := least_is T T.length hn
    obtain ⟨m2, hm2, hb⟩ := all m (by omega) hm
    by_cases e : m2 = m
    · subst e; exact ahead_asym hb hb
    · exact ahead_asym hb (hl m2 hm2 e)
/-- a is the place of the rotation that is ahead of all others. -/
def IsLeast (T : List UInt8) (a : Nat) : Prop := a < T.length ∧ ∀ j, j < T.length → ¬ Ahead T j a
theorem IsLeast.one {T : List UInt8} {a b : Nat} (h : IsLeast T a) (g : IsLeast T b) : a = b := by
  by_cases e : a = b
  · exact e
  · rcases ahead_total (T := T) e with c | c
    · exact absurd c (g.2 a h.1)
    · exact absurd c (h.2 b g.1)
theorem Vie.done {T : List UInt8} {a k on : Nat} (h : Vie T a k on) (hd : T.length ≤ k ∨ T.length ≤ on) : IsLeast T a := by
  obtain ⟨h1, h2, h3, h4⟩ := h
  obtain ⟨m, hm, hl⟩ := least_is T T.length (by omega)
  have hlm : IsLeast T m := ⟨hm, fun j hj hb => by
    by_cases e : j = m
    · subst e; exact ahead_asym hb hb
    · exact ahead_asym hb (hl j hj e)⟩
  have e : m = a := by
    by_cases e : m = a
    · exact e
    · exfalso
      by_cases c : m < k
      · obtain ⟨m2, hm2, hb⟩ := h3 m c hm e
        exact hlm.2 m2 hm2 hb
      · have hon : T.length ≤ on := by omega
        have hb : Ahead T (m - (k - a)) m := by
          refine (ahead_iff (by omega) (by omega)).2 (Or.inr ⟨?_, by omega⟩)
          intro t ht
          have := eqH_all (h4.mono hon) (m - k + t)
          rw [show m - (k - a) + t = a + (m - k + t) by omega, this]
          congr 1
          omega
        exact hlm.2 _ (by omega) hb
  subst e
  exact hlm
end BwtM
end Go.Proofs.Ytfedhppcmmponaa
