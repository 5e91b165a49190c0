/-
  PLAIN MATHEMATICS OF LAYER 15 (rotate): that places are the sorted ones is seen by looking at each two that stand side by side. No program is named here.
-/
import Derived.Test.YtfedhppcmmponaaRotMath
namespace Go.Proofs.Ytfedhppcmmponaa
namespace BwtM
open Go.RowKit
set_option linter.unusedVariables false

/-- f tells the place at a rank, R the rank of a place. -/
structure Ranks (n : Nat) (f R : Nat → Nat) : Prop where
  lt : ∀ j, j < n → f j < n
  left : ∀ j, j < n → R (f j) = j
  rlt : ∀ i, i < n → R i < n
  right : ∀ i, i < n → f (R i) = i
/-- The places stand in rows of such as are the same. -/
def Blk (p c : Nat) (f : Nat → Nat) : Prop := ∀ r m, r < p → m < c → f (r * c + m) = f (r * c) + m * p ∧ f (r * c) < p
theorem in_rows {p c r m : Nat} (hr : r < p) (hm : m < c) : r * c + m < p * c := by
  have h := Nat.mul_le_mul_right c (show r + 1 ≤ p from hr)
  rw [Nat.add_mul, Nat.one_mul] at h
  omega
theorem Blk.res {n p c : Nat} {f R : Nat → Nat} (hb : Blk p c f) (hR : Ranks n f R) (hc : n = p * c) (h0 : 0 < c) {i : Nat} (hi : i < n) : i % p = f (R i / c * c) ∧ i = f (R i / c * c) + R i % c * p := by
  have h1 := hR.rlt i hi
  have hr : R i / c < p := by rw [Nat.div_lt_iff_lt_mul h0, ← hc]; exact h1
  have h2 := hb (R i / c) (R i % c) hr (Nat.mod_lt _ h0)
  have e : R i / c * c + R i % c = R i := by rw [Nat.mul_comm]; exact Nat.div_add_mod (R i) c
  rw [e, hR.right i hi] at h2
  refine ⟨?_, h2.1⟩
  have e3 := h2.1
  generalize f (R i / c * c) = q at *
  rw [e3, Nat.add_mul_mod_self_right, Nat.mod_eq_of_lt h2.2]
theorem Blk.row {n p c : Nat} {f R : Nat → Nat} (hb : Blk p c f) (hR : Ranks n f R) (hc : n = p * c) (h0 : 0 < c) {i k : Nat} (hi : i < n) (hk : k < n) : R i / c = R k / c ↔ i % p = k % p := by
  have h1 := hb.res hR hc h0 hi
  have h2 := hb.res hR hc h0 hk
  constructor
  · intro e; rw [h1.1, h2.1, e]
  · intro e
    rw [h1.1, h2.1] at e
    have hlt : ∀ j, j < n → R j / c * c < n := fun j hj => by
      have := Nat.div_mul_le_self (R j) c
      have := hR.rlt j hj
      omega
    have h3 := congrArg R e
    rw [hR.left _ (hlt i hi), hR.left _ (hlt k hk)] at h3
    exact Nat.mul_right_cancel h0 h3
theorem bt_period {T : List UInt8} {p : Nat} (hn : 0 < T.length) (hp : IsPeriod T p) (i : Nat) : bt T (i + p) = bt T i := by
  have hpl := Nat.le_of_dvd hn hp.2.1
  have hm := Nat.mod_lt i hn
  have h := rot_getD T (i := p) (j := i % T.length) hpl hm
  rw [hp.2.2.1] at h
  rw [← bt_add T i p, Nat.add_comm, ← h, ← bt_in T hm, bt_mod]
theorem bt_same {T : List UInt8} {p : Nat} (hn : 0 < T.length) (hp : IsPeriod T p) {i k : Nat} (h : i % p = k % p) : bt T i = bt T k := by
  have h1 : ∀ m i, bt T (i + m * p) = bt T i := fun m => by
    induction m with
    | zero => intro i; simp
    | succ m ih => intro i; rw [Nat.add_mul, Nat.one_mul, ← Nat.add_assoc, bt_period hn hp, ih]
  have h2 : ∀ i, bt T i = bt T (i % p) := fun i => by
    conv => lhs; rw [← Nat.mod_add_div i p, Nat.mul_comm]
    exact h1 _ _
  rw [h2 i, h2 k, h]
theorem eqH_same {T : List UInt8} {p : Nat} (hn : 0 < T.length) (hp : IsPeriod T p) {i k : Nat} (h : i % p = k % p) (H : Nat) : eqH T H i k := fun t _ => bt_same hn hp (by
  rw [Nat.add_mod, h, ← Nat.add_mod])
theorem same_iff {T : List UInt8} {p : Nat} (hp : IsPeriod T p) {i k : Nat} (hi : i < T.length) (hk : k < T.length) : eqH T T.length i k ↔ i % p = k % p := by
  rw [eqH_rot (by omega) (by omega), alike hp hi hk, ← Int.emod_eq_emod_iff_emod_sub_eq_zero, ← Int.natCast_emod, ← Int.natCast_emod]
  exact Int.ofNat_inj
/-- k may stand just behind i. -/
def Follow (T : List UInt8) (R : Nat → Nat) (p c i k : Nat) : Prop :=
  (R i / c = R k / c → k = i + p) ∧ (R i / c ≠ R k / c → bt T i ≠ bt T k → bt T i < bt T k) ∧ (R i / c ≠ R k / c → bt T i = bt T k → R ((i + 1) % T.length) / c < R ((k + 1) % T.length) / c)
theorem blk_follow {T : List UInt8} {p c : Nat} {f R : Nat → Nat} (hc : T.length = p * c) (h0 : 0 < c) (hR : Ranks T.length f R) (h : ∀ j, j + 1 < T.length → Follow T R p c (f j) (f (j + 1))) : Blk p c f := by
  intro r
  have step : ∀ m, r < p → m < c → f (r * c + m) = f (r * c) + m * p := fun m => by
    induction m with
    | zero => intro _ _; simp
    | succ m ih =>
      intro hr hm
      have h1 := in_rows hr hm
      have h2 := (h (r * c + m) (by rw [hc]; omega)).1
      rw [hR.left _ (by rw [hc]; omega), hR.left _ (by rw [hc]; omega)] at h2
      have hd : ∀ x, x < c → (r * c + x) / c = r := fun x hx => by rw [Nat.mul_comm, Nat.mul_add_div h0, Nat.div_eq_of_lt hx]; rfl
      rw [show r * c + (m + 1) = r * c + m + 1 from rfl, h2 (by rw [hd m (by omega), show r * c + m + 1 = r * c + (m + 1) from rfl, hd (m + 1) hm]), ih hr (by omega), Nat.add_mul, Nat.one_mul, Nat.add_assoc]
  intro m hr hm
  refine ⟨step m hr hm, ?_⟩
  have h1 := step (c - 1) hr (by omega)
  have h2 := hR.lt (r * c + (c - 1)) (by rw [hc]; exact in_rows hr (by omega))
  rw [h1, hc] at h2
  have h3 : p * c = (c - 1) * p + p := by
    conv => lhs; rw [Nat.mul_comm, show c = c - 1 + 1 by omega, Nat.add_mul, Nat.one_mul]
  omega
theorem sorted_follow {T : List UInt8} {p c : Nat} {f R : Nat → Nat} (hp : IsPeriod T p) (hc : T.length = p * c) (h0 : 0 < c) (hR : Ranks T.length f R) (h : ∀ j, j + 1 < T.length → Follow T R p c (f j) (f (j + 1))) :
    ∀ j k, j < k → k < T.length → Ahead T (f j) (f k) := by
  have hb := blk_follow hc h0 hR h
  have bytes : ∀ d j, j + d < T.length → bt T (f j) ≤ bt T (f (j + d)) := fun d => by
    induction d with
    | zero => intro j _; exact Nat.le_refl _
    | succ d ih =>
      intro j hj
      refine Nat.le_trans (ih j (by omega)) ?_
      have hf := h (j + d) (by omega)
      have hn : 0 < T.length := by omega
      by_cases e : R (f (j + d)) / c = R (f (j + d + 1)) / c
      · rw [show j + (d + 1) = j + d + 1 from rfl, hf.1 e, bt_period hn hp]
        exact Nat.le_refl _
      · by_cases g : bt T (f (j + d)) = bt T (f (j + d + 1))
        · exact Nat.le_of_eq g
        · exact Nat.le_of_lt (hf.2.1 e g)
  have rows : ∀ d j, j + d < T.length → bt T (f j) = bt T (f (j + d)) → R ((f j + 1) % T.length) / c ≤ R ((f (j + d) + 1) % T.length) / c := fun d => by
    induction d with
    | zero => intro j _ _; exact Nat.le_refl _
    | succ d ih =>
      intro j hj hbt
      have hn : 0 < T.length := by omega
      have b1 := bytes d j (by omega)
      have b2 := bytes 1 (j + d) (by omega)
      rw [show j + (d + 1) = j + d + 1 from rfl] at hbt ⊢
      refine Nat.le_trans (ih j (by omega) (by omega)) ?_
      have hf := h (j + d) (by omega)
      by_cases e : R (f (j + d)) / c = R (f (j + d + 1)) / c
      · refine Nat.le_of_eq ((hb.row hR hc h0 (Nat.mod_lt _ hn) (Nat.mod_lt _ hn)).2 ?_)
        rw [Nat.mod_mod_of_dvd _ hp.2.1, Nat.mod_mod_of_dvd _ hp.2.1, hf.1 e, show f (j + d) + p + 1 = f (j + d) + 1 + p by omega, Nat.add_mod_right]
      · exact Nat.le_of_lt (hf.2.2 e (by omega))
  have mono : ∀ t j k, j < k → k < T.length → ¬ ltH T t (f k) (f j) := fun t => by
    induction t with
    | zero => rintro j k _ _ ⟨t, ht, _⟩; omega
    | succ t ih =>
      intro j k hjk hk hl
      have hn : 0 < T.length := by omega
      obtain ⟨d, rfl⟩ := Nat.exists_eq_add_of_le (Nat.le_of_lt hjk)
      have hbt := bytes d j hk
      rw [Nat.add_comm, ltH_add] at hl
      rcases hl with ⟨u, h1, _, h3⟩ | ⟨he, hl⟩
      · obtain rfl : u = 0 := by omega
        rw [Nat.add_zero, Nat.add_zero] at h3
        omega
      · have he0 := he 0 (by omega)
        rw [Nat.add_zero, Nat.add_zero] at he0
        have hr := rows d j hk he0.symm
        have h1 := Nat.mod_lt (f j + 1) hn
        have h2 := Nat.mod_lt (f (j + d) + 1) hn
        have hl2 := (ltH_mod T t _ _).2 hl
        by_cases e : R ((f j + 1) % T.length) / c = R ((f (j + d) + 1) % T.length) / c
        · exact hl2.noteq (eqH_same hn hp ((hb.row hR hc h0 h1 h2).1 e).symm t)
        · have hlt : R ((f j + 1) % T.length) < R ((f (j + d) + 1) % T.length) := by
            by_cases g : R ((f j + 1) % T.length) < R ((f (j + d) + 1) % T.length)
            · exact g
            · exact absurd (Nat.le_antisymm hr (Nat.div_le_div_right (Nat.le_of_not_lt g))) e
          have := ih _ _ hlt (hR.rlt _ h2)
          rw [hR.right _ h1, hR.right _ h2] at this
          exact this hl2
  intro j k hjk hk
  have hj : j < T.length := by omega
  refine (ahead_iff (Nat.le_of_lt (hR.lt j hj)) (Nat.le_of_lt (hR.lt k hk))).2 ?_
  rcases ltH_total T (f j) (f k) T.length with c1 | c1 | c1
  · exact Or.inl c1
  · refine Or.inr ⟨c1, ?_⟩
    have hres := (same_iff hp (hR.lt j hj) (hR.lt k hk)).1 c1
    have hrow := (hb.row hR hc h0 (hR.lt j hj) (hR.lt k hk)).2 hres
    have e1 := (hb.res hR hc h0 (hR.lt j hj)).2
    have e2 := (hb.res hR hc h0 (hR.lt k hk)).2
    rw [hR.left j hj] at hrow e1
    rw [hR.left k hk] at hrow e2
    rw [e1, e2, hrow]
    have hm : j % c < k % c := by
      have d1 := Nat.div_add_mod j c
      have d2 := Nat.div_add_mod k c
      rw [hrow] at d1
      omega
    have := Nat.mul_lt_mul_of_pos_right hm hp.1
    omega
  · exact absurd c1 (mono _ j k hjk hk)
theorem ranks_le {n : Nat} {T : List UInt8} {f R : Nat → Nat} (hn : n = T.length) (hR : Ranks n f R) (h : ∀ j k, j < k → k < n → Ahead T (f j) (f k)) {i k : Nat} (hi : i < n) (hk : k < n) (ha : Ahead T i k) : R i < R k := by
  rcases Nat.lt_trichotomy (R i) (R k) with c | c | c
  · exact c
  · have e : i = k := by rw [← hR.right i hi, ← hR.right k hk, c]
    rw [e] at ha
    exact absurd ha (ahead_asym ha)
  · have := h _ _ c (hR.rlt i hi)
    rw [hR.right i hi, hR.right k hk] at this
    exact absurd ha (ahead_asym this)
theorem blk_sorted {T : List UInt8} {p c : Nat} {f R : Nat → Nat} (hn : 0 < T.length) (hp : IsPeriod T p) (hc : T.length = p * c) (h0 : 0 < c) (hR : Ranks T.length f R) (h : ∀ j k, j < k → k < T.length → Ahead T (f j) (f k)) : Blk p c f := by
  have next : ∀ j, j < T.length → f j + p < T.length → j + 1 < T.length ∧ f (j + 1) = f j + p := fun j hj hp2 => by
    have hfj := hR.lt j hj
    have a1 : Ahead T (f j) (f j + p) := (ahead_iff (by omega) (by omega)).2 (Or.inr ⟨eqH_same hn hp (by rw [Nat.add_mod_right]) _, by have := hp.1; omega⟩)
    have hlt := ranks_le rfl hR h hfj hp2 a1
    rw [hR.left j hj] at hlt
    have hm := hR.rlt _ hp2
    refine ⟨by omega, ?_⟩
    by_cases e : R (f j + p) = j + 1
    · rw [← e, hR.right _ hp2]
    · exfalso
      have hx := hR.lt (j + 1) (by omega)
      have a2 := h j (j + 1) (by omega) (by omega)
      have a3 := h (j + 1) (R (f j + p)) (by omega) hm
      rw [hR.right _ hp2] at a3
      have e1 := (ahead_iff (Nat.le_of_lt hfj) (Nat.le_of_lt hx)).1 a2
      have e2 := (ahead_iff (Nat.le_of_lt hx) (Nat.le_of_lt hp2)).1 a3
      have eq0 : eqH T T.length (f j) (f j + p) := eqH_same hn hp (by rw [Nat.add_mod_right]) _
      rcases e1 with e1 | ⟨e1, l1⟩
      · rcases e2 with e2 | ⟨e2, l2⟩
        · exact (e1.trans e2).noteq eq0
        · exact (e1.eq_right e2).noteq eq0
      · rcases e2 with e2 | ⟨e2, l2⟩
        · exact (ltH.eq_left e1 e2).noteq eq0
        · have hres := (same_iff hp hfj hx).1 e1
          obtain ⟨d, hd⟩ := Nat.exists_eq_add_of_le (Nat.le_of_lt l1)
          rw [hd, Nat.add_comm] at hres
          have h5 := hres
          have hdl : d < p := by omega
          have hd0 : 0 < d := by omega
          have : (p : Nat) ∣ d := by
            have := Nat.sub_mod_eq_zero_of_mod_eq (m := d + f j) (n := f j) (k := p) h5.symm
            rw [Nat.add_sub_cancel] at this
            exact Nat.dvd_of_mod_eq_zero this
          exact absurd (Nat.le_of_dvd hd0 this) (by omega)
  have prev : ∀ j, j < T.length → p ≤ f j → ∃ m, j = m + 1 ∧ f j = f m + p := fun j hj hpj => by
    have hfj := hR.lt j hj
    have h1 := next (R (f j - p)) (hR.rlt _ (by omega)) (by rw [hR.right _ (by omega)]; omega)
    refine ⟨R (f j - p), ?_, by rw [hR.right _ (by omega)]; omega⟩
    have h2 := congrArg R h1.2
    rw [hR.left _ h1.1, hR.right _ (by omega), show f j - p + p = f j by omega, hR.left j hj] at h2
    omega
  have lastp : ∀ q m, q < p → m < c → q + m * p < T.length := fun q m hq hm => by
    rw [hc]
    have := in_rows (p := c) (c := p) hm hq
    rw [Nat.mul_comm p c]
    omega
  have fill : ∀ j, j < T.length → f j < p → ∀ m, m < c → j + m < T.length ∧ f (j + m) = f j + m * p := fun j hj hfj m => by
    induction m with
    | zero => intro _; simp; exact hj
    | succ m ih =>
      intro hm
      have h1 := ih (by omega)
      have h2 := lastp (f j) (m + 1) hfj hm
      rw [Nat.add_mul, Nat.one_mul] at h2
      have h3 := next (j + m) h1.1 (by rw [h1.2]; omega)
      refine ⟨h3.1, ?_⟩
      rw [show j + (m + 1) = j + m + 1 from rfl, h3.2, h1.2, Nat.add_mul, Nat.one_mul]
      omega
  have start : ∀ r, r < p → r * c < T.length ∧ f (r * c) < p := fun r => by
    induction r with
    | zero =>
      intro _
      refine ⟨by omega, ?_⟩
      rw [Nat.zero_mul]
      by_cases g : f 0 < p
      · exact g
      · obtain ⟨m, hm, _⟩ := prev 0 hn (by omega)
        omega
    | succ r ih =>
      intro hr
      obtain ⟨h1, h2⟩ := ih (by omega)
      have hin : (r + 1) * c < T.length := by rw [hc]; have := in_rows (p := p) (c := c) hr h0; omega
      refine ⟨hin, ?_⟩
      by_cases g : f ((r + 1) * c) < p
      · exact g
      · exfalso
        obtain ⟨m, hm, hfm⟩ := prev _ hin (by omega)
        have h3 := fill (r * c) h1 h2 (c - 1) (by omega)
        rw [Nat.add_mul, Nat.one_mul] at hm
        have em : m = r * c + (c - 1) := by omega
        have hlt := hR.lt _ hin
        rw [hfm, em, h3.2] at hlt
        have h4 : T.length = (c - 1) * p + p := by
          rw [hc]
          conv => lhs; rw [Nat.mul_comm, show c = c - 1 + 1 by omega, Nat.add_mul, Nat.one_mul]
        omega
  intro r m hr hm
  obtain ⟨h1, h2⟩ := start r hr
  exact ⟨(fill _ h1 h2 m hm).2, h2⟩
theorem follow_sorted {T : List UInt8} {p c : Nat} {f R : Nat → Nat} (hn : 0 < T.length) (hp : IsPeriod T p) (hc : T.length = p * c) (h0 : 0 < c) (hR : Ranks T.length f R) (h : ∀ j k, j < k → k < T.length → Ahead T (f j) (f k)) :
    ∀ j, j + 1 < T.length → Follow T R p c (f j) (f (j + 1)) := by
  have hb := blk_sorted hn hp hc h0 hR h
  intro j hj
  have h1 := hR.lt j (by omega)
  have h2 := hR.lt (j + 1) hj
  have ha := h j (j + 1) (by omega) hj
  have hrow := hb.row hR hc h0 h1 h2
  have hlt : ¬ R (f j) / c = R (f (j + 1)) / c → ltH T T.length (f j) (f (j + 1)) := fun e => by
    rcases (ahead_iff (Nat.le_of_lt h1) (Nat.le_of_lt h2)).1 ha with g | g
    · exact g
    · exact absurd (hrow.2 ((same_iff hp h1 h2).1 g.1)) e
  refine ⟨fun e => ?_, fun e g => ?_, fun e g => ?_⟩
  · have e1 := (hb.res hR hc h0 h1).2
    have e2 := (hb.res hR hc h0 h2).2
    rw [hR.left j (by omega)] at e e1
    rw [hR.left (j + 1) hj] at e e2
    have d1 := Nat.div_add_mod j c
    have d2 := Nat.div_add_mod (j + 1) c
    rw [← e] at d2 e2
    have hm : (j + 1) % c = j % c + 1 := by omega
    rw [hm, Nat.add_mul, Nat.one_mul] at e2
    omega
  · obtain ⟨t, t1, t2, t3⟩ := hlt e
    cases t with
    | zero => rwa [Nat.add_zero, Nat.add_zero] at t3
    | succ t => exact absurd (by have := t2 0 (by omega); rwa [Nat.add_zero, Nat.add_zero] at this) g
  · have hl := hlt e
    have hl1 : ltH T T.length (f j + 1) (f (j + 1) + 1) := by
      rw [show T.length = 1 + (T.length - 1) by omega, ltH_add] at hl
      rcases hl with ⟨u, u1, _, u3⟩ | ⟨_, hl⟩
      · obtain rfl : u = 0 := by omega
        rw [Nat.add_zero, Nat.add_zero] at u3
        omega
      · exact hl.mono (by omega)
    have m1 := Nat.mod_lt (f j + 1) hn
    have m2 := Nat.mod_lt (f (j + 1) + 1) hn
    have hl2 := (ltH_mod T T.length _ _).2 hl1
    have hr := ranks_le rfl hR h m1 m2 ((ahead_iff (Nat.le_of_lt m1) (Nat.le_of_lt m2)).2 (Or.inl hl2))
    by_cases g2 : R ((f j + 1) % T.length) / c < R ((f (j + 1) + 1) % T.length) / c
    · exact g2
    · exfalso
      have e3 := Nat.le_antisymm (Nat.div_le_div_right (c := c) (Nat.le_of_lt hr)) (Nat.le_of_not_lt g2)
      exact hl2.noteq (eqH_same hn hp ((hb.row hR hc h0 m1 m2).1 e3) _)
/-! ### Places, each once -/
theorem few_below : ∀ (n : Nat) (l : List Nat), l.Nodup → (∀ x ∈ l, x < n) → l.length ≤ n
  | 0, l, _, h => by
    cases l with
    | nil => exact Nat.le_refl _
    | cons a t => exact absurd (h a (List.mem_cons_self ..)) (by omega)
  | n + 1, l, hd, h => by
    by_cases hn : n ∈ l
    · have h1 := few_below n (l.erase n) (hd.erase n) (fun x hx => by
        have := (hd.mem_erase_iff).1 hx
        have := h x this.2
        omega)
      rw [List.length_erase_of_mem hn] at h1
      omega
    · have h1 := few_below n l hd (fun x hx => by
        have := h x hx
        have : x ≠ n := fun e => hn (e ▸ hx)
        omega)
      omega
theorem perm_range : ∀ (n : Nat) (l : List Nat), l.Nodup → (∀ x ∈ l, x < n) → l.length = n → l.Perm (List.range n)
  | 0, l, _, _, hl => by rw [List.eq_nil_of_length_eq_zero hl]; exact List.Perm.refl _
  | n + 1, l, hd, h, hl => by
    have hn : n ∈ l := by
      by_cases hn : n ∈ l
      · exact hn
      · exfalso
        have := few_below n l hd (fun x hx => by
          have := h x hx
          have : x ≠ n := fun e => hn (e ▸ hx)
          omega)
        omega
    have h1 := perm_range n (l.erase n) (hd.erase n) (fun x hx => by
      have := (hd.mem_erase_iff).1 hx
      have := h x this.2
      omega) (by rw [List.length_erase_of_mem hn]; omega)
    rw [List.range_succ]
    exact ((List.perm_cons_erase hn).trans (h1.cons n)).trans (List.perm_append_comm (l₁ := [n]) (l₂ := List.range n))
theorem perm_len {n : Nat} {P : List Nat} (h : P.Perm (List.range n)) : P.length = n := by rw [h.length_eq, List.length_range]
theorem perm_getD {n : Nat} {P : List Nat} (h : P.Perm (List.range n)) {j : Nat} (hj : j < n) : P.getD j 0 < n := by
  have hl := perm_len h
  have : P.getD j 0 ∈ P := by rw [List.getD_eq_getElem?_getD, List.getElem?_eq_getElem (by omega)]; exact List.getElem_mem _
  exact List.mem_range.1 (h.mem_iff.1 this)
theorem ranks_of {n : Nat} {P : List Nat} {R : Nat → Nat} (hP : P.Perm (List.range n)) (hR : ∀ j, j < n → R (P.getD j 0) = j) : Ranks n (fun j => P.getD j 0) R := by
  have hl := perm_len hP
  have key : ∀ i, i < n → ∃ j, j < n ∧ P.getD j 0 = i := fun i hi => by
    obtain ⟨j, hj, e⟩ := List.getElem_of_mem (hP.mem_iff.2 (List.mem_range.2 hi))
    exact ⟨j, by omega, by rw [List.getD_eq_getElem?_getD, List.getElem?_eq_getElem hj]; exact e⟩
  refine ⟨fun j hj => perm_getD hP hj, hR, fun i hi => ?_, fun i hi => ?_⟩
  · obtain ⟨j, hj, e⟩ := key i hi
    have := hR j hj
    rw [e] at this
    omega
  · obtain ⟨j, hj, e⟩ := key i hi
    have := hR j hj
    rw [e] at this
    show P.getD (R i) 0 = i
    rw [this, e]
theorem sorted_getD {T : List UInt8} {P : List Nat} (hP : P.Perm (List.range T.length)) : IsSorted T P ↔ ∀ j k, j < k → k < T.length → Ahead T (P.getD j 0) (P.getD k 0) := by
  have hl := perm_len hP
  unfold IsSorted
  rw [List.pairwise_iff_getElem]
  have hg : ∀ j (h : j < P.length), P.getD j 0 = P[j] := fun j h => by rw [List.getD_eq_getElem?_getD, List.getElem?_eq_getElem h]; rfl
  constructor
  · rintro ⟨_, h⟩ j k hjk hk
    rw [hg j (by omega), hg k (by omega)]
    exact h j k (by omega) (by omega) hjk
  · intro h
    refine ⟨hP, fun j k hj hk hjk => ?_⟩
    rw [← hg j hj, ← hg k hk]
    exact h j k hjk (by omega)

/-! ### The period, as the program looks for it -/
theorem shift_rot {T : List UInt8} {p : Nat} (h0 : 0 < p) (hd : p ∣ T.length) (hp : p ≤ T.length) : T.drop p = T.take (T.length - p) ↔ rot T p = T := by
  constructor
  · intro h
    have sh : ∀ i, i + p < T.length → T.getD (i + p) 0 = T.getD i 0 := fun i hi => by
      have := congrArg (fun l => l.getD i 0) h
      simp only [List.getD_eq_getElem?_getD, List.getElem?_drop] at this
      rw [List.getElem?_take_of_lt (by omega)] at this
      rw [List.getD_eq_getElem?_getD, List.getD_eq_getElem?_getD, Nat.add_comm]
      exact this
    have md : ∀ m i, i < p → i + m * p < T.length → T.getD (i + m * p) 0 = T.getD i 0 := fun m => by
      induction m with
      | zero => intro i _ _; simp
      | succ m ih =>
        intro i hi hm
        rw [Nat.add_mul, Nat.one_mul] at hm ⊢
        rw [← Nat.add_assoc, sh _ (by omega), ih i hi (by omega)]
    have md2 : ∀ i, i < T.length → T.getD i 0 = T.getD (i % p) 0 := fun i hi => by
      have e := Nat.mod_add_div i p
      rw [Nat.mul_comm] at e
      have := md (i / p) (i % p) (Nat.mod_lt _ h0) (by omega)
      rw [e] at this
      exact this
    have hl := rot_len T p hp
    apply List.ext_getElem hl
    intro i h1 h2
    have e := rot_getD T (i := p) hp h2
    rw [UInt8.toNat_inj.symm]
    have g1 : ((rot T p).getD i 0) = (rot T p)[i] := by rw [List.getD_eq_getElem?_getD, List.getElem?_eq_getElem h1]; rfl
    have g2 : T.getD i 0 = T[i] := by rw [List.getD_eq_getElem?_getD, List.getElem?_eq_getElem h2]; rfl
    rw [← g1, ← g2, e]
    by_cases c : p + i < T.length
    · rw [bt_in T c, Nat.add_comm, sh i (by omega)]
    · rw [bt_on T (by omega) (by omega), md2 _ (by omega), md2 i h2]
      congr 2
      obtain ⟨q, hq⟩ := hd
      obtain ⟨x, hx⟩ : ∃ x, x = p + i - T.length := ⟨_, rfl⟩
      rw [← hx]
      have h5 : p + i = x + p * q := by omega
      have h6 := congrArg (· % p) h5
      simp only [Nat.add_mod_left, Nat.add_mul_mod_self_left] at h6
      exact h6.symm
  · intro h
    have := congrArg (List.take (T.length - p)) h
    unfold rot at this
    rw [List.take_append_of_le_length (by rw [List.length_drop]; exact Nat.le_refl _), List.take_of_length_le (by rw [List.length_drop]; exact Nat.le_refl _)] at this
    exact this
theorem period_one {T : List UInt8} {p q : Nat} (h : IsPeriod T p) (g : IsPeriod T q) : p = q := Nat.le_antisymm (h.2.2.2 q g.1 g.2.1 g.2.2.1) (g.2.2.2 p h.1 h.2.1 h.2.2.1)
theorem period_at {T : List UInt8} {p : Nat} (h0 : 0 < p) (hd : p ∣ T.length) (hr : rot T p = T) (hno : ∀ q, 0 < q → q < p → ¬ (q ∣ T.length ∧ rot T q = T)) : IsPeriod T p := ⟨h0, hd, hr, fun q h1 h2 h3 => by
  by_cases c : p ≤ q
  · exact c
  · exact absurd ⟨h2, h3⟩ (hno q h1 (by omega))⟩
theorem period_all {T : List UInt8} (hn : 0 < T.length) (hno : ∀ q, 0 < q → q < T.length → ¬ (q ∣ T.length ∧ rot T q = T)) : IsPeriod T T.length := period_at hn (Nat.dvd_refl _) (rot_all T) hno
theorem dvd_half {q n : Nat} (h : q ∣ n) (hq : q < n) : q ≤ n / 2 := by
  obtain ⟨m, rfl⟩ := h
  have hm : 2 ≤ m := by
    rcases m with _ | _ | m
    · simp at hq
    · simp at hq
    · omega
  have := Nat.mul_le_mul_left q hm
  omega
end BwtM
end Go.Proofs.Ytfedhppcmmponaa
