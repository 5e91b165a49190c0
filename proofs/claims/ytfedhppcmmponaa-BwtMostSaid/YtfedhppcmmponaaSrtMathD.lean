/-
  PLAIN MATHEMATICS OF LAYER 16 (sorter): what each step makes of what a sorter holds. No program is named here.
-/
import Derived.Test.YtfedhppcmmponaaSrtMathC
namespace Go.Proofs.Ytfedhppcmmponaa
namespace SrtM
open Go.RowKit BwtM
set_option linter.unusedVariables false

theorem getD_take {X : List Nat} {m j : Nat} (h : j < m) : (X.take m).getD j 0 = X.getD j 0 := by
  rw [List.getD_eq_getElem?_getD, List.getElem?_take_of_lt h, List.getD_eq_getElem?_getD]
theorem getD_drop (X : List Nat) (m j : Nat) : (X.drop m).getD j 0 = X.getD (m + j) 0 := by
  rw [List.getD_eq_getElem?_getD, List.getElem?_drop, List.getD_eq_getElem?_getD]
theorem getD_app_right {X Y : List Nat} {j : Nat} (h : X.length ≤ j) : (X ++ Y).getD j 0 = Y.getD (j - X.length) 0 := by
  rw [List.getD_eq_getElem?_getD, List.getElem?_append_right h, List.getD_eq_getElem?_getD]
section
variable {T : List UInt8} {K : Nat → Nat} {S S' : SS} {ps : List Part} {p : Part} {A : List Nat} {m R : Nat}
theorem Srt.fit (h : Srt T K S ps p A m R) : p.lo ≤ p.mid ∧ p.mid ≤ p.hi ∧ p.hi ≤ T.length ∧ p.mid = p.lo + (p.hi - p.lo) / 2 ∧ A.length = T.length := by
  have hf := h.fits p (by simp)
  have hm : p.mid = p.lo + (p.hi - p.lo) / 2 := mid_half p.lo p.hi p.begun hf.1
  have := hf.1
  have := hf.2.1
  exact ⟨by omega, by omega, hf.2.1, hm, perm_len h.perm⟩
theorem Srt.segX_len (h : Srt T K S ps p A m R) : (segX A p).length = p.mid - p.lo := by
  have := h.fit
  unfold segX
  rw [List.length_take, List.length_drop]
  omega
theorem Srt.segY_len (h : Srt T K S ps p A m R) : (segY A p).length = p.hi - p.mid := by
  have := h.fit
  unfold segY
  rw [List.length_take, List.length_drop]
  omega
theorem Srt.segX_get (h : Srt T K S ps p A m R) {i : Nat} (hi : i < p.mid - p.lo) : (segX A p).getD i 0 = A.getD (p.lo + i) 0 := by
  unfold segX
  rw [getD_take hi, getD_drop]
theorem Srt.segY_get (h : Srt T K S ps p A m R) {i : Nat} (hi : i < p.hi - p.mid) : (segY A p).getD i 0 = A.getD (p.mid + i) 0 := by
  unfold segY
  rw [getD_take hi, getD_drop]
theorem Srt.lt (h : Srt T K S ps p A m R) {i : Nat} (hi : i < T.length) : A.getD i 0 < T.length := perm_getD h.perm hi
/-- What is told of a part that was begun. -/
theorem Srt.on (h : Srt T K S ps p A m R) (hb : p.begun = true) : MrgAt K (segX A p) (segY A p) S.first S.second ∧ S.laid ≤ p.mid - p.lo ∧ (0 < S.first + S.second → S.laid = p.mid - p.lo) ∧
    S.ord = A.take p.lo ++ (mrg K (segX A p) (segY A p)).take (S.first + S.second) ++ A.drop (p.lo + (S.first + S.second)) ∧ ∀ i, i < S.laid → S.asd.getD i 0 = A.getD (p.lo + i) 0 := by
  rcases h.top with ⟨h0, _⟩ | ⟨_, h1⟩
  · rw [hb] at h0; cases h0
  · exact h1
theorem Srt.bounds (h : Srt T K S ps p A m R) (hb : p.begun = true) : S.first ≤ p.mid - p.lo ∧ S.second ≤ p.hi - p.mid := by
  have h1 := (h.on hb).1
  have a := h1.fl
  have b := h1.sl
  rw [h.segX_len] at a
  rw [h.segY_len] at b
  exact ⟨a, b⟩
theorem mrg_seg_len (h : Srt T K S ps p A m R) : (mrg K (segX A p) (segY A p)).length = p.hi - p.lo := by
  have := h.fit
  rw [mrg_length, h.segX_len, h.segY_len]
  omega
/-- Places ahead of which nothing was put are as they were. -/
theorem Srt.ord_get (h : Srt T K S ps p A m R) (hb : p.begun = true) {i : Nat} (hi : p.lo + (S.first + S.second) ≤ i) : S.ord.getD i 0 = A.getD i 0 := by
  have hf := h.fit
  have hbd := h.bounds hb
  have hl := mrg_seg_len h
  have hle : (A.take p.lo ++ (mrg K (segX A p) (segY A p)).take (S.first + S.second)).length = p.lo + (S.first + S.second) := by
    rw [List.length_append, List.length_take, List.length_take, hl]
    omega
  rw [(h.on hb).2.2.2.1, getD_app_right (by rw [hle]; exact hi), hle, getD_drop]
  congr 1
  omega
theorem Srt.ord_len (h : Srt T K S ps p A m R) : S.ord.length = T.length := by
  have hf := h.fit
  have hl := mrg_seg_len h
  rcases h.top with ⟨_, _, _, _, h4⟩ | ⟨hb, h1, _, _, h4, _⟩
  · rw [h4, hf.2.2.2.2]
  · have a := h1.fl
    have b := h1.sl
    rw [h.segX_len] at a
    rw [h.segY_len] at b
    rw [h4, List.length_append, List.length_append, List.length_take, List.length_take, List.length_drop, hl]
    omega
theorem Srt.cost_on (h : Srt T K S ps p A m R) (hb : p.begun = true) : p.cost = (p.mid - p.lo) + (p.hi - p.lo) := by
  have := h.fit
  unfold Part.cost
  rw [hb]
  simp only [if_true]
  omega
/-- Places are laid aside. -/
theorem Srt.lay (h : Srt T K S ps p A m R) (hb : p.begun = true) (g : Nat) (hg : S.laid + g ≤ p.mid - p.lo) (hps : S'.ps = S.ps) (hz : S'.laid = S.laid + g ∧ S'.first = S.first ∧ S'.second = S.second) (hr : S'.reach = S.reach) (hm : S'.made = S.made) (ho : S'.ord = S.ord)
    (ha : ∀ i, i < S.laid → S'.asd.getD i 0 = S.asd.getD i 0) (hn : ∀ i, S.laid ≤ i → i < S.laid + g → S'.asd.getD i 0 = S.ord.getD (p.lo + i) 0) : g ≤ R ∧ Srt T K S' ps p A m (R - g) := by
  obtain ⟨h1, h2, h3, h4, h5⟩ := h.on hb
  have hbd := h.bounds hb
  have hf := h.fit
  have hl := h.left
  rw [costs_app, h.cost_on hb] at hl
  refine ⟨by omega, by rw [hps, h.stk], by rw [hm, h.made], h.perm, by rw [hr]; exact h.goal, by rw [hr]; exact h.rem, h.fits, Or.inr ⟨hb, by rw [hz.2.1, hz.2.2]; exact h1, by rw [hz.1]; exact hg, ?_, by rw [ho, hz.2.1, hz.2.2]; exact h4, ?_⟩, by rw [hz.1, hz.2.1, hz.2.2, costs_app, h.cost_on hb]; omega⟩
  · rw [hz.1, hz.2.1, hz.2.2]
    intro hp
    have := h3 hp
    omega
  · rw [hz.1]
    intro i hi
    rcases Nat.lt_or_ge i S.laid with c | c
    · rw [ha i c, h5 i c]
    · rw [hn i c hi]
      refine h.ord_get hb ?_
      by_cases e : 0 < S.first + S.second
      · have := h3 e; omega
      · omega
theorem set_mid {A M : List Nat} {lo j : Nat} (h1 : lo + j < A.length) (h2 : j < M.length) : (A.take lo ++ M.take j ++ A.drop (lo + j)).set (lo + j) (M.getD j 0) = A.take lo ++ M.take (j + 1) ++ A.drop (lo + (j + 1)) := by
  have hl : (A.take lo ++ M.take j).length = lo + j := by rw [List.length_append, List.length_take, List.length_take]; omega
  rw [List.set_append_right _ _ (by rw [hl]; exact Nat.le_refl _), hl, Nat.sub_self, List.drop_eq_getElem_cons h1, List.set_cons_zero, List.take_succ_eq_append_getElem h2]
  rw [List.getD_eq_getElem?_getD, List.getElem?_eq_getElem h2, Nat.add_assoc]
  show _ ++ M[j] :: _ = _
  rw [List.append_assoc, List.append_assoc, List.append_assoc]
  rfl
/-- A place of the first half is put. -/
theorem Srt.first (h : Srt T K S ps p A m R) (hb : p.begun = true) (hlaid : S.laid = p.mid - p.lo) (hf1 : S.first < p.mid - p.lo) (hc : S.second = p.hi - p.mid ∨ K (S.asd.getD S.first 0) ≤ K (S.ord.getD (p.mid + S.second) 0))
    (hps : S'.ps = S.ps) (hz : S'.laid = S.laid ∧ S'.first = S.first + 1 ∧ S'.second = S.second) (hr : S'.reach = S.reach) (hm : S'.made = S.made) (ho : S'.ord = S.ord.set (p.lo + S.first + S.second) (S.asd.getD S.first 0)) (ha : S'.asd = S.asd) : 1 ≤ R ∧ Srt T K S' ps p A m (R - 1) := by
  obtain ⟨h1, h2, h3, h4, h5⟩ := h.on hb
  have hbd := h.bounds hb
  have hf := h.fit
  have hl := h.left
  rw [costs_app, h.cost_on hb] at hl
  have hx : (segX A p).getD S.first 0 = S.asd.getD S.first 0 := by rw [h.segX_get hf1, h5 _ (by omega)]
  have hstep := h1.first (by rw [h.segX_len]; exact hf1) (by
    rw [h.segY_len]
    by_cases e : S.second = p.hi - p.mid
    · exact Or.inl e
    · right
      rw [hx, h.segY_get (by omega), ← h.ord_get hb (by omega)]
      exact hc.resolve_left e)
  have hml := mrg_seg_len h
  refine ⟨by omega, by rw [hps, h.stk], by rw [hm, h.made], h.perm, by rw [hr]; exact h.goal, by rw [hr]; exact h.rem, h.fits, Or.inr ⟨hb, by rw [hz.2.1, hz.2.2]; exact hstep.2, by rw [hz.1]; omega, fun _ => by rw [hz.1]; exact hlaid, ?_, by rw [hz.1, ha]; exact h5⟩, by rw [hz.1, hz.2.1, hz.2.2, costs_app, h.cost_on hb]; omega⟩
  rw [ho, h4, hz.2.1, hz.2.2, ← hx, ← hstep.1, Nat.add_assoc p.lo, set_mid (by omega) (by omega), show S.first + 1 + S.second = S.first + S.second + 1 by omega]
/-- A place of the second half is put. -/
theorem Srt.second (h : Srt T K S ps p A m R) (hb : p.begun = true) (hlaid : S.laid = p.mid - p.lo) (hs1 : S.second < p.hi - p.mid) (hc : S.first = p.mid - p.lo ∨ ¬ K (S.asd.getD S.first 0) ≤ K (S.ord.getD (p.mid + S.second) 0))
    (hps : S'.ps = S.ps) (hz : S'.laid = S.laid ∧ S'.first = S.first ∧ S'.second = S.second + 1) (hr : S'.reach = S.reach) (hm : S'.made = S.made) (ho : S'.ord = S.ord.set (p.lo + S.first + S.second) (S.ord.getD (p.mid + S.second) 0)) (ha : S'.asd = S.asd) : 1 ≤ R ∧ Srt T K S' ps p A m (R - 1) := by
  obtain ⟨h1, h2, h3, h4, h5⟩ := h.on hb
  have hbd := h.bounds hb
  have hf := h.fit
  have hl := h.left
  rw [costs_app, h.cost_on hb] at hl
  have hy : (segY A p).getD S.second 0 = S.ord.getD (p.mid + S.second) 0 := by rw [h.segY_get hs1, ← h.ord_get hb (by omega)]
  have hstep := h1.second (by rw [h.segY_len]; exact hs1) (by
    rw [h.segX_len]
    by_cases e : S.first = p.mid - p.lo
    · exact Or.inl e
    · right
      rw [hy, h.segX_get (by omega), ← h5 _ (by omega)]
      exact hc.resolve_left e)
  have hml := mrg_seg_len h
  refine ⟨by omega, by rw [hps, h.stk], by rw [hm, h.made], h.perm, by rw [hr]; exact h.goal, by rw [hr]; exact h.rem, h.fits, Or.inr ⟨hb, by rw [hz.2.1, hz.2.2]; exact hstep.2, by rw [hz.1]; omega, fun _ => by rw [hz.1]; exact hlaid, ?_, by rw [hz.1, ha]; exact h5⟩, by rw [hz.1, hz.2.1, hz.2.2, costs_app, h.cost_on hb]; omega⟩
  rw [ho, h4]
  rw [← h4, ← hy, ← hstep.1, h4, hz.2.1, hz.2.2, Nat.add_assoc p.lo, set_mid (by omega) (by omega), show S.first + (S.second + 1) = S.first + S.second + 1 by omega]
/-- All places of a part are put. -/
theorem Srt.whole (h : Srt T K S ps p A m R) (hb : p.begun = true) (hw : S.first + S.second = p.hi - p.lo) (hps : S'.ps = ps) (hz : S'.laid = 0 ∧ S'.first = 0 ∧ S'.second = 0) (hr : S'.reach = S.reach) (hm : S'.made = S.made) (ho : S'.ord = S.ord) :
    (∃ ps2 q, ps = ps2 ++ [q] ∧ Srt T K S' ps2 q (opP K p A) m R) ∨ (ps = [] ∧ Num T K S' m R) := by
  obtain ⟨h1, h2, h3, h4, h5⟩ := h.on hb
  have hbd := h.bounds hb
  have hf := h.fit
  have hl := h.left
  have hfits := h.fits p (by simp)
  have hbig := hfits.2.2 hb
  have hlaid := h3 (by omega)
  rw [costs_app, h.cost_on hb] at hl
  refine h.pop hps hz hr hm ?_ (by omega)
  rw [ho, h4, hw, show p.lo + (p.hi - p.lo) = p.hi by omega, List.take_of_length_le (l := mrg K (segX A p) (segY A p)) (by rw [mrg_seg_len h]; exact Nat.le_refl _)]
  unfold opP
  rw [hb]
  simp only [if_true]
  rfl
end
/-- The class of one more place is made. -/
theorem Num.next {T : List UInt8} {K : Nat → Nat} {S S' : SS} {m R : Nat} (h : Num T K S m R) (hm : S.made < T.length) (hl : S.asd.length = T.length) (hps : S'.ps = S.ps) (hz : S'.laid = S.laid ∧ S'.first = S.first ∧ S'.second = S.second) (hr : S'.reach = S.reach) (hmd : S'.made = S.made + 1) (ho : S'.ord = S.ord)
    (ha : S'.asd = S.asd.set (S.ord.getD S.made 0) (cN K S.ord S.made)) : 1 ≤ R ∧ Num T K S' m (R - 1) := by
  have hl2 := h.left
  refine ⟨by omega, by rw [hps, h.stk], by rw [hz.1, hz.2.1, hz.2.2]; exact h.zero, by rw [hr, ho]; exact h.ord, ?_, by omega, by rw [hr]; exact h.rem, by omega⟩
  rw [ho, ha, hmd]
  exact h.num.next h.ord.1 hm hl
/-- All classes are made, and it is done. -/
theorem Num.done {T : List UInt8} {K : Nat → Nat} {S : SS} {m R : Nat} (h : Num T K S m R) (hm : S.made = T.length) (he : Ends T S.reach) : R = 0 ∧ IsSorted T S.ord := by
  have hl := h.left
  have hm0 : m = 0 := Rem.one h.rem (.done he)
  refine ⟨by rw [hm, hm0] at hl; omega, sortH_done h.ord ?_⟩
  rcases he with he | he
  · exact Or.inr he
  · left
    unfold bytesBy
    split <;> omega
theorem bytesBy_pos (r : Nat) : 0 < bytesBy r := by unfold bytesBy; split <;> omega
theorem bytesBy_two (r : Nat) : bytesBy (bytesBy r) = bytesBy r + bytesBy r := by
  have h := bytesBy_pos r
  have e : ∀ q, q ≠ 0 → bytesBy q = 2 * q := fun q hq => by unfold bytesBy; rw [if_neg hq]
  rw [e _ (by omega)]
  omega
theorem bytesBy_max (r : Nat) : bytesBy r = max 1 (2 * r) := by
  unfold bytesBy
  split <;> omega
/-- All classes are made, and a further pass begins. -/
theorem Num.pass {T : List UInt8} {K : Nat → Nat} {S S' : SS} {m R : Nat} (h : Num T K S m R) (hK : KeyH T (bytesBy S.reach) K) (hm : S.made = T.length) (he : ¬ Ends T S.reach) (hps : S'.ps = [⟨0, T.length, false⟩]) (hz : S'.laid = S.laid ∧ S'.first = S.first ∧ S'.second = S.second) (hr : S'.reach = bytesBy S.reach) (hmd : S'.made = 0) (ho : S'.ord = S.ord) :
    KeyH T (bytesBy S'.reach) (keyC T.length (bytesBy S.reach) (fun i => S.asd.getD i 0)) ∧ ∃ m2, Srt T (keyC T.length (bytesBy S.reach) (fun i => S.asd.getD i 0)) S' [] ⟨0, T.length, false⟩ S.ord m2 R := by
  have hl := h.left
  have hN := h.num
  rw [hm] at hN
  have hck := classes_key hK h.ord hN
  have hkey : KeyH T (bytesBy S'.reach) (keyC T.length (bytesBy S.reach) (fun i => S.asd.getD i 0)) := by
    rw [hr, bytesBy_two]
    exact hck.1.twice hck.2
  refine ⟨hkey, ?_⟩
  have hrem := h.rem
  cases hrem with
  | done e => exact absurd e he
  | @more _ m2 _ hr2 =>
    refine ⟨m2, hps, hmd, h.ord.1, ?_, by rw [hr]; exact hr2, ?_, Or.inl ⟨rfl, by rw [hz.1]; exact h.zero.1, by rw [hz.2.1]; exact h.zero.2.1, by rw [hz.2.2]; exact h.zero.2.2, ho⟩, ?_⟩
    · show SortH T _ (opP _ ⟨0, T.length, false⟩ S.ord)
      rw [← perm_len h.ord.1, op_whole]
      refine sortH_next (G := bytesBy S.reach) ?_ h.ord.1 (sortH_stable h.ord (H := bytesBy S'.reach) ?_ ?_)
      · rw [perm_len h.ord.1]; exact hkey
      · rw [hr, bytesBy_two]; omega
      · rw [perm_len h.ord.1]; exact hkey
    · intro q hq
      simp only [List.nil_append, List.mem_singleton] at hq
      subst hq
      exact ⟨Nat.zero_le _, Nat.le_refl _, fun e => by cases e⟩
    · rw [hz.1, hz.2.1, hz.2.2, h.zero.1, h.zero.2.1, h.zero.2.2]
      have hc : costs ([] ++ [(⟨0, T.length, false⟩ : Part)]) = passS T.length := by simp [costs, Part.cost]
      rw [hc]
      rw [Nat.mul_add, Nat.mul_one] at hl
      unfold each at hl ⊢
      omega
/-- At first. -/
theorem Srt.start (T : List UInt8) {S : SS} {m : Nat} (hps : S.ps = [⟨0, T.length, false⟩]) (hz : S.laid = 0 ∧ S.first = 0 ∧ S.second = 0) (hr : S.reach = 0) (hmd : S.made = 0) (ho : S.ord = List.range T.length) (hrem : Rem T 0 m) :
    Srt T (bt T) S [] ⟨0, T.length, false⟩ (List.range T.length) m (each T.length * (m + 1)) := by
  refine ⟨hps, hmd, List.Perm.refl _, ?_, by rw [hr]; exact hrem, ?_, Or.inl ⟨rfl, hz.1, hz.2.1, hz.2.2, ho⟩, ?_⟩
  · rw [hr]
    show SortH T 1 (opP _ ⟨0, T.length, false⟩ (List.range T.length))
    have := op_whole (bt T) (List.range T.length)
    rw [List.length_range] at this
    rw [this]
    exact sortH_next (G := 0) (KeyH.first T) (List.Perm.refl _) (range_stable _)
  · intro q hq
    simp only [List.nil_append, List.mem_singleton] at hq
    subst hq
    exact ⟨Nat.zero_le _, Nat.le_refl _, fun e => by cases e⟩
  · rw [hz.1, hz.2.1, hz.2.2]
    have hc : costs ([] ++ [(⟨0, T.length, false⟩ : Part)]) = passS T.length := by simp [costs, Part.cost]
    rw [hc, Nat.mul_add, Nat.mul_one]
    unfold each
    omega
end SrtM
end Go.Proofs.Ytfedhppcmmponaa
