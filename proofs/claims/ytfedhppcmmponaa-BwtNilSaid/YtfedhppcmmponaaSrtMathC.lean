/-
  PLAIN MATHEMATICS OF LAYER 16 (sorter): what a sorter holds between two steps, and how many steps are left. No program is named here.
-/
import Derived.Test.YtfedhppcmmponaaSrtMathB
namespace Go.Proofs.Ytfedhppcmmponaa
namespace SrtM
open Go.RowKit BwtM
set_option linter.unusedVariables false

theorem op_perm {K : Nat → Nat} {p : Part} {A : List Nat} (h1 : p.lo ≤ p.hi) (h2 : p.hi ≤ A.length) : (opP K p A).Perm A := by
  obtain ⟨lo, hi, b⟩ := p
  simp only at h1 h2
  have e : A = A.take lo ++ (A.drop lo).take (hi - lo) ++ A.drop hi := by
    conv => lhs; rw [← List.take_append_drop lo A, ← List.take_append_drop (hi - lo) (A.drop lo), List.drop_drop, show lo + (hi - lo) = hi by omega]
    rw [List.append_assoc]
  cases b with
  | false =>
    conv => rhs; rw [e]
    unfold opP
    simp only [Bool.false_eq_true, if_false]
    exact ((msort_perm K _ _ (Nat.le_refl _)).append_left _).append_right _
  | true =>
    have hm := mid_half lo hi true h1
    have e2 : (A.drop lo).take (hi - lo) = (A.drop lo).take ((⟨lo, hi, true⟩ : Part).mid - lo) ++ (A.drop (⟨lo, hi, true⟩ : Part).mid).take (hi - (⟨lo, hi, true⟩ : Part).mid) := by
      rw [hm]
      conv => lhs; rw [← List.take_append_drop (lo + (hi - lo) / 2 - lo) ((A.drop lo).take (hi - lo))]
      rw [List.take_take, List.drop_take, List.drop_drop]
      congr 2
      · omega
      · omega
      · congr 1
        omega
    conv => rhs; rw [e, e2]
    unfold opP
    simp only [if_true]
    exact ((mrg_perm K _ _).append_left _).append_right _
/-- What a sorter holds. -/
structure SS where
  ord : List Nat
  cls : List Nat
  asd : List Nat
  reach : Nat
  ps : List Part
  laid : Nat
  first : Nat
  second : Nat
  made : Nat
  steps : Nat
def segX (A : List Nat) (p : Part) : List Nat := (A.drop p.lo).take (p.mid - p.lo)
def segY (A : List Nat) (p : Part) : List Nat := (A.drop p.mid).take (p.hi - p.mid)
/-- Where the part on top stands. -/
def TopAt (K : Nat → Nat) (S : SS) (A : List Nat) (p : Part) : Prop :=
  (p.begun = false ∧ S.laid = 0 ∧ S.first = 0 ∧ S.second = 0 ∧ S.ord = A) ∨
  (p.begun = true ∧ MrgAt K (segX A p) (segY A p) S.first S.second ∧ S.laid ≤ p.mid - p.lo ∧ (0 < S.first + S.second → S.laid = p.mid - p.lo) ∧
    S.ord = A.take p.lo ++ (mrg K (segX A p) (segY A p)).take (S.first + S.second) ++ A.drop (p.lo + (S.first + S.second)) ∧ ∀ i, i < S.laid → S.asd.getD i 0 = A.getD (p.lo + i) 0)
def Fits (n : Nat) (p : Part) : Prop := p.lo ≤ p.hi ∧ p.hi ≤ n ∧ (p.begun = true → p.lo + 2 ≤ p.hi)
/-- A pass is sorting: p is on top of the parts ps. -/
structure Srt (T : List UInt8) (K : Nat → Nat) (S : SS) (ps : List Part) (p : Part) (A : List Nat) (m R : Nat) : Prop where
  stk : S.ps = ps ++ [p]
  made : S.made = 0
  perm : A.Perm (List.range T.length)
  goal : SortH T (bytesBy S.reach) (runAll K (p :: ps.reverse) A)
  rem : Rem T S.reach m
  fits : ∀ q ∈ ps ++ [p], Fits T.length q
  top : TopAt K S A p
  left : R + (S.laid + S.first + S.second) = costs (ps ++ [p]) + T.length + each T.length * m
/-- A pass is making classes. -/
structure Num (T : List UInt8) (K : Nat → Nat) (S : SS) (m R : Nat) : Prop where
  stk : S.ps = []
  zero : S.laid = 0 ∧ S.first = 0 ∧ S.second = 0
  ord : SortH T (bytesBy S.reach) S.ord
  num : NumAt K S.ord S.asd S.made
  made : S.made ≤ T.length
  rem : Rem T S.reach m
  left : R + S.made = T.length + each T.length * m
theorem costs_app (ps : List Part) (p : Part) : costs (ps ++ [p]) = costs ps + p.cost := by unfold costs; simp
theorem runAll_rev (K : Nat → Nat) (ps : List Part) (p q : Part) (A : List Nat) : runAll K (p :: (ps ++ [q]).reverse) A = runAll K (q :: ps.reverse) (opP K p A) := by rw [List.reverse_append]; rfl
/-- The part on top is done: the one beneath comes on top, or classes are made. -/
theorem Srt.pop {T : List UInt8} {K : Nat → Nat} {S S' : SS} {ps : List Part} {p : Part} {A : List Nat} {m R R' : Nat} (h : Srt T K S ps p A m R) (hps : S'.ps = ps) (hz : S'.laid = 0 ∧ S'.first = 0 ∧ S'.second = 0) (hr : S'.reach = S.reach) (hm : S'.made = S.made)
    (ho : S'.ord = opP K p A) (hR2 : R' = costs ps + T.length + each T.length * m) :
    (∃ ps2 q, ps = ps2 ++ [q] ∧ Srt T K S' ps2 q (opP K p A) m R') ∨ (ps = [] ∧ Num T K S' m R') := by
  obtain ⟨z1, z2, z3⟩ := hz
  have hf := h.fits p (by simp)
  have hpl : (opP K p A).Perm A := op_perm hf.1 (by rw [perm_len h.perm]; exact hf.2.1)
  rcases List.eq_nil_or_concat ps with rfl | ⟨ps2, q, rfl⟩
  · right
    refine ⟨rfl, hps, ⟨z1, z2, z3⟩, ?_, ?_, ?_, by rw [hr]; exact h.rem, ?_⟩
    · rw [hr, ho]
      exact h.goal
    · rw [hm, h.made]
      exact NumAt.start _ _ _
    · rw [hm, h.made]
      exact Nat.zero_le _
    · rw [hm, h.made, hR2]
      simp [costs]
  · left
    rw [List.concat_eq_append] at *
    refine ⟨ps2, q, rfl, hps, by rw [hm, h.made], hpl.trans h.perm, ?_, by rw [hr]; exact h.rem, fun x hx => h.fits x (List.mem_append_left _ hx), ?_, ?_⟩
    · rw [hr]
      have := h.goal
      rw [runAll_rev] at this
      exact this
    · cases hb : q.begun with
      | false => exact Or.inl ⟨hb, z1, z2, z3, ho⟩
      | true =>
        refine Or.inr ⟨hb, by rw [z2, z3]; exact MrgAt.start _ _ _, by rw [z1]; exact Nat.zero_le _, by rw [z2, z3]; intro h; omega, ?_, by rw [z1]; intro i hi; omega⟩
        rw [ho, z2, z3]
        simp
    · rw [hR2, z1, z2, z3]
      omega
/-- A part of fewer than two places is begun, and done. -/
theorem Srt.small {T : List UInt8} {K : Nat → Nat} {S S' : SS} {ps : List Part} {p : Part} {A : List Nat} {m R : Nat} (h : Srt T K S ps p A m R) (hb : p.begun = false) (hs : p.hi - p.lo < 2) (hps : S'.ps = ps) (hz : S'.laid = 0 ∧ S'.first = 0 ∧ S'.second = 0) (hr : S'.reach = S.reach) (hm : S'.made = S.made) (ho : S'.ord = S.ord) :
    1 ≤ R ∧ ((∃ ps2 q, ps = ps2 ++ [q] ∧ Srt T K S' ps2 q (opP K p A) m (R - 1)) ∨ (ps = [] ∧ Num T K S' m (R - 1))) := by
  have hf := h.fits p (by simp)
  have hl := h.left
  rcases h.top with ⟨_, h1, h2, h3, h4⟩ | ⟨h0, _⟩
  · have hc : p.cost = 1 := by unfold Part.cost; rw [hb]; simp only [Bool.false_eq_true, if_false]; exact passS_small hs
    rw [costs_app, hc, h1, h2, h3] at hl
    have hop : opP K p A = A := by
      obtain ⟨lo, hi, b⟩ := p
      simp only at hb hs hf
      subst hb
      exact op_small hf.1 (by rw [perm_len h.perm]; exact hf.2.1) hs
    refine ⟨by omega, h.pop hps hz hr hm (by rw [ho, h4, hop]) (by omega)⟩
  · rw [hb] at h0; cases h0
/-- A part is begun: its halves come on top. -/
theorem Srt.halves {T : List UInt8} {K : Nat → Nat} {S S' : SS} {ps : List Part} {p : Part} {A : List Nat} {m R : Nat} (h : Srt T K S ps p A m R) (hb : p.begun = false) (hs : 2 ≤ p.hi - p.lo) (hps : S'.ps = ps ++ [⟨p.lo, p.hi, true⟩] ++ [⟨p.mid, p.hi, false⟩] ++ [⟨p.lo, p.mid, false⟩]) (hz : S'.laid = S.laid ∧ S'.first = S.first ∧ S'.second = S.second) (hr : S'.reach = S.reach) (hm : S'.made = S.made) (ho : S'.ord = S.ord) :
    1 ≤ R ∧ Srt T K S' (ps ++ [⟨p.lo, p.hi, true⟩] ++ [⟨p.mid, p.hi, false⟩]) ⟨p.lo, p.mid, false⟩ A m (R - 1) := by
  obtain ⟨lo, hi, b⟩ := p
  simp only at hb hs hps ⊢
  subst hb
  have hf := h.fits ⟨lo, hi, false⟩ (by simp)
  have hmid := mid_half lo hi false hf.1
  have hf1 : lo ≤ hi := hf.1
  have hf2 : hi ≤ T.length := hf.2.1
  have hl := h.left
  rcases h.top with ⟨_, h1, h2, h3, h4⟩ | ⟨h0, _⟩
  · have hc : (⟨lo, hi, false⟩ : Part).cost = 1 + passS ((hi - lo) / 2) + passS ((hi - lo) - (hi - lo) / 2) + (hi - lo) / 2 + (hi - lo) := by
      unfold Part.cost
      simp only [Bool.false_eq_true, if_false]
      exact passS_big hs
    rw [costs_app, hc, h1, h2, h3] at hl
    rw [hmid] at hps ⊢
    refine ⟨by omega, hps, by rw [hm, h.made], h.perm, ?_, by rw [hr]; exact h.rem, ?_, Or.inl ⟨rfl, by rw [hz.1, h1], by rw [hz.2.1, h2], by rw [hz.2.2, h3], by rw [ho, h4]⟩, ?_⟩
    · rw [hr, runAll_rev, runAll_cons, List.reverse_append]
      show SortH T _ (runAll K ps.reverse (opP K ⟨lo, hi, true⟩ (opP K ⟨lo + (hi - lo) / 2, hi, false⟩ (opP K ⟨lo, lo + (hi - lo) / 2, false⟩ A))))
      rw [op_halves (by omega) (by rw [perm_len h.perm]; exact hf2)]
      exact h.goal
    · intro q hq
      simp only [List.mem_append, List.mem_singleton] at hq
      rcases hq with ((hq | rfl) | rfl) | rfl
      · exact h.fits q (List.mem_append_left _ hq)
      · exact ⟨hf1, hf2, fun _ => by show lo + 2 ≤ hi; omega⟩
      · exact ⟨by show lo + (hi - lo) / 2 ≤ hi; omega, hf2, fun e => by cases e⟩
      · exact ⟨by show lo ≤ lo + (hi - lo) / 2; omega, by show lo + (hi - lo) / 2 ≤ T.length; omega, fun e => by cases e⟩
    · rw [hz.1, hz.2.1, hz.2.2, h1, h2, h3, costs_app, costs_app, costs_app]
      have c1 : (⟨lo, hi, true⟩ : Part).cost = (hi - lo) / 2 + (hi - lo) := rfl
      have c2 : (⟨lo + (hi - lo) / 2, hi, false⟩ : Part).cost = passS ((hi - lo) - (hi - lo) / 2) := by show passS (hi - (lo + (hi - lo) / 2)) = _; congr 1; omega
      have c3 : (⟨lo, lo + (hi - lo) / 2, false⟩ : Part).cost = passS ((hi - lo) / 2) := by show passS (lo + (hi - lo) / 2 - lo) = _; congr 1; omega
      rw [c1, c2, c3]
      omega
  · cases h0
end SrtM
end Go.Proofs.Ytfedhppcmmponaa
