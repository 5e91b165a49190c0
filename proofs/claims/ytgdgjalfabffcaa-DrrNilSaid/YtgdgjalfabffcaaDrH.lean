/-
  LAYER 30 (package drr): a turn's end, Spent.
-/
import Derived.Test.YtgdgjalfabffcaaDrG
namespace Go.Proofs.Ytgdgjalfabffcaa
open Go.RowKit
set_option linter.unusedVariables false
set_option linter.unusedSimpArgs false
def endJ1 (n : Nat) (J : Nat → List Int) (t : Nat) (x : Int) (st : Bool) : Nat → List Int := if st = true then dropJ n J t x else J
def endC (c : Nat → Int) (J : Nat → List Int) (t : Nat) (x : Int) (st : Bool) : Nat → Int := if st = true then dropC c J t x else c
def endJ (n : Nat) (c : Nat → Int) (J : Nat → List Int) (t : Nat) (x : Int) (st : Bool) : Nat → List Int :=
  if endJ1 n J t x st t = [] ∨ 0 < endC c J t x st t then endJ1 n J t x st
  else updF (if st = true then endJ1 n J t x st else updF (endJ1 n J t x st) t (DrrM.rotated (endJ1 n J t x st t))) n (DrrM.rotated (endJ1 n J t x st n))
section
variable {w w' : World} {B s g n : Nat} {Q : Nat → Nat} {V : Nat → Value} {q c : Nat → Int} {J : Nat → List Int}
/-- The end, behind the drop: the queue's length and the credit decide. -/
def EndTail (w w' : World) (B s g n : Nat) (Q : Nat → Nat) (V : Nat → Value) (q c : Nat → Int) (J : Nat → List Int) (e : Ending) : Prop := e = .returned (.tuple #[]) ∧ DStep w w' B s g n Q V q c J
set_option maxRecDepth 100000 in
set_option maxHeartbeats 8000000 in
theorem dend_any (t : Nat) (x : Int) (st : Bool) (w : World) (h : IsDm w B s g n Q V q c J) (ht : t < n) (hc : 0 ≤ c t) : Calls Try.prog 57 #[.pointer (some ⟨s, 0, none⟩), .int .i64 (t : Int), .int .i64 x, .bool st] w fun e w' =>
    EndTail w w' B s g n Q V q (endC c J t x st) (endJ n c J t x st) e := by
  have htn : t ≠ n := by omega
  have i0 : (0 : Int) ≤ (t : Int) := by omega
  have i1 : (t : Int) < (n : Int) := by omega
  obtain ⟨CF, hCF⟩ : ∃ CF, endC c J t x st = CF := ⟨_, rfl⟩
  obtain ⟨J1, hJ1⟩ : ∃ J1, endJ1 n J t x st = J1 := ⟨_, rfl⟩
  obtain ⟨JF, hJF⟩ : ∃ JF, endJ n c J t x st = JF := ⟨_, rfl⟩
  have hJF' : JF = if J1 t = [] ∨ 0 < CF t then J1 else updF (if st = true then J1 else updF J1 t (DrrM.rotated (J1 t))) n (DrrM.rotated (J1 n)) := by
    rw [← hJF, ← hJ1, ← hCF]; rfl
  have hCt : 0 ≤ CF t := by
    rw [← hCF]
    unfold endC
    split
    · unfold dropC
      split
      · rw [updF_same]; omega
      · exact hc
    · exact hc
  have HJF := Lib.hid hJF'
  have c0 := h.cells.1
  rw [hCF, hJF]
  have HCJ : Hid (endC c J t x st = CF ∧ endJ1 n J t x st = J1) := Lib.hid ⟨hCF, hJ1⟩
  clear hCF hJ1 hJF hJF' hc
  cases st with
  | true =>
    have HD : Hid (Calls Try.prog 58 #[.pointer (some ⟨s, 0, none⟩), .int .i64 (t : Int), .int .i64 x] w fun e w' => e = .returned (.tuple #[]) ∧ DStep w w' B s g n Q V q CF J1) := Lib.hid (by
      have := ddrop_any t x w h ht
      rw [show dropC c J t x = CF from HCJ.out.1, show dropJ n J t x = J1 from HCJ.out.2] at this
      exact this)
    clear h
    by_cases hcond : J1 t = [] ∨ 0 < CF t
    · have HJ2 : Hid (JF = J1) := Lib.hid (by have := HJF.out; rw [if_pos hcond] at this; exact this)
      by_cases hz : J1 t = []
      · clear hcond
        go_enter Try.func57, Try.ntmps57
        go_wp2_with fail
        refine HD.out.mono ?_
        rintro e w1 ⟨rfl, h1⟩
        have H1 := Lib.hid h1
        obtain ⟨V1, hm1, _⟩ := h1
        have HL := Lib.hid (qlen_any w1 (hm1.qs t (by omega)))
        rw [hz] at HL
        have d0 := (hm1.ten.cells ht).1
        unfold ptrQ at d0
        clear hm1 hz
        generalize Q t = qt at *
        have hl0 : (([] : List Int).length : Int) = 0 := rfl
        rw [hl0] at HL
        go_wp2_with fail
        refine HL.out.mono ?_
        rintro e w2 ⟨rfl, hw2⟩
        obtain rfl := hw2.symm
        go_wp2_with fail
        refine bodyPost_ret (results_none rfl _ _ _) rfl ?_
        exact ⟨rfl, by rw [HJ2.out]; exact H1.out⟩
      · have hcp : 0 < CF t := by
          rcases hcond with h | h
          · exact absurd h hz
          · exact h
        have hl0 : (((J1 t).length : Int) == 0) = false := by
          rw [beq_eq_false_iff_ne]
          intro e
          exact hz (List.eq_nil_of_length_eq_zero (by omega))
        clear hcond
        go_enter Try.func57, Try.ntmps57
        go_wp2_with fail
        refine HD.out.mono ?_
        rintro e w1 ⟨rfl, h1⟩
        have H1 := Lib.hid h1
        obtain ⟨V1, hm1, _⟩ := h1
        have HL := Lib.hid (qlen_any w1 (hm1.qs t (by omega)))
        obtain ⟨L, hL⟩ : ∃ L : Nat, (J1 t).length = L := ⟨_, rfl⟩
        rw [hL] at HL hl0
        obtain ⟨d0, d1, d2⟩ := hm1.ten.cells ht
        unfold ptrQ at d0
        clear hm1 hz hL
        generalize Q t = qt at *
        obtain ⟨z, hzz⟩ : ∃ z, CF t = z := ⟨_, rfl⟩
        rw [hzz] at d2 hcp hCt
        clear hzz
        have hcp2 : z > 0 := hcp
        go_wp2_with fail
        refine HL.out.mono ?_
        rintro e w2 ⟨rfl, hw2⟩
        obtain rfl := hw2.symm
        go_wp2_with fail
        refine bodyPost_ret (results_none rfl _ _ _) rfl ?_
        exact ⟨rfl, by rw [HJ2.out]; exact H1.out⟩
    · have HJ2 : Hid (JF = updF J1 n (DrrM.rotated (J1 n))) := Lib.hid (by have := HJF.out; rw [if_neg hcond, if_pos rfl] at this; exact this)
      have hcz : ¬ CF t > 0 := fun e => hcond (Or.inr e)
      have hl0 : (((J1 t).length : Int) == 0) = false := by
        rw [beq_eq_false_iff_ne]
        intro e
        exact hcond (Or.inl (List.eq_nil_of_length_eq_zero (by omega)))
      clear hcond
      go_enter Try.func57, Try.ntmps57
      go_wp2_with fail
      refine HD.out.mono ?_
      rintro e w1 ⟨rfl, h1⟩
      obtain ⟨V1, hm1, ht1, hf1⟩ := h1
      have HL := Lib.hid (qlen_any w1 (hm1.qs t (by omega)))
      have HRO := Lib.hid (qrotate_any w1 (hm1.qs n (Nat.le_refl _)))
      have HE : Hid (∀ w', QStep w1 w' B (Q n) (limQ n n) (V1 n) (DrrM.rotated (J1 n)) → DStep w w' B s g n Q V q CF JF) := Lib.hid (fun w' hq => by
        rw [HJ2.out]
        exact DStep.comp ht1 hf1 (hm1.qstep (Nat.le_refl _) hq))
      obtain ⟨L, hL⟩ : ∃ L : Nat, (J1 t).length = L := ⟨_, rfl⟩
      rw [hL] at HL hl0
      obtain ⟨d0, d1, d2⟩ := hm1.ten.cells ht
      have e1 := hm1.cells.2
      unfold ptrQ at d0
      obtain ⟨qn, hqn⟩ : ∃ qn, Q n = qn := ⟨_, rfl⟩
      obtain ⟨qt, hqt⟩ : ∃ qt, Q t = qt := ⟨_, rfl⟩
      rw [hqn] at e1 HRO HE
      rw [hqt] at d0 HL
      clear hm1 ht1 hf1 hL hqn hqt
      obtain ⟨z, hzz⟩ : ∃ z, CF t = z := ⟨_, rfl⟩
      rw [hzz] at d2 hcz hCt
      clear hzz
      go_wp2_with fail
      refine HL.out.mono ?_
      rintro e w2 ⟨rfl, hw2⟩
      obtain rfl := hw2.symm
      go_wp2_with fail
      refine HRO.out.mono ?_
      rintro e w3 ⟨rfl, hq3⟩
      have H3 := Lib.hid (HE.out w3 hq3)
      clear hq3
      go_wp2_with fail
      refine bodyPost_end (results_none rfl _ _ _) rfl ?_
      exact ⟨rfl, H3.out⟩
  | false =>
    have hcf : CF = c := by rw [← HCJ.out.1]; rfl
    have hj1 : J1 = J := by rw [← HCJ.out.2]; rfl
    subst hcf
    subst hj1
    have H1 := Lib.hid (DStep.refl h)
    have H := Lib.hid h
    have HL := Lib.hid (qlen_any w (h.qs t (by omega)))
    obtain ⟨d0, d1, d2⟩ := h.ten.cells ht
    unfold ptrQ at d0
    clear h
    obtain ⟨qt, hqt⟩ : ∃ qt, Q t = qt := ⟨_, rfl⟩
    rw [hqt] at d0 HL
    obtain ⟨z, hzz⟩ : ∃ z, CF t = z := ⟨_, rfl⟩
    rw [hzz] at d2 hCt
    by_cases hcond : J1 t = [] ∨ 0 < CF t
    · have HJ2 : Hid (JF = J1) := Lib.hid (by have := HJF.out; rw [if_pos hcond] at this; exact this)
      by_cases hz : J1 t = []
      · rw [hz] at HL
        clear hcond hz hzz hqt
        have hl0 : (([] : List Int).length : Int) = 0 := rfl
        rw [hl0] at HL
        go_enter Try.func57, Try.ntmps57
        go_wp2_with fail
        refine HL.out.mono ?_
        rintro e w2 ⟨rfl, hw2⟩
        obtain rfl := hw2.symm
        go_wp2_with fail
        refine bodyPost_ret (results_none rfl _ _ _) rfl ?_
        exact ⟨rfl, by rw [HJ2.out]; exact H1.out⟩
      · have hcp : z > 0 := by
          rcases hcond with h | h
          · exact absurd h hz
          · rw [hzz] at h; exact h
        have hl0 : (((J1 t).length : Int) == 0) = false := by
          rw [beq_eq_false_iff_ne]
          intro e
          exact hz (List.eq_nil_of_length_eq_zero (by omega))
        obtain ⟨L, hL⟩ : ∃ L : Nat, (J1 t).length = L := ⟨_, rfl⟩
        rw [hL] at HL hl0
        clear hcond hz hzz hqt hL
        go_enter Try.func57, Try.ntmps57
        go_wp2_with fail
        refine HL.out.mono ?_
        rintro e w2 ⟨rfl, hw2⟩
        obtain rfl := hw2.symm
        go_wp2_with fail
        refine bodyPost_ret (results_none rfl _ _ _) rfl ?_
        exact ⟨rfl, by rw [HJ2.out]; exact H1.out⟩
    · have HJ2 : Hid (JF = updF (updF J1 t (DrrM.rotated (J1 t))) n (DrrM.rotated (J1 n))) := Lib.hid (by have := HJF.out; rw [if_neg hcond, if_neg (by decide)] at this; exact this)
      have hcz : ¬ z > 0 := fun e => hcond (Or.inr (by rw [hzz]; exact e))
      have hl0 : (((J1 t).length : Int) == 0) = false := by
        rw [beq_eq_false_iff_ne]
        intro e
        exact hcond (Or.inl (List.eq_nil_of_length_eq_zero (by omega)))
      have HRT := Lib.hid (qrotate_any w (H.out.qs t (by omega)))
      obtain ⟨qn, hqn⟩ : ∃ qn, Q n = qn := ⟨_, rfl⟩
      have HE : Hid (∀ w', QStep w w' B (Q t) (limQ n t) (V t) (DrrM.rotated (J1 t)) → w'.cell? ⟨s, 1, none⟩ = some (.pointer (some ⟨qn, 0, none⟩)) ∧ Calls Try.prog 23 #[.pointer (some ⟨qn, 0, none⟩)] w' fun e w'' => e = .returned (.tuple #[]) ∧ DStep w w'' B s g n Q V q CF JF) := Lib.hid (fun w' hq => by
        obtain ⟨V1, b1, b2, b3⟩ := H.out.qstep (i := t) (by omega) hq
        have k1 := b1.cells.2
        rw [hqn] at k1
        have k2 := qrotate_any w' (b1.qs n (Nat.le_refl _))
        rw [hqn] at k2
        refine ⟨k1, k2.mono ?_⟩
        rintro e w'' ⟨he, hq2⟩
        refine ⟨he, ?_⟩
        rw [HJ2.out]
        rw [← hqn] at hq2
        have := DStep.comp b2 b3 (b1.qstep (Nat.le_refl _) hq2)
        rw [updF_ne J1 _ (fun e => htn e.symm)] at this
        exact this)
      obtain ⟨L, hL⟩ : ∃ L : Nat, (J1 t).length = L := ⟨_, rfl⟩
      rw [hL] at HL hl0
      rw [hqt] at HRT HE
      clear hcond hzz hqt hL hqn
      go_enter Try.func57, Try.ntmps57
      go_wp2_with fail
      refine HL.out.mono ?_
      rintro e w2 ⟨rfl, hw2⟩
      obtain rfl := hw2.symm
      go_wp2_with fail
      refine HRT.out.mono ?_
      rintro e w3 ⟨rfl, hq3⟩
      obtain ⟨e1, hro⟩ := HE.out w3 hq3
      have HRO := Lib.hid hro
      clear hq3 hro
      go_wp2_with fail
      refine HRO.out.mono ?_
      rintro e w4 ⟨rfl, h4⟩
      have H4 := Lib.hid h4
      clear h4
      go_wp2_with fail
      refine bodyPost_end (results_none rfl _ _ _) rfl ?_
      exact ⟨rfl, H4.out⟩
end
end Go.Proofs.Ytgdgjalfabffcaa
