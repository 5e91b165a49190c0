/-
  LAYER 30 (package drr): Spent.
-/
import Derived.Test.YtgdgjalfabffcaaDrH
namespace Go.Proofs.Ytgdgjalfabffcaa
open Go.RowKit
set_option linter.unusedVariables false
set_option linter.unusedSimpArgs false
theorem jobsF_setJ (d : DrrM.DS) {t : Nat} (l : List Int) (hl : t < d.j.length) (ht : t < d.q.length) (i : Nat) : jobsF (d.setJ t l) i = updF (jobsF d) t l i := by
  unfold updF jobsF
  show (if i < d.q.length then (d.setJ t l).job i else ringI d.r) = _
  by_cases e : i = t
  · subst e
    rw [if_pos ht, if_pos rfl, d.job_setJ i i l hl, if_pos rfl]
  · rw [if_neg e, d.job_setJ t i l hl, if_neg e]
theorem jobsF_setR (d : DrrM.DS) (r : List Nat) {i : Nat} (hi : i ≤ d.q.length) : jobsF (d.setR r) i = updF (jobsF d) d.q.length (ringI r) i := by
  unfold updF jobsF
  show (if i < d.q.length then d.job i else ringI r) = _
  by_cases e : i = d.q.length
  · subst e
    rw [if_neg (Nat.lt_irrefl _), if_pos rfl]
  · rw [if_neg e, if_pos (by omega), if_pos (by omega)]
theorem updF_congr {α : Type} {F G : Nat → α} {n : Nat} (h : ∀ i, i ≤ n → F i = G i) (t : Nat) (x : α) : ∀ i, i ≤ n → updF F t x i = updF G t x i := fun i hi => by
  unfold updF
  split
  · rfl
  · exact h i hi
/-- Out of its queue. -/
theorem out_fun {d : DrrM.DS} (h : DrrM.Inv d) {t : Nat} (ht : t < d.q.length) (x : Int) :
    (∀ i, i < d.q.length → dropC d.crd (jobsF d) t x i = (d.out t x).crd i) ∧ (∀ i, i ≤ d.q.length → dropJ d.q.length (jobsF d) t x i = jobsF (d.out t x) i) ∧ (d.out t x).q = d.q ∧ (d.out t x).r = (if DrrM.without (d.job t) x = [] then DrrM.withoutT d.r t else d.r) ∧ ∀ i, (d.out t x).job i = if i = t then DrrM.without (d.job t) x else d.job i := by
  have hlc : t < d.c.length := by rw [h.lc]; exact ht
  have hlj : t < d.j.length := by rw [h.lj]; exact ht
  have hJ : jobsF d t = d.job t := jobsF_job d ht
  unfold dropC dropJ DrrM.DS.out
  rw [hJ, jobsF_ring, ringI_without]
  by_cases e : DrrM.without (d.job t) x = []
  · simp only [if_pos e]
    refine ⟨fun i hi => ?_, fun i hi => ?_, rfl, rfl, fun i => ?_⟩
    · exact ((d.setJ t []).crd_setC t i 0 hlc).symm
    · have e1 := jobsF_setR ((d.setJ t []).setC t 0) (DrrM.withoutT d.r t) (i := i) hi
      rw [e1]
      exact updF_congr (fun j hj => (jobsF_setJ d [] hlj ht j).symm) _ _ i hi
    · have e1 := d.job_setJ t i [] hlj
      rw [e]
      exact e1
  · simp only [if_neg e]
    exact ⟨fun i hi => rfl, fun i hi => (jobsF_setJ d _ hlj ht i).symm, rfl, rfl, fun i => d.job_setJ t i _ hlj⟩
theorem ended_fun {d : DrrM.DS} (h : DrrM.Inv d) {t : Nat} (htr : t ∈ d.r) (x used : Int) (st : Bool) (hu : 0 ≤ used ∧ used ≤ d.crd t) :
    (∀ i, i < d.q.length → endC (updF d.crd t (d.crd t - used)) (jobsF d) t x st i = (DrrM.ended d t x used st).crd i) ∧ (∀ i, i ≤ d.q.length → endJ d.q.length (updF d.crd t (d.crd t - used)) (jobsF d) t x st i = jobsF (DrrM.ended d t x used st) i) ∧ (DrrM.ended d t x used st).q = d.q := by
  have ht := h.rng t htr
  have hlc : t < d.c.length := by rw [h.lc]; exact ht
  have hlj : t < d.j.length := by rw [h.lj]; exact ht
  have hJ : jobsF d t = d.job t := jobsF_job d ht
  have hjn := (h.iff_ t ht).1 htr
  have htn : t ≠ d.q.length := by omega
  have hi1 : DrrM.Inv (d.setC t (d.crd t - used)) := h.setC ht (by have := h.crd t ht; omega) (Or.inl hjn)
  have hcf : ∀ i, (d.setC t (d.crd t - used)).crd i = updF d.crd t (d.crd t - used) i := fun i => d.crd_setC t i _ hlc
  have hcf' : (d.setC t (d.crd t - used)).crd = updF d.crd t (d.crd t - used) := funext hcf
  cases st with
  | true =>
    obtain ⟨o1, o2, o3, o4, o5⟩ := out_fun hi1 ht x
    rw [hcf'] at o1
    have hm : DrrM.mid d t x used true = (d.setC t (d.crd t - used)).out t x := by unfold DrrM.mid; rw [if_pos rfl]
    have hmq : (DrrM.mid d t x used true).q = d.q := by rw [hm]; exact o3
    have hmj : (DrrM.mid d t x used true).job t = DrrM.without (d.job t) x := by rw [hm, o5 t, if_pos rfl]; rfl
    have hJ1 : endJ1 d.q.length (jobsF d) t x true t = DrrM.without (d.job t) x := by
      show dropJ d.q.length (jobsF d) t x t = _
      have := o2 t (by show t ≤ d.q.length; omega)
      rw [show jobsF (d.setC t (d.crd t - used)) = jobsF d from rfl, show (d.setC t (d.crd t - used)).q.length = d.q.length from rfl] at this
      rw [this, jobsF_job _ (by rw [o3]; exact ht), o5 t, if_pos rfl]
      rfl
    have hJn : endJ1 d.q.length (jobsF d) t x true d.q.length = ringI (DrrM.mid d t x used true).r := by
      show dropJ d.q.length (jobsF d) t x d.q.length = _
      have := o2 d.q.length (Nat.le_refl _)
      rw [show jobsF (d.setC t (d.crd t - used)) = jobsF d from rfl, show (d.setC t (d.crd t - used)).q.length = d.q.length from rfl] at this
      rw [this, hm, show d.q.length = ((d.setC t (d.crd t - used)).out t x).q.length by rw [o3]; rfl, jobsF_ring]
    unfold endJ
    rw [hJ1, hJn]
    have hC : endC (updF d.crd t (d.crd t - used)) (jobsF d) t x true = dropC (updF d.crd t (d.crd t - used)) (jobsF d) t x := rfl
    have hCt : endC (updF d.crd t (d.crd t - used)) (jobsF d) t x true t = if DrrM.without (d.job t) x = [] then 0 else d.crd t - used := by
      rw [hC]
      unfold dropC
      rw [hJ]
      split
      · rw [updF_same]
      · rw [updF_same]
    by_cases hcond : d.crd t - used = 0 ∧ (DrrM.mid d t x used true).job t ≠ []
    · have hw : DrrM.without (d.job t) x ≠ [] := by rw [← hmj]; exact hcond.2
      have he : DrrM.ended d t x used true = (DrrM.mid d t x used true).setR (DrrM.rotT (DrrM.mid d t x used true).r) := by unfold DrrM.ended; rw [if_pos hcond]
      rw [he, hCt, if_neg hw, if_neg (by
        rintro (h1 | h1)
        · exact hw h1
        · omega), if_pos rfl, ringI_rot]
      refine ⟨fun i hi => ?_, fun i hi => ?_, hmq⟩
      · show _ = (DrrM.mid d t x used true).crd i
        rw [hm]
        exact o1 i hi
      · rw [jobsF_setR _ _ (by rw [hmq]; exact hi), hmq, hm]
        exact updF_congr (fun j hj => o2 j hj) _ _ i hi
    · have he : DrrM.ended d t x used true = DrrM.mid d t x used true := by unfold DrrM.ended; rw [if_neg hcond]
      have hcd : DrrM.without (d.job t) x = [] ∨ 0 < endC (updF d.crd t (d.crd t - used)) (jobsF d) t x true t := by
        by_cases hw : DrrM.without (d.job t) x = []
        · exact Or.inl hw
        · right
          rw [hCt, if_neg hw]
          have : ¬ d.crd t - used = 0 := fun e => hcond ⟨e, by rw [hmj]; exact hw⟩
          omega
      rw [he, if_pos hcd]
      refine ⟨fun i hi => ?_, fun i hi => ?_, hmq⟩
      · rw [hm]
        exact o1 i hi
      · rw [hm]
        exact o2 i hi
  | false =>
    have hJ1 : endJ1 d.q.length (jobsF d) t x false = jobsF d := rfl
    have hC : endC (updF d.crd t (d.crd t - used)) (jobsF d) t x false = updF d.crd t (d.crd t - used) := rfl
    unfold endJ
    rw [hJ1, hC, updF_same, hJ, jobsF_ring]
    unfold DrrM.ended
    rw [DrrM.mid_false]
    by_cases hz : d.crd t - used = 0
    · have hrn : ((d.setC t (d.crd t - used)).setJ t (DrrM.rotated (d.job t))).job t ≠ [] := by
        rw [(d.setC t (d.crd t - used)).job_setJ t t _ hlj, if_pos rfl]
        intro e
        have := DrrM.rotated_length (d.job t)
        rw [e] at this
        exact hjn (List.eq_nil_of_length_eq_zero this.symm)
      rw [if_pos hz, if_pos ⟨hz, hrn⟩, if_neg (by
        rintro (h1 | h1)
        · exact hjn h1
        · omega), if_neg (by decide)]
      refine ⟨fun i hi => (hcf i).symm, fun i hi => ?_, rfl⟩
      rw [ringI_rot]
      have e1 := jobsF_setR ((d.setC t (d.crd t - used)).setJ t (DrrM.rotated (d.job t))) (DrrM.rotT d.r) (i := i) hi
      refine Eq.trans ?_ e1.symm
      exact updF_congr (fun j hj => (jobsF_setJ (d.setC t (d.crd t - used)) (DrrM.rotated (d.job t)) hlj ht j).symm) _ _ i hi
    · rw [if_neg hz, if_neg (fun e => hz e.1), if_pos (Or.inr (by omega))]
      exact ⟨fun i hi => (hcf i).symm, fun i hi => rfl, rfl⟩
/-- What Spent tells, and leaves. -/
def spE (d : DrrM.DS) (x used : Int) : Int :=
  match d.r with
  | [] => 6
  | t :: _ => if frontN (d.job t) ≠ x then 6 else if used < 0 ∨ d.crd t < used then 1 else 0
def spD (d : DrrM.DS) (x used : Int) (st : Bool) : DrrM.DS :=
  match d.r with
  | [] => d
  | t :: _ => if frontN (d.job t) ≠ x then d else if used < 0 ∨ d.crd t < used then d else DrrM.ended d t x used st
section
variable {w w' : World} {B s g : Nat} {Q : Nat → Nat} {V : Nat → Value} {d : DrrM.DS}
set_option maxHeartbeats 1000000 in
theorem dspent_nil (x used : Int) (st : Bool) (w : World) : Calls Try.prog 36 #[.pointer none, .int .i64 x, .int .i64 used, .bool st] w fun e w' => e = .returned (.int .i64 7) ∧ w' = w := by
  have HC := Lib.hid (dcount_nil w)
  go_enter Try.func36, Try.ntmps36
  go_wp2_with fail
  refine HC.out.mono ?_
  rintro e w1 ⟨rfl, rfl⟩
  go_wp2_with fail
  go_ret
  exact ⟨rfl, rfl⟩
set_option maxRecDepth 100000 in
set_option maxHeartbeats 8000000 in
theorem dspent_any (x used : Int) (st : Bool) (w : World) (h : IsDr w B s g Q V d) : Calls Try.prog 36 #[.pointer (some ⟨s, 0, none⟩), .int .i64 x, .int .i64 used, .bool st] w fun e w' =>
    e = .returned (.int .i64 (spE d x used)) ∧ DrStep w w' B s g Q V (spD d x used st) := by
  have hn16 := h.n16
  have HC := Lib.hid (dcount_any w h.dm)
  have HF := Lib.hid (qfront_any w (h.dm.qs d.q.length (Nat.le_refl _)))
  rw [jobsF_ring] at HF
  have cc := h.dm.cells
  obtain ⟨c0, c1⟩ := cc
  obtain ⟨n, hn⟩ : ∃ n, d.q.length = n := ⟨_, rfl⟩
  obtain ⟨qn, hqn⟩ : ∃ qn, Q d.q.length = qn := ⟨_, rfl⟩
  rw [hqn] at c1 HF
  rw [hn] at HC c0 hn16
  have k0 : ((n : Int) == 0) = false := by rw [beq_eq_false_iff_ne]; omega
  have HREF := Lib.hid (DrStep.refl h)
  clear hqn
  cases hr : d.r with
  | nil =>
    have HS : Hid (spE d x used = 6 ∧ spD d x used st = d) := Lib.hid (by unfold spE spD; rw [hr]; exact ⟨rfl, rfl⟩)
    rw [HS.out.1, HS.out.2]
    rw [hr, show frontN (ringI []) = 0 from rfl, show frontE (ringI []) = 6 from rfl] at HF
    clear h hr hn
    go_enter Try.func36, Try.ntmps36
    go_wp2_with fail
    refine HC.out.mono ?_
    rintro e w2 ⟨rfl, hw2⟩
    obtain rfl := hw2.symm
    go_wp2_with fail
    refine HF.out.mono ?_
    rintro e w2 ⟨rfl, hw2⟩
    obtain rfl := hw2.symm
    go_wp2_with fail
    go_ret
    exact ⟨rfl, HREF.out⟩
  | cons t r =>
    rw [hr, show frontN (ringI (t :: r)) = (t : Int) from rfl, show frontE (ringI (t :: r)) = 0 from rfl] at HF
    have htr : t ∈ d.r := by rw [hr]; exact List.mem_cons_self ..
    have htn := h.inv.rng t htr
    obtain ⟨y, l, hjt⟩ : ∃ y l, d.job t = y :: l := by
      cases hd : d.job t with
      | nil => exact absurd hd ((h.inv.iff_ t htn).1 htr)
      | cons y l => exact ⟨y, l, rfl⟩
    have HFT := Lib.hid (qfront_any w (h.dm.qs t (by omega)))
    rw [jobsF_job d htn, hjt, show frontN (y :: l) = y from rfl, show frontE (y :: l) = 0 from rfl] at HFT
    obtain ⟨d0, d1, d2⟩ := h.dm.ten.cells htn
    have f2 := h.dm.ten.frozen (t * 3 + 2)
    have hct := h.inv.crd t htn
    have hcm := (DrrM.qua_pos h.inv htn).2
    have i0 : (0 : Int) ≤ (t : Int) := by omega
    have i1 : (t : Int) < (n : Int) := by omega
    unfold ptrQ at d0
    by_cases hxy : y = x
    · have hxb : (y != x) = false := by rw [bne_eq_false_iff_eq]; exact hxy
      by_cases hub : used < 0 ∨ d.crd t < used
      · have HS : Hid (spE d x used = 1 ∧ spD d x used st = d) := Lib.hid (by
          unfold spE spD
          rw [hr]
          dsimp only
          rw [hjt, show frontN (y :: l) = y from rfl, if_neg (show ¬ (y ≠ x) from fun e => e hxy), if_neg (show ¬ (y ≠ x) from fun e => e hxy), if_pos hub, if_pos hub]
          exact ⟨rfl, rfl⟩)
        rw [HS.out.1, HS.out.2]
        clear h hr hn hjt htr
        generalize Q t = qt at *
        generalize d.crd t = z at *
        by_cases hu0 : used < 0
        · clear hub
          go_enter Try.func36, Try.ntmps36
          go_wp2_with fail
          refine HC.out.mono ?_
          rintro e w2 ⟨rfl, hw2⟩
          obtain rfl := hw2.symm
          go_wp2_with fail
          refine HF.out.mono ?_
          rintro e w2 ⟨rfl, hw2⟩
          obtain rfl := hw2.symm
          go_wp2_with fail
          refine HFT.out.mono ?_
          rintro e w2 ⟨rfl, hw2⟩
          obtain rfl := hw2.symm
          go_wp2_with fail
          go_ret
          exact ⟨rfl, HREF.out⟩
        · have hu1 : used > z := by omega
          clear hub
          go_enter Try.func36, Try.ntmps36
          go_wp2_with fail
          refine HC.out.mono ?_
          rintro e w2 ⟨rfl, hw2⟩
          obtain rfl := hw2.symm
          go_wp2_with fail
          refine HF.out.mono ?_
          rintro e w2 ⟨rfl, hw2⟩
          obtain rfl := hw2.symm
          go_wp2_with fail
          refine HFT.out.mono ?_
          rintro e w2 ⟨rfl, hw2⟩
          obtain rfl := hw2.symm
          go_wp2_with fail
          go_ret
          exact ⟨rfl, HREF.out⟩
      · have HS : Hid (spE d x used = 0 ∧ spD d x used st = DrrM.ended d t x used st) := Lib.hid (by
          unfold spE spD
          rw [hr]
          dsimp only
          rw [hjt, show frontN (y :: l) = y from rfl, if_neg (show ¬ (y ≠ x) from fun e => e hxy), if_neg (show ¬ (y ≠ x) from fun e => e hxy), if_neg hub, if_neg hub]
          exact ⟨rfl, rfl⟩)
        rw [HS.out.1, HS.out.2]
        have hu : 0 ≤ used ∧ used ≤ d.crd t := by omega
        have hu0 : ¬ used < 0 := by omega
        have hwr : IntKind.i64.wrap (d.crd t - used) = d.crd t - used := IntWalk.i64_in _ (by omega)
        obtain ⟨w2, hw2⟩ : ∃ w2, w.setCell ⟨g, t * 3 + 2, none⟩ (.int .i64 (d.crd t - used)) = w2 := ⟨_, rfl⟩
        obtain ⟨V2, hm2, ht2, hf2⟩ := h.dm.setC htn (d.crd t - used)
        rw [hw2] at hm2 ht2
        have HEN := Lib.hid (dend_any t x st w2 hm2 htn (by rw [updF_same]; omega))
        have HFI : Hid (∀ w' e, EndTail w2 w' B s g d.q.length Q V2 d.qua (endC (updF d.crd t (d.crd t - used)) (jobsF d) t x st) (endJ d.q.length (updF d.crd t (d.crd t - used)) (jobsF d) t x st) e → e = .returned (.tuple #[]) ∧ DrStep w w' B s g Q V (DrrM.ended d t x used st)) := Lib.hid (fun w' e he => by
          obtain ⟨e1, e2⟩ := he
          obtain ⟨f1, f2, f3⟩ := ended_fun h.inv htr x used st hu
          have e3 := DStep.comp ht2 hf2 e2
          refine ⟨e1, ?_, h.inv.ended htr (by rw [hjt, ← hxy]; exact List.mem_cons_self ..) hu⟩
          rw [f3]
          exact e3.ext (fun i hi => by unfold DrrM.DS.qua; rw [f3]) f1 f2)
        clear h hr hn hjt htr hm2 ht2 hf2 hub
        have hu2 : ¬ used > d.crd t := by omega
        generalize Q t = qt at *
        obtain ⟨z, hz⟩ : ∃ z, d.crd t = z := ⟨_, rfl⟩
        rw [hz] at d2 hu2 hu hwr hw2 hct
        obtain ⟨zu, hzu⟩ : ∃ zu, z - used = zu := ⟨_, rfl⟩
        rw [hzu] at hwr hw2
        have HZU := Lib.hid hzu
        clear hz
        go_enter Try.func36, Try.ntmps36
        go_wp2_with fail
        refine HC.out.mono ?_
        rintro e w3 ⟨rfl, hw3⟩
        obtain rfl := hw3.symm
        go_wp2_with fail
        refine HF.out.mono ?_
        rintro e w3 ⟨rfl, hw3⟩
        obtain rfl := hw3.symm
        go_wp2_with fail
        refine HFT.out.mono ?_
        rintro e w3 ⟨rfl, hw3⟩
        obtain rfl := hw3.symm
        go_wp2_with fail
        refine HEN.out.mono ?_
        rintro e w4 he4
        obtain ⟨rfl, h4⟩ := HFI.out w4 e he4
        have H4 := Lib.hid h4
        clear h4 he4
        go_wp2_with fail
        go_ret
        exact ⟨rfl, H4.out⟩
    · have hxb : (y != x) = true := by rw [bne_iff_ne]; exact hxy
      have HS : Hid (spE d x used = 6 ∧ spD d x used st = d) := Lib.hid (by
        unfold spE spD
        rw [hr]
        dsimp only
        rw [hjt, show frontN (y :: l) = y from rfl, if_pos hxy, if_pos hxy]
        exact ⟨rfl, rfl⟩)
      rw [HS.out.1, HS.out.2]
      clear h hr hn hjt htr hxy
      generalize Q t = qt at *
      generalize d.crd t = z at *
      go_enter Try.func36, Try.ntmps36
      go_wp2_with fail
      refine HC.out.mono ?_
      rintro e w2 ⟨rfl, hw2⟩
      obtain rfl := hw2.symm
      go_wp2_with fail
      refine HF.out.mono ?_
      rintro e w2 ⟨rfl, hw2⟩
      obtain rfl := hw2.symm
      go_wp2_with fail
      refine HFT.out.mono ?_
      rintro e w2 ⟨rfl, hw2⟩
      obtain rfl := hw2.symm
      go_wp2_with fail
      go_ret
      exact ⟨rfl, HREF.out⟩
end
end Go.Proofs.Ytgdgjalfabffcaa
