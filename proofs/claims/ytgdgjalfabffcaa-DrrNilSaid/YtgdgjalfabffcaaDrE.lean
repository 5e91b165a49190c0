/-
  LAYER 30 (package drr): Add, drop, Remove.
-/
import Derived.Test.YtgdgjalfabffcaaDrD
namespace Go.Proofs.Ytgdgjalfabffcaa
open Go.RowKit
set_option linter.unusedVariables false
set_option linter.unusedSimpArgs false
section
variable {w w' : World} {B s g n : Nat} {Q : Nat → Nat} {V : Nat → Value} {q c : Nat → Int} {J : Nat → List Int}
set_option maxHeartbeats 1000000 in
theorem dadd_none (T x : Int) (w : World) (h : IsDm w B s g n Q V q c J) (hn : 1 ≤ n) (ht : ¬ (0 ≤ T ∧ T < n)) : Calls Try.prog 34 #[.pointer (some ⟨s, 0, none⟩), .int .i64 T, .int .i64 x] w fun e w' => e = .returned (.int .i64 6) ∧ w' = w := by
  have HC := Lib.hid (dcount_any w h)
  have HH := Lib.hid (dhas_no T w h ht)
  have h0 : ((n : Int) == 0) = false := by rw [beq_eq_false_iff_ne]; omega
  clear h ht
  go_enter Try.func34, Try.ntmps34
  go_wp2_with fail
  refine HC.out.mono ?_
  rintro e w1 ⟨rfl, rfl⟩
  go_wp2_with fail
  refine HH.out.mono ?_
  rintro e w1 ⟨rfl, rfl⟩
  go_wp2_with fail
  go_ret
  exact ⟨rfl, rfl⟩
set_option maxHeartbeats 1000000 in
theorem dadd_nil (T x : Int) (w : World) : Calls Try.prog 34 #[.pointer none, .int .i64 T, .int .i64 x] w fun e w' => e = .returned (.int .i64 7) ∧ w' = w := by
  have HC := Lib.hid (dcount_nil w)
  go_enter Try.func34, Try.ntmps34
  go_wp2_with fail
  refine HC.out.mono ?_
  rintro e w1 ⟨rfl, rfl⟩
  go_wp2_with fail
  go_ret
  exact ⟨rfl, rfl⟩
set_option maxHeartbeats 1000000 in
theorem dadd_same (t : Nat) (x : Int) (w : World) (h : IsDm w B s g n Q V q c J) (hn : n ≤ 1000) (ht : t < n) (hx : ∃ i, i < n ∧ x ∈ J i) : Calls Try.prog 34 #[.pointer (some ⟨s, 0, none⟩), .int .i64 (t : Int), .int .i64 x] w fun e w' => e = .returned (.int .i64 8) ∧ Below w.heap.size w w' := by
  have HC := Lib.hid (dcount_any w h)
  have HH := Lib.hid (dhas_yes t w h ht)
  have HO := Lib.hid (downer_any x w h hn)
  have h0 : ((n : Int) == 0) = false := by rw [beq_eq_false_iff_ne]; omega
  have HX := Lib.hid hx
  clear h hx
  go_enter Try.func34, Try.ntmps34
  go_wp2_with fail
  refine HC.out.mono ?_
  rintro e w1 ⟨rfl, rfl⟩
  go_wp2_with fail
  refine HH.out.mono ?_
  rintro e w1 ⟨rfl, rfl⟩
  go_wp2_with fail
  refine HO.out.mono ?_
  rintro e w2 ⟨r, rfl, hr, hb⟩
  have HB := Lib.hid hb
  have hr0 : r ≥ 0 := by
    rcases hr with ⟨u, _, rfl, _⟩ | ⟨_, hno⟩
    · omega
    · obtain ⟨i, hi, hxi⟩ := HX.out
      exact absurd hxi (hno i hi)
  clear hb hr
  go_wp2_with fail
  go_ret
  exact ⟨rfl, HB.out⟩
set_option maxHeartbeats 2000000 in
theorem dadd_any (t : Nat) (x : Int) (w : World) (h : IsDm w B s g n Q V q c J) (hn : n ≤ 1000) (ht : t < n) (hx : ∀ i, i < n → x ∉ J i) : Calls Try.prog 34 #[.pointer (some ⟨s, 0, none⟩), .int .i64 (t : Int), .int .i64 x] w fun e w' =>
    e = .returned (.int .i64 (pushE (J t) 1099511627776 x)) ∧ DStep w w' B s g n Q V q c (updF (updF J n (pushL (J n) n t)) t (pushL (J t) 1099511627776 x)) := by
  have HC := Lib.hid (dcount_any w h)
  have HH := Lib.hid (dhas_yes t w h ht)
  have HO := Lib.hid (downer_any x w h hn)
  have h0 : ((n : Int) == 0) = false := by rw [beq_eq_false_iff_ne]; omega
  have HX := Lib.hid hx
  have H := Lib.hid h
  have h1 : (0 : Int) ≤ (t : Int) := by omega
  have h2 : (t : Int) < (n : Int) := by omega
  obtain ⟨E, hE⟩ : ∃ E, pushE (J t) 1099511627776 x = E := ⟨_, rfl⟩
  have HE := Lib.hid hE
  rw [hE]
  clear h hx hE
  go_enter Try.func34, Try.ntmps34
  go_wp2_with fail
  refine HC.out.mono ?_
  rintro e w1 ⟨rfl, rfl⟩
  go_wp2_with fail
  refine HH.out.mono ?_
  rintro e w1 ⟨rfl, rfl⟩
  go_wp2_with fail
  refine HO.out.mono ?_
  rintro e w2 ⟨r, rfl, hr, hb⟩
  have hm2 := H.out.far hb
  have HT2 := Lib.hid (Touch.ofBelow (S := dfoot s g n Q V) hb)
  have hr0 : ¬ r ≥ 0 := by
    rcases hr with ⟨u, hu, _, hxu, _⟩ | ⟨rfl, _⟩
    · exact absurd hxu (HX.out u hu)
    · omega
  have c1 := hm2.cells.2
  have HP := Lib.hid (qpush_any (t : Int) w2 (hm2.qs n (Nat.le_refl _)))
  have HM2 := Lib.hid hm2
  clear hb hr hm2
  generalize hqn : Q n = qn at *
  go_wp2_with fail
  refine HP.out.mono ?_
  rintro e w3 ⟨rfl, hq3⟩
  rw [← hqn] at hq3
  obtain ⟨V3, hm3, ht3, hf3⟩ := HM2.out.qstep (Nat.le_refl n) hq3
  have hJt : updF J n (pushL (J n) (limQ n n) t) t = J t := updF_ne _ _ (by omega)
  have HP4 := Lib.hid (qpush_any x w3 (hm3.qs t (by omega)))
  rw [hJt, show limQ n t = 1099511627776 from if_neg (by omega), HE.out] at HP4
  have d0 := (hm3.ten.cells ht).1
  have c0 := hm3.cells.1
  have HM3 := Lib.hid hm3
  have HTF := Lib.hid (And.intro ht3 hf3)
  have HL : Hid (limQ n n = (n : Int)) := Lib.hid (if_pos rfl)
  have HLT : Hid (limQ n t = 1099511627776) := Lib.hid (if_neg (by omega))
  clear hm3 ht3 hf3 hq3 hJt HP
  unfold ptrQ at d0
  generalize hqt : Q t = qt at *
  go_wp2_with fail
  refine HP4.out.mono ?_
  rintro e w4 ⟨rfl, hq4⟩
  rw [← hqt] at hq4
  have HD : Hid (DStep w1 w4 B s g n Q V q c (updF (updF J n (pushL (J n) n t)) t (pushL (J t) 1099511627776 x))) := Lib.hid (by
    have h4 := HM3.out.qstep (i := t) (by omega) (by rw [HLT.out]; exact hq4)
    have h5 := DStep.comp HTF.out.1 HTF.out.2 h4
    rw [HL.out] at h5
    exact DStep.comp HT2.out (fun k hk => Or.inl hk) h5)
  clear hq4
  go_wp2_with fail
  go_ret
  exact ⟨rfl, HD.out⟩
/-- What drop leaves. -/
def dropC (c : Nat → Int) (J : Nat → List Int) (t : Nat) (x : Int) : Nat → Int := if DrrM.without (J t) x = [] then updF c t 0 else c
def dropJ (n : Nat) (J : Nat → List Int) (t : Nat) (x : Int) : Nat → List Int := if DrrM.without (J t) x = [] then updF (updF J t []) n (DrrM.without (J n) t) else updF J t (DrrM.without (J t) x)
set_option maxHeartbeats 2000000 in
theorem ddrop_any (t : Nat) (x : Int) (w : World) (h : IsDm w B s g n Q V q c J) (ht : t < n) : Calls Try.prog 58 #[.pointer (some ⟨s, 0, none⟩), .int .i64 (t : Int), .int .i64 x] w fun e w' =>
    e = .returned (.tuple #[]) ∧ DStep w w' B s g n Q V q (dropC c J t x) (dropJ n J t x) := by
  have H := Lib.hid h
  obtain ⟨CF, hCF⟩ : ∃ CF, dropC c J t x = CF := ⟨_, rfl⟩
  obtain ⟨JF, hJF⟩ : ∃ JF, dropJ n J t x = JF := ⟨_, rfl⟩
  have HCJ : Hid (CF = dropC c J t x ∧ JF = dropJ n J t x) := Lib.hid ⟨hCF.symm, hJF.symm⟩
  rw [hCF, hJF]
  clear hCF hJF
  have h1 : (0 : Int) ≤ (t : Int) := by omega
  have h2 : (t : Int) < (n : Int) := by omega
  have c0 := h.cells.1
  have d0 := (h.ten.cells ht).1
  have HP := Lib.hid (qremove_any x w (h.qs t (by omega)))
  clear h
  unfold ptrQ at d0
  have htn : t ≠ n := by omega
  generalize hqt : Q t = qt at *
  generalize hE : remE (J t) x = E at *
  go_enter Try.func58, Try.ntmps58
  go_wp2_with fail
  refine HP.out.mono ?_
  rintro e w1 ⟨rfl, hq1⟩
  rw [← hqt] at hq1
  obtain ⟨V1, hm1, ht1, hf1⟩ := H.out.qstep (i := t) (by omega) hq1
  have HL1 := Lib.hid (qlen_any w1 (hm1.qs t (by omega)))
  rw [updF_same] at HL1
  obtain ⟨e0, e1, e2⟩ := hm1.ten.cells ht
  have f2 := hm1.ten.frozen (t * 3 + 2)
  have c1 := hm1.cells.2
  have HM1 := Lib.hid hm1
  have HTF := Lib.hid (And.intro ht1 hf1)
  clear hm1 ht1 hf1 hq1 HP d0 c0
  unfold ptrQ at e0
  rw [hqt] at HL1
  simp only [hqt] at e0
  by_cases hz : DrrM.without (J t) x = []
  · have HCJ2 : Hid (CF = updF c t 0 ∧ JF = updF (updF J t []) n (DrrM.without (J n) t)) := Lib.hid (by
      obtain ⟨e1, e2⟩ := HCJ.out
      unfold dropC at e1
      unfold dropJ at e2
      rw [if_pos hz] at e1 e2
      exact ⟨e1, e2⟩)
    rw [hz] at HL1 HM1
    have hl0 : (([] : List Int).length : Int) = 0 := rfl
    obtain ⟨w2, hw2⟩ : ∃ w2, w1.setCell ⟨g, t * 3 + 2, none⟩ (.int .i64 0) = w2 := ⟨_, rfl⟩
    obtain ⟨V2, hm2, ht2, hf2⟩ := HM1.out.setC ht 0
    rw [hw2] at hm2 ht2
    have k1 := hm2.cells.2
    have HP2 := Lib.hid (qremove_any (t : Int) w2 (hm2.qs n (Nat.le_refl _)))
    rw [updF_ne _ _ (fun e => htn e.symm)] at HP2
    have HM2 := Lib.hid hm2
    have HTF2 := Lib.hid (And.intro ht2 hf2)
    clear hm2 ht2 hf2 hz
    generalize hqn : Q n = qn at *
    generalize hE2 : remE (J n) (t : Int) = E2 at *
    go_wp2_with fail
    refine HL1.out.mono ?_
    rintro e w3 ⟨rfl, hw3⟩
    obtain rfl := hw3.symm
    rw [hl0]
    go_wp2_with fail
    refine HP2.out.mono ?_
    rintro e w4 ⟨rfl, hq4⟩
    rw [← hqn] at hq4
    have HD : Hid (DStep w w4 B s g n Q V q CF JF) := Lib.hid (by
      rw [HCJ2.out.1, HCJ2.out.2]
      have h4 := HM2.out.qstep (Nat.le_refl n) hq4
      exact DStep.comp HTF.out.1 HTF.out.2 (DStep.comp HTF2.out.1 HTF2.out.2 h4))
    clear hq4
    go_wp2_with fail
    first | (refine bodyPost_end (results_none rfl _ _ _) rfl ?_) | (refine bodyPost_ret (results_none rfl _ _ _) rfl ?_)
    exact ⟨rfl, HD.out⟩
  · have HCJ2 : Hid (CF = c ∧ JF = updF J t (DrrM.without (J t) x)) := Lib.hid (by
      obtain ⟨e1, e2⟩ := HCJ.out
      unfold dropC at e1
      unfold dropJ at e2
      rw [if_neg hz] at e1 e2
      exact ⟨e1, e2⟩)
    have hl0 : (((DrrM.without (J t) x).length : Int) == 0) = false := by
      rw [beq_eq_false_iff_ne]
      intro e
      exact hz (List.eq_nil_of_length_eq_zero (by omega))
    have HD : Hid (DStep w w1 B s g n Q V q CF JF) := Lib.hid (by rw [HCJ2.out.1, HCJ2.out.2]; exact ⟨V1, HM1.out, HTF.out⟩)
    clear hz
    obtain ⟨L, hL⟩ : ∃ L : Nat, (DrrM.without (J t) x).length = L := ⟨_, rfl⟩
    rw [hL] at hl0 HL1
    clear hL
    go_wp2_with fail
    refine HL1.out.mono ?_
    rintro e w3 ⟨rfl, hw3⟩
    obtain rfl := hw3.symm
    go_wp2_with fail
    first | (refine bodyPost_end (results_none rfl _ _ _) rfl ?_) | (refine bodyPost_ret (results_none rfl _ _ _) rfl ?_)
    exact ⟨rfl, HD.out⟩
set_option maxHeartbeats 1000000 in
theorem drem_nil (x : Int) (w : World) : Calls Try.prog 37 #[.pointer none, .int .i64 x] w fun e w' => e = .returned (.int .i64 7) ∧ w' = w := by
  have HC := Lib.hid (dcount_nil w)
  go_enter Try.func37, Try.ntmps37
  go_wp2_with fail
  refine HC.out.mono ?_
  rintro e w1 ⟨rfl, rfl⟩
  go_wp2_with fail
  go_ret
  exact ⟨rfl, rfl⟩
set_option maxHeartbeats 1000000 in
theorem drem_none (x : Int) (w : World) (h : IsDm w B s g n Q V q c J) (hn : 1 ≤ n ∧ n ≤ 1000) (hx : ∀ i, i < n → x ∉ J i) : Calls Try.prog 37 #[.pointer (some ⟨s, 0, none⟩), .int .i64 x] w fun e w' => e = .returned (.int .i64 6) ∧ Below w.heap.size w w' := by
  have HC := Lib.hid (dcount_any w h)
  have HO := Lib.hid (downer_any x w h hn.2)
  have h0 : ((n : Int) == 0) = false := by rw [beq_eq_false_iff_ne]; omega
  have HX := Lib.hid hx
  clear h hx
  go_enter Try.func37, Try.ntmps37
  go_wp2_with fail
  refine HC.out.mono ?_
  rintro e w1 ⟨rfl, rfl⟩
  go_wp2_with fail
  refine HO.out.mono ?_
  rintro e w2 ⟨r, rfl, hr, hb⟩
  have HB := Lib.hid hb
  have hr0 : r < 0 := by
    rcases hr with ⟨u, hu, _, hxu, _⟩ | ⟨rfl, _⟩
    · exact absurd hxu (HX.out u hu)
    · omega
  clear hb hr
  go_wp2_with fail
  go_ret
  exact ⟨rfl, HB.out⟩
set_option maxHeartbeats 1000000 in
theorem drem_any (t : Nat) (x : Int) (w : World) (h : IsDm w B s g n Q V q c J) (hn : n ≤ 1000) (ht : t < n) (hx : x ∈ J t ∧ ∀ u, u < t → x ∉ J u) : Calls Try.prog 37 #[.pointer (some ⟨s, 0, none⟩), .int .i64 x] w fun e w' =>
    e = .returned (.int .i64 0) ∧ DStep w w' B s g n Q V q (dropC c J t x) (dropJ n J t x) := by
  have HC := Lib.hid (dcount_any w h)
  have HO := Lib.hid (downer_any x w h hn)
  have h0 : ((n : Int) == 0) = false := by rw [beq_eq_false_iff_ne]; omega
  have HX := Lib.hid hx
  have H := Lib.hid h
  have k0 : ¬ (t : Int) < 0 := by omega
  clear h hx
  go_enter Try.func37, Try.ntmps37
  go_wp2_with fail
  refine HC.out.mono ?_
  rintro e w1 ⟨rfl, rfl⟩
  go_wp2_with fail
  refine HO.out.mono ?_
  rintro e w2 ⟨r, rfl, hr, hb⟩
  have HB := Lib.hid hb
  have hrt : r = (t : Int) := by
    rcases hr with ⟨u, hu, rfl, hxu, hlt⟩ | ⟨_, hno⟩
    · have h1 : ¬ u < t := fun e => HX.out.2 u e hxu
      have h2 : ¬ t < u := fun e => hlt t e HX.out.1
      omega
    · exact absurd HX.out.1 (hno t ht)
  subst hrt
  have HD := Lib.hid (ddrop_any t x w2 (H.out.far hb) ht)
  clear hb hr
  go_wp2_with fail
  refine HD.out.mono ?_
  rintro e w3 ⟨rfl, h3⟩
  have H3 := Lib.hid (DStep.comp (Touch.ofBelow (S := dfoot s g n Q V) HB.out) (fun k hk => Or.inl hk) h3)
  clear h3
  go_wp2_with fail
  go_ret
  exact ⟨rfl, H3.out⟩
end
end Go.Proofs.Ytgdgjalfabffcaa
