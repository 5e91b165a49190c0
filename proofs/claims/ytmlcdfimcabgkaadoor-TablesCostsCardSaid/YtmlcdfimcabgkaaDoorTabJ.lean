/-
  LAYER 12's CODE AND THE DOCUMENT's ANSWER: Same; the statement TablesSame.
-/
import Derived.Test.YtmlcdfimcabgkaaDoorTabI
namespace Go.Proofs.YtmlcdfimcabgkaaDoor
open Go.RowKit TabM FreqM HufM
set_option linter.unusedVariables false
/-- A choice's two rows, small enough to be held against others. -/
def ChIs (w : World) (vL vP : Value) (gs : List (List Int)) (ps : List Int) : Prop := IsRR w vL gs ∧ IsInts w vP ps ∧ gs.length ≤ 1000000 ∧ (∀ x ∈ gs, x.length ≤ 9223372036854775807) ∧ ps.length ≤ 9223372036854775807
theorem ChIs.below {w w' : World} {vL vP : Value} {gs : List (List Int)} {ps : List Int} (h : ChIs w vL vP gs ps) (hb : Below w.heap.size w w') : ChIs w' vL vP gs ps := ⟨h.1.below hb, h.2.1.below hb, h.2.2⟩
theorem ChIs.shape {w : World} {vL vP : Value} {gs : List (List Int)} {ps : List Int} (h : ChIs w vL vP gs ps) : (∃ a c, vL = .slice a gs.length c) ∧ (∃ a c, vP = .slice a ps.length c) := by
  obtain ⟨⟨a, c, h1, _⟩, ⟨b, d, h2, _⟩, _⟩ := h
  exact ⟨⟨a, c, h1⟩, ⟨b, d, h2⟩⟩
set_option maxRecDepth 100000 in
set_option maxHeartbeats 2000000 in
theorem same12_any (vL vP uL uP : Value) (gs hs : List (List Int)) (ps qs : List Int) (r : Bool) (w : World) (h1 : ChIs w vL vP gs ps) (h2 : ChIs w uL uP hs qs) (hr : r = true ↔ gs = hs ∧ ps = qs) :
    Calls Tryd.prog 19 #[.agg #[vL, vP], .agg #[uL, uP]] w fun e w' => e = .returned (.bool r) ∧ Below w.heap.size w w' := by
  obtain ⟨⟨aL, cL, hvL⟩, ⟨aP, cP, hvP⟩⟩ := h1.shape
  obtain ⟨⟨bL, dL, huL⟩, ⟨bP, dP, huP⟩⟩ := h2.shape
  obtain ⟨M1, hM1⟩ : ∃ M, gs.length = M := ⟨_, rfl⟩
  obtain ⟨M2, hM2⟩ : ∃ M, ps.length = M := ⟨_, rfl⟩
  obtain ⟨M3, hM3⟩ : ∃ M, hs.length = M := ⟨_, rfl⟩
  obtain ⟨M4, hM4⟩ : ∃ M, qs.length = M := ⟨_, rfl⟩
  rw [hM1] at hvL
  rw [hM2] at hvP
  rw [hM3] at huL
  rw [hM4] at huP
  subst hvL hvP huL huP
  have hb := ((Below.refl w.heap.size w).alloc (Nat.le_refl _) (.cells #[.slice aL M1 cL, .slice aP M2 cP] 35)).alloc (by simp) (.cells #[.slice bL M3 dL, .slice bP M4 dP] 35)
  have k1 := h1.below hb
  have k2 := h2.below hb
  have HB := Lib.hid hb
  have HR := Lib.hid hr
  clear hM1 hM2 hM3 hM4 hb h1 h2 hr
  by_cases hg : gs = hs
  · have HEF := Lib.hid (equalFunc_any _ _ gs hs true _ k1.1 k2.1 ⟨fun _ => hg, fun _ => rfl⟩ k1.2.2.1 k2.2.2.1 k1.2.2.2.1 k2.2.2.2.1)
    have HEQ := Lib.hid (fun m => equal_any (.slice aP M2 cP) (.slice bP M4 dP) ps qs r _ (k1.2.1.below (below_drewN _ m)) (k2.2.1.below (below_drewN _ m)) (HR.out.trans ⟨fun h => h.2, fun h => ⟨hg, h⟩⟩) k1.2.2.2.2 k2.2.2.2.2)
    clear k1 k2 hg
    go_enter Tryd.func19, Tryd.ntmps19
    go_wp2_with fail
    refine HEF.out.mono ?_
    rintro e w2 ⟨rfl, m, rfl⟩
    go_wp2_with fail
    refine (HEQ.out m).mono ?_
    rintro e w3 ⟨rfl, m3, rfl⟩
    go_wp2_with fail
    go_ret
    exact ⟨rfl, HB.out.trans ⟨rfl, rfl, rfl, Nat.le_refl _, fun _ _ => rfl⟩⟩
  · have HEF := Lib.hid (equalFunc_any _ _ gs hs false _ k1.1 k2.1 ⟨fun e => (by cases e), fun e => absurd e hg⟩ k1.2.2.1 k2.2.2.1 k1.2.2.2.1 k2.2.2.2.1)
    obtain rfl : r = false := by rw [Bool.eq_false_iff, Ne, HR.out]; exact fun h => hg h.1
    clear k1 k2 hg
    go_enter Tryd.func19, Tryd.ntmps19
    go_wp2_with fail
    refine HEF.out.mono ?_
    rintro e w2 ⟨rfl, m, rfl⟩
    go_wp2_with fail
    go_ret
    exact ⟨rfl, HB.out.trans ⟨rfl, rfl, rfl, Nat.le_refl _, fun _ _ => rfl⟩⟩
set_option maxRecDepth 100000 in
set_option maxHeartbeats 2000000 in
theorem rsame12_any (vL vP uL uP : Value) (gs hs : List (List Int)) (ps qs : List Int) (r : Bool) (w : World) (h1 : ChIs w vL vP gs ps) (h2 : ChIs w uL uP hs qs) (hr : r = true ↔ gs = hs ∧ ps = qs) :
    Calls Tryd.prog 20 #[.agg #[vL, vP], .agg #[uL, uP]] w fun e w' => e = .returned (.bool r) ∧ Below w.heap.size w w' := by
  obtain ⟨⟨aL, cL, hvL⟩, ⟨aP, cP, hvP⟩⟩ := h1.shape
  obtain ⟨⟨bL, dL, huL⟩, ⟨bP, dP, huP⟩⟩ := h2.shape
  obtain ⟨M1, hM1⟩ : ∃ M, gs.length = M := ⟨_, rfl⟩
  obtain ⟨M2, hM2⟩ : ∃ M, ps.length = M := ⟨_, rfl⟩
  obtain ⟨M3, hM3⟩ : ∃ M, hs.length = M := ⟨_, rfl⟩
  obtain ⟨M4, hM4⟩ : ∃ M, qs.length = M := ⟨_, rfl⟩
  rw [hM1] at hvL
  rw [hM2] at hvP
  rw [hM3] at huL
  rw [hM4] at huP
  subst hvL hvP huL huP
  have hb := ((Below.refl w.heap.size w).alloc (Nat.le_refl _) (.cells #[.slice aL M1 cL, .slice aP M2 cP] 41)).alloc (by simp) (.cells #[.slice bL M3 dL, .slice bP M4 dP] 41)
  have k1 := h1.below hb
  have k2 := h2.below hb
  have HB := Lib.hid hb
  have HR := Lib.hid hr
  clear hM1 hM2 hM3 hM4 hb h1 h2 hr
  by_cases hg : ps = qs
  · have HEF := Lib.hid (ints_any _ _ ps qs true _ k1.2.1 k2.2.1 ⟨fun _ => hg, fun _ => rfl⟩ k1.2.2.2.2 k2.2.2.2.2)
    have HEQ := Lib.hid (fun m => rows_any12 (.slice aL M1 cL) (.slice bL M3 dL) gs hs r _ (k1.1.below (below_drewN _ m)) (k2.1.below (below_drewN _ m)) (HR.out.trans ⟨fun h => h.1, fun h => ⟨h, hg⟩⟩) k1.2.2.1 k2.2.2.1 k1.2.2.2.1 k2.2.2.2.1)
    clear k1 k2 hg
    go_enter Tryd.func20, Tryd.ntmps20
    go_wp2_with fail
    refine HEF.out.mono ?_
    rintro e w2 ⟨rfl, m, rfl⟩
    go_wp2_with fail
    refine (HEQ.out m).mono ?_
    rintro e w3 ⟨rfl, m3, rfl⟩
    go_wp2_with fail
    go_ret
    exact ⟨rfl, HB.out.trans ⟨rfl, rfl, rfl, Nat.le_refl _, fun _ _ => rfl⟩⟩
  · have HEF := Lib.hid (ints_any _ _ ps qs false _ k1.2.1 k2.2.1 ⟨fun e => (by cases e), fun e => absurd e hg⟩ k1.2.2.2.2 k2.2.2.2.2)
    obtain rfl : r = false := by rw [Bool.eq_false_iff, Ne, HR.out]; exact fun h => hg h.2
    clear k1 k2 hg
    go_enter Tryd.func20, Tryd.ntmps20
    go_wp2_with fail
    refine HEF.out.mono ?_
    rintro e w2 ⟨rfl, m, rfl⟩
    go_wp2_with fail
    go_ret
    exact ⟨rfl, HB.out.trans ⟨rfl, rfl, rfl, Nat.le_refl _, fun _ _ => rfl⟩⟩
theorem info_rch : (Tryd.prog.info? 41).map (·.size) = some 2 := by kernel_rfl
set_option maxRecDepth 100000 in
set_option maxHeartbeats 2000000 in
theorem ref12_any (a b : Option Addr) (m n c d : Nat) (w : World) :
    Calls Tryd.prog 21 #[.agg #[.slice a m c, .slice b n d]] w fun e w' => e = .returned (.agg #[.slice a m c, .slice b n d]) ∧ Below w.heap.size w w' := by
  have s1 : (w.alloc (.cells #[.slice a m c, .slice b n d] 35)).heap.size = w.heap.size + 1 := by simp
  have hg := heap_alloc_new (w.alloc (.cells #[.slice a m c, .slice b n d] 35)) (.cells #[.slice none 0 0, .slice none 0 0] 41)
  rw [s1] at hg
  have HB := Lib.hid (((Below.refl w.heap.size w).alloc (Nat.le_refl _) (.cells #[.slice a m c, .slice b n d] 35)).alloc (by rw [s1]; omega) (.cells #[.slice none 0 0, .slice none 0 0] 41))
  have hi := info_rch
  have hu := Tryd.underlying41
  clear s1
  go_enter Tryd.func21, Tryd.ntmps21
  go_wp2_with (refine wpList_store_row rfl 41 _ _ rfl (w.heap.size + 1) #[.slice a m c, .slice b n d] rfl rfl 41 _ hg hi rfl (ch_all _ _ _ _ _ _) ?_)
  refine bodyPost_ret (v := .agg #[.slice a m c, .slice b n d]) (results_cell_row rfl _ _ (w.heap.size + 1) 41 _ (0, 0) _ rfl (setRow_heap _ _ _ _ _ _ hg) hu rfl hi) rfl ⟨rfl, below_setRow HB.out (by omega) _⟩
end Go.Proofs.YtmlcdfimcabgkaaDoor
