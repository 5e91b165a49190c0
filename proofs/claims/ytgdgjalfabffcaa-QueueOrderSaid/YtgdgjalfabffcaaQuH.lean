/-
  LAYER 29's STATEMENTS: an act, by the document and by the program; the example.
-/
import Derived.Test.YtgdgjalfabffcaaQuG
namespace Go.Proofs.Ytgdgjalfabffcaa
open Go.ChangeShapes Go.WideShapes Go.ChangeAt Go.RowKit Go.Deep
set_option linter.unusedVariables false
set_option linter.unusedSimpArgs false
def actL (lim K Z : Int) (zs : List Int) : List Int := if K = 0 then pushL zs lim Z else if K = 1 then popL zs else if K = 2 then DrrM.without zs Z else if K = 3 then DrrM.rotated zs else zs
def actN (K : Int) (zs : List Int) : Int := if K = 0 then 0 else if K = 1 then frontN zs else if K = 2 then 0 else if K = 3 then 0 else frontN zs
def actE (lim K Z : Int) (zs : List Int) : Int := if K = 0 then pushE zs lim Z else if K = 1 then frontE zs else if K = 2 then remE zs Z else if K = 3 then 0 else frontE zs
theorem StepL.made {w w2 : World} {v : Value} {zs : List Int} {G l c : Nat} {a : Option Addr} {n err : Int} (hG : w.heap.size ≤ G) (hb : Below w.heap.size w w2) (hI : IsL w2 (.slice a l c) zs)
    (ho : ∀ k, (Value.slice a l c).ownBlock = some k → k ≠ G ∧ (v.ownBlock = some k ∨ w.heap.size ≤ k)) : StepL w (w2.setRow G (st3 a l c n err)) v zs n err (.returned (.agg (st3 a l c n err))) :=
  ⟨a, l, c, rfl, hI.same (by simp [World.setRow]) (fun k hk => setRow_other _ _ k _ (ho k hk).1), below_setRow hb hG _, fun k hk => (ho k hk).2⟩
/-- What stands when an act begins: its box, the box of its answer. -/
theorem actbox (w : World) (K Z : Int) {v : Value} {zs : List Int} (hI : IsL w v zs) : ∃ w1, (w.alloc (.cells #[.int .i64 K, .int .i64 Z] 30)).alloc (.cells #[.slice none 0 0, .int .i64 0, .int .i64 0] 32) = w1 ∧
    w1.heap[w.heap.size + 1]? = some (.cells (st3 none 0 0 0 0) 32 (0, 0)) ∧ w1.heap.size = w.heap.size + 2 ∧ Below w.heap.size w w1 ∧ w1.cell? ⟨w.heap.size, 0, none⟩ = some (.int .i64 K) ∧ w1.cell? ⟨w.heap.size, 1, none⟩ = some (.int .i64 Z) ∧ IsL w1 v zs := by
  have hb : Below w.heap.size w ((w.alloc (.cells #[.int .i64 K, .int .i64 Z] 30)).alloc (.cells #[.slice none 0 0, .int .i64 0, .int .i64 0] 32)) := ((Below.refl _ _).alloc (Nat.le_refl _) _).alloc (by simp) _
  have e := heap_alloc_new (w.alloc (.cells #[.int .i64 K, .int .i64 Z] 30)) (.cells #[.slice none 0 0, .int .i64 0, .int .i64 0] 32)
  have e0 : ((w.alloc (.cells #[.int .i64 K, .int .i64 Z] 30)).alloc (.cells #[.slice none 0 0, .int .i64 0, .int .i64 0] 32)).heap[w.heap.size]? = some (.cells #[.int .i64 K, .int .i64 Z] 30 (0, 0)) :=
    (Below.heap_alloc _ _ _ (by simp)).trans (heap_alloc_new _ _)
  refine ⟨_, rfl, by rw [show (w.alloc (.cells #[.int .i64 K, .int .i64 Z] 30)).heap.size = w.heap.size + 1 by simp] at e; exact e, by simp, hb, by rw [cell_of_row _ _ 0 _ _ _ e0]; rfl, by rw [cell_of_row _ _ 1 _ _ _ e0]; rfl, hI.below hb⟩
set_option maxRecDepth 100000 in
set_option maxHeartbeats 4000000 in
theorem ract29_any (v : Value) (zs : List Int) (lim K Z : Int) (w : World) (hI : IsL w v zs) (hnd : zs.Nodup) (hn : zs.length ≤ 1000000) :
    Calls Try.prog 13 #[v, .int .i64 lim, .agg #[.int .i64 K, .int .i64 Z]] w fun e w' => StepL w w' v (actL lim K Z zs) (actN K zs) (actE lim K Z zs) e := by
  obtain ⟨w1, hw1, hx1, hs1, hb1, cK, cZ, hI1⟩ := actbox w K Z hI
  have HO := Lib.hid hI.lt
  clear hI
  obtain ⟨G0, hG0⟩ : ∃ G, w.heap.size = G := ⟨_, rfl⟩
  obtain ⟨G, hG⟩ : ∃ G, w.heap.size + 1 = G := ⟨_, rfl⟩
  have HG : Hid (w.heap.size ≤ G ∧ w1.heap.size = G + 1 ∧ w.heap.size = G0 ∧ G = G0 + 1) := Lib.hid ⟨by omega, by omega, by omega, by omega⟩
  have HX := Lib.hid hx1
  rw [hG] at HX
  rw [hG0] at cK cZ
  have HB1 := Lib.hid hb1
  have HI1 := Lib.hid hI1
  have HW1 := Lib.hid hw1
  have HND := Lib.hid hnd
  have hG1 : G0 + 1 = G := by omega
  clear hx1 hs1 hb1 hnd hG
  unfold actL actN actE
  by_cases k0 : K = 0
  · subst k0
    rw [if_pos rfl, if_pos rfl, if_pos rfl]
    have HP := Lib.hid (rplace_any v zs Z w1 hI1.ints (by omega))
    have hpm := DrrM.place_mem zs Z
    obtain ⟨a, cap, hv⟩ := hI1.shape
    clear hI1
    obtain ⟨R, hR⟩ : ∃ R, DrrM.place zs Z = R := ⟨_, rfl⟩
    rw [hR] at HP hpm
    clear hR
    by_cases hm : Z ∈ zs
    · have hr : R ≥ 0 := hpm.2 hm
      unfold pushL pushE
      rw [if_pos hm, if_pos hm]
      have HR : Hid ((w1.setRow G (st3 a zs.length cap 0 8)).heap[G]? = some (.cells (st3 a zs.length cap 0 8) 32 (0, 0))) := Lib.hid (setRow_heap _ _ _ _ _ _ HX.out)
      have HE : Hid (StepL w (w1.setRow G (st3 a zs.length cap 0 8)) v zs 0 8 (.returned (.agg (st3 a zs.length cap 0 8)))) := Lib.hid (StepL.made HG.out.1 HB1.out (by rw [← hv]; exact HI1.out) (fun k hk => by
        rw [← hv] at hk
        have := HO.out k hk
        have := HG.out
        exact ⟨by omega, Or.inl hk⟩))
      clear hm hpm
      subst hv
      go_enter Try.func13, Try.ntmps13
      go_wp2_with fail
      refine HP.out.mono ?_
      rintro e w2 ⟨rfl, rfl⟩
      go_wp2_with (refine wpList_store_row rfl 32 _ _ rfl G (st3 a zs.length cap 0 8) rfl rfl 32 _ HX.out info_st rfl (st3_all _ _ _ _ _) ?_)
      refine bodyPost_ret (v := .agg (st3 a zs.length cap 0 8)) (results_cell_row rfl _ _ G 32 _ (0, 0) _ rfl HR.out Try.underlying32 rfl info_st) rfl ?_
      exact HE.out
    · have hr : ¬ R ≥ 0 := fun h => hm (hpm.1 h)
      by_cases hf : (zs.length : Int) = lim
      · have hb : ((zs.length : Int) == lim) = true := by rw [beq_iff_eq]; exact hf
        unfold pushL pushE
        rw [if_neg hm, if_neg hm, if_pos hf, if_pos hf]
        have HR : Hid ((w1.setRow G (st3 a zs.length cap 0 5)).heap[G]? = some (.cells (st3 a zs.length cap 0 5) 32 (0, 0))) := Lib.hid (setRow_heap _ _ _ _ _ _ HX.out)
        have HE : Hid (StepL w (w1.setRow G (st3 a zs.length cap 0 5)) v zs 0 5 (.returned (.agg (st3 a zs.length cap 0 5)))) := Lib.hid (StepL.made HG.out.1 HB1.out (by rw [← hv]; exact HI1.out) (fun k hk => by
          rw [← hv] at hk
          have := HO.out k hk
          have := HG.out
          exact ⟨by omega, Or.inl hk⟩))
        clear hm hpm hf
        subst hv
        go_enter Try.func13, Try.ntmps13
        go_wp2_with fail
        refine HP.out.mono ?_
        rintro e w2 ⟨rfl, rfl⟩
        go_wp2_with (refine wpList_store_row rfl 32 _ _ rfl G (st3 a zs.length cap 0 5) rfl rfl 32 _ HX.out info_st rfl (st3_all _ _ _ _ _) ?_)
        refine bodyPost_ret (v := .agg (st3 a zs.length cap 0 5)) (results_cell_row rfl _ _ G 32 _ (0, 0) _ rfl HR.out Try.underlying32 rfl info_st) rfl ?_
        exact HE.out
      · have hb : ((zs.length : Int) == lim) = false := by rw [beq_eq_false_iff_ne]; exact hf
        unfold pushL pushE
        rw [if_neg hm, if_neg hm, if_neg hf, if_neg hf]
        have HT := Lib.hid (rwith_any v zs Z w1 HI1.out hn)
        clear hm hpm hf
        subst hv
        go_enter Try.func13, Try.ntmps13
        go_wp2_with fail
        refine HP.out.mono ?_
        rintro e w2 ⟨rfl, rfl⟩
        go_wp2_with fail
        refine HT.out.mono ?_
        rintro e w3 ⟨u, rfl, ho2, hb2⟩
        obtain ⟨a2, c2, hu⟩ := slice_of_own ho2
        obtain ⟨l2, hl2⟩ : ∃ l2, (zs ++ [Z]).length = l2 := ⟨_, rfl⟩
        rw [hl2] at hu
        clear hl2
        subst hu
        have HX2 : Hid (w3.heap[G]? = some (.cells (st3 none 0 0 0 0) 32 (0, 0))) := Lib.hid ((hb2.block G (by have := HG.out; omega)).trans HX.out)
        have HR : Hid ((w3.setRow G (st3 a2 l2 c2 0 0)).heap[G]? = some (.cells (st3 a2 l2 c2 0 0) 32 (0, 0))) := Lib.hid (setRow_heap _ _ _ _ _ _ HX2.out)
        have HE : Hid (StepL w (w3.setRow G (st3 a2 l2 c2 0 0)) (.slice a zs.length cap) (zs ++ [Z]) 0 0 (.returned (.agg (st3 a2 l2 c2 0 0)))) := Lib.hid (StepL.made HG.out.1 (HB1.out.trans (hb2.mono (by have := HG.out; omega))) ho2.isL (fun k hk => by
          have := (ho2.lt k hk).1
          have := HG.out
          exact ⟨by omega, Or.inr (by omega)⟩))
        clear ho2 hb2
        go_wp2_with (refine wpList_store_row rfl 32 _ _ rfl G (st3 a2 l2 c2 0 0) rfl rfl 32 _ HX2.out info_st rfl (st3_all _ _ _ _ _) ?_)
        refine bodyPost_ret (v := .agg (st3 a2 l2 c2 0 0)) (results_cell_row rfl _ _ G 32 _ (0, 0) _ rfl HR.out Try.underlying32 rfl info_st) rfl ?_
        exact HE.out
  · have j0 : (K == 0) = false := by rw [beq_eq_false_iff_ne]; exact k0
    rw [if_neg k0, if_neg k0, if_neg k0]
    by_cases k1 : K = 1
    · subst k1
      rw [if_pos rfl, if_pos rfl, if_pos rfl]
      have HF := Lib.hid (rfirst29_any v zs w1 HI1.out)
      obtain ⟨a, cap, hv⟩ := hI1.shape
      clear hI1 j0 k0
      have HTF : Hid (∀ W Z2, Below w1.heap.size w1 W → Calls Try.prog 40 #[v, .int .i64 Z2] W fun e w' => NewL W w' (DrrM.without zs Z2) e) := Lib.hid (fun W Z2 hW => rwithout_any v zs Z2 W ((HI1.out.below hW).ints) hn)
      have hu1 : Try.prog.underlying 32 = _ := Try.underlying32
      have HVO : Hid (∀ k, v.ownBlock = some k → k < w.heap.size) := HO
      have HN3 : Hid (zs.length ≤ 1000000) := Lib.hid hn
      cases zs with
      | nil =>
        subst hv
        go_enter Try.func13, Try.ntmps13
        go_wp2_with fail
        refine HF.out.mono ?_
        rintro e w2 ⟨a2, l2, c2, rfl, hi2, hb2, ho2⟩
        rw [show st3 a2 l2 c2 (frontN []) (frontE []) = #[.slice a2 l2 c2, .int .i64 0, .int .i64 6] from rfl]
        obtain ⟨G2, hG2⟩ : ∃ G2, w2.heap.size = G2 := ⟨_, rfl⟩
        obtain ⟨w3, hw3⟩ : ∃ w3, w2.alloc (.cells #[.slice a2 l2 c2, .int .i64 0, .int .i64 6] 32) = w3 := ⟨_, rfl⟩
        have hr3 : w3.heap[G2]? = some (.cells (st3 a2 l2 c2 0 6) 32 (0, 0)) := by rw [← hw3, ← hG2]; exact heap_alloc_new _ _
        have HR3 := Lib.hid hr3
        have d2 : w3.cell? ⟨G2, 2, none⟩ = some (.int .i64 6) := by rw [cell_of_row _ _ 2 _ _ _ hr3]; rfl
        have hb3 : Below w2.heap.size w2 w3 := by rw [← hw3]; exact (Below.refl _ _).alloc (Nat.le_refl _) _
        have hsz := hb2.size
        have HX3 : Hid (w3.heap[G]? = some (.cells (st3 none 0 0 0 0) 32 (0, 0))) := Lib.hid ((hb3.block G (by have := HG.out; omega)).trans ((hb2.block G (by have := HG.out; omega)).trans HX.out))
        have HR : Hid ((w3.setRow G (st3 a2 l2 c2 0 6)).heap[G]? = some (.cells (st3 a2 l2 c2 0 6) 32 (0, 0))) := Lib.hid (setRow_heap _ _ _ _ _ _ HX3.out)
        have HE : Hid (StepL w (w3.setRow G (st3 a2 l2 c2 0 6)) (.slice a ([] : List Int).length cap) [] 0 6 (.returned (.agg (st3 a2 l2 c2 0 6)))) := Lib.hid (StepL.made HG.out.1 (HB1.out.trans ((hb2.mono (by have := HG.out; omega)).trans (hb3.mono (by have := HG.out; omega)))) (hi2.below hb3) (fun k hk => by
          have := HG.out
          rcases ho2 k hk with h | h
          · have := HVO.out k h
            exact ⟨by omega, Or.inl h⟩
          · exact ⟨by omega, Or.inr (by omega)⟩))
        clear hi2 hb2 ho2 hb3 hr3 hsz
        go_wp2_with (first | (refine wpList_load_row rfl 32 _ rfl G2 rfl 32 (st3 a2 l2 c2 0 6) (0, 0) _ HR3.out hu1 rfl info_st ?_) | (refine wpList_store_row rfl 32 _ _ rfl G (st3 a2 l2 c2 0 6) rfl rfl 32 _ HX3.out info_st rfl (st3_all _ _ _ _ _) ?_))
        refine bodyPost_ret (v := .agg (st3 a2 l2 c2 0 6)) (results_cell_row rfl _ _ G 32 _ (0, 0) _ rfl HR.out Try.underlying32 rfl info_st) rfl ?_
        exact HE.out
      | cons x zs =>
        have HWF : Hid (DrrM.without (x :: zs) x = zs) := Lib.hid (DrrM.without_front HND.out)
        obtain ⟨M, hM⟩ : ∃ M, (x :: zs).length = M := ⟨_, rfl⟩
        rw [hM] at hv
        clear hM
        subst hv
        go_enter Try.func13, Try.ntmps13
        go_wp2_with fail
        refine HF.out.mono ?_
        rintro e w2 ⟨a2, l2, c2, rfl, hi2, hb2, ho2⟩
        obtain ⟨z, hz⟩ : ∃ z : Int, z = 0 := ⟨0, rfl⟩
        rw [show st3 a2 l2 c2 (frontN (x :: zs)) (frontE (x :: zs)) = #[.slice a2 l2 c2, .int .i64 x, .int .i64 z] from by rw [hz]; rfl]
        have HZ := Lib.hid hz
        have hzb : (z == 0) = true := by rw [beq_iff_eq]; exact hz
        clear hz
        obtain ⟨G2, hG2⟩ : ∃ G2, w2.heap.size = G2 := ⟨_, rfl⟩
        obtain ⟨w3, hw3⟩ : ∃ w3, w2.alloc (.cells #[.slice a2 l2 c2, .int .i64 x, .int .i64 z] 32) = w3 := ⟨_, rfl⟩
        have hr3 : w3.heap[G2]? = some (.cells (st3 a2 l2 c2 x z) 32 (0, 0)) := by rw [← hw3, ← hG2]; exact heap_alloc_new _ _
        have HR3 := Lib.hid hr3
        have d2 : w3.cell? ⟨G2, 2, none⟩ = some (.int .i64 z) := by rw [cell_of_row _ _ 2 _ _ _ hr3]; rfl
        have d1 : w3.cell? ⟨G2, 1, none⟩ = some (.int .i64 x) := by rw [cell_of_row _ _ 1 _ _ _ hr3]; rfl
        have hb3 : Below w2.heap.size w2 w3 := by rw [← hw3]; exact (Below.refl _ _).alloc (Nat.le_refl _) _
        have hsz := hb2.size
        have hs3 : w3.heap.size = G2 + 1 := by rw [← hw3, ← hG2]; simp
        have HB3 : Hid (Below w1.heap.size w1 w3 ∧ w3.heap.size = G2 + 1 ∧ w1.heap.size ≤ G2) := Lib.hid ⟨hb2.trans (hb3.mono hsz), hs3, by omega⟩
        have HX3 : Hid (w3.heap[G]? = some (.cells (st3 none 0 0 0 0) 32 (0, 0))) := Lib.hid ((hb3.block G (by have := HG.out; omega)).trans ((hb2.block G (by have := HG.out; omega)).trans HX.out))
        have HT := Lib.hid (HTF.out w3 x HB3.out.1)
        rw [HWF.out] at HT
        clear hi2 hb2 ho2 hb3 hr3 hsz hs3 HTF
        go_wp2_with fail
        refine HT.out.mono ?_
        rintro e w4 ⟨u, rfl, ho4, hb4⟩
        obtain ⟨a4, c4, hu4⟩ := slice_of_own ho4
        obtain ⟨l4, hl4⟩ : ∃ l4, zs.length = l4 := ⟨_, rfl⟩
        rw [hl4] at hu4
        clear hl4
        subst hu4
        obtain ⟨w5, hw5⟩ : ∃ w5, w4.setCell ⟨G2, 0, none⟩ (.slice a4 l4 c4) = w5 := ⟨_, rfl⟩
        have hg4 : w4.heap[G2]? = some (.cells (st3 a2 l2 c2 x z) 32 (0, 0)) := (hb4.block G2 (by have := HB3.out; omega)).trans HR3.out
        have e0 : w4.cell? ⟨G2, 0, none⟩ = some (.slice a2 l2 c2) := by rw [cell_of_row _ _ 0 _ _ _ hg4]; rfl
        have f0 : w4.frozen? ⟨G2, 0, none⟩ = false := frozen_of_row _ _ _ _ _ hg4
        have hr5 : w5.heap[G2]? = some (.cells (st3 a4 l4 c4 x z) 32 (0, 0)) := by
          rw [← hw5]
          have := heap_setCell_same w4 G2 0 _ _ (.slice a4 l4 c4) hg4
          rw [this]
          rfl
        have HR5 := Lib.hid hr5
        have hX5 : w5.heap[G]? = some (.cells (st3 none 0 0 0 0) 32 (0, 0)) := by
          rw [← hw5, heap_setCell_other w4 _ G _ (by show G ≠ G2; have := HB3.out; have := HG.out; omega)]
          exact (hb4.block G (by have := HB3.out; have := HG.out; omega)).trans HX3.out
        have HX5 := Lib.hid hX5
        have HR : Hid ((w5.setRow G (st3 a4 l4 c4 x z)).heap[G]? = some (.cells (st3 a4 l4 c4 x z) 32 (0, 0))) := Lib.hid (setRow_heap _ _ _ _ _ _ HX5.out)
        have hb5 : Below w.heap.size w w5 := by
          have h1 : Below w.heap.size w w4 := HB1.out.trans ((HB3.out.1.mono (by have := HG.out; omega)).trans (hb4.mono (by have := HG.out; have := HB3.out; omega)))
          rw [← hw5]
          exact h1.setCell (by show w.heap.size ≤ G2; have := HG.out; have := HB3.out; omega) _
        have hi5 : IsL w5 (.slice a4 l4 c4) zs := ho4.isL.same (by rw [← hw5]; simp [World.setCell]) (fun k hk => by
          rw [← hw5]
          exact heap_setCell_other w4 _ k _ (by show k ≠ G2; have := (ho4.lt k hk).1; have := HB3.out; omega))
        have HE : Hid (StepL w (w5.setRow G (st3 a4 l4 c4 x z)) (.slice a M cap) zs x 0 (.returned (.agg (st3 a4 l4 c4 x z)))) := Lib.hid (by rw [HZ.out]; exact StepL.made HG.out.1 hb5 hi5 (fun k hk => by
          have := HG.out
          have := HB3.out
          have := (ho4.lt k hk).1
          exact ⟨by omega, Or.inr (by omega)⟩))
        clear ho4 hb4 hg4 hr5 hX5 hb5 hi5 hw3
        go_wp2_with (first | (refine wpList_load_row rfl 32 _ rfl G2 rfl 32 (st3 a4 l4 c4 x z) (0, 0) _ HR5.out hu1 rfl info_st ?_) | (refine wpList_store_row rfl 32 _ _ rfl G (st3 a4 l4 c4 x z) rfl rfl 32 _ HX5.out info_st rfl (st3_all _ _ _ _ _) ?_))
        refine bodyPost_ret (v := .agg (st3 a4 l4 c4 x z)) (results_cell_row rfl _ _ G 32 _ (0, 0) _ rfl HR.out Try.underlying32 rfl info_st) rfl ?_
        exact HE.out
    · have j1 : (K == 1) = false := by rw [beq_eq_false_iff_ne]; exact k1
      rw [if_neg k1, if_neg k1, if_neg k1]
      by_cases k2 : K = 2
      · subst k2
        rw [if_pos rfl, if_pos rfl, if_pos rfl]
        clear j0 k0 j1 k1
        have HP := Lib.hid (rplace_any v zs Z w1 hI1.ints (by omega))
        have hpm := DrrM.place_mem zs Z
        have HT := Lib.hid (rwithout_any v zs Z w1 hI1.ints hn)
        obtain ⟨a, cap, hv⟩ := hI1.shape
        clear hI1
        obtain ⟨R, hR⟩ : ∃ R, DrrM.place zs Z = R := ⟨_, rfl⟩
        rw [hR] at HP hpm
        clear hR
        unfold remE
        by_cases hm : Z ∈ zs
        · have hr : ¬ R < 0 := by have := hpm.2 hm; omega
          rw [if_pos hm]
          clear hm hpm
          subst hv
          go_enter Try.func13, Try.ntmps13
          go_wp2_with fail
          refine HP.out.mono ?_
          rintro e w2 ⟨rfl, rfl⟩
          go_wp2_with fail
          refine HT.out.mono ?_
          rintro e w3 ⟨u, rfl, ho2, hb2⟩
          obtain ⟨a2, c2, hu⟩ := slice_of_own ho2
          obtain ⟨l2, hl2⟩ : ∃ l2, (DrrM.without zs Z).length = l2 := ⟨_, rfl⟩
          rw [hl2] at hu
          clear hl2
          subst hu
          have HX2 : Hid (w3.heap[G]? = some (.cells (st3 none 0 0 0 0) 32 (0, 0))) := Lib.hid ((hb2.block G (by have := HG.out; omega)).trans HX.out)
          have HR : Hid ((w3.setRow G (st3 a2 l2 c2 0 0)).heap[G]? = some (.cells (st3 a2 l2 c2 0 0) 32 (0, 0))) := Lib.hid (setRow_heap _ _ _ _ _ _ HX2.out)
          have HE : Hid (StepL w (w3.setRow G (st3 a2 l2 c2 0 0)) (.slice a zs.length cap) (DrrM.without zs Z) 0 0 (.returned (.agg (st3 a2 l2 c2 0 0)))) := Lib.hid (StepL.made HG.out.1 (HB1.out.trans (hb2.mono (by have := HG.out; omega))) ho2.isL (fun k hk => by
            have := (ho2.lt k hk).1
            have := HG.out
            exact ⟨by omega, Or.inr (by omega)⟩))
          clear ho2 hb2
          go_wp2_with (refine wpList_store_row rfl 32 _ _ rfl G (st3 a2 l2 c2 0 0) rfl rfl 32 _ HX2.out info_st rfl (st3_all _ _ _ _ _) ?_)
          refine bodyPost_ret (v := .agg (st3 a2 l2 c2 0 0)) (results_cell_row rfl _ _ G 32 _ (0, 0) _ rfl HR.out Try.underlying32 rfl info_st) rfl ?_
          exact HE.out
        · have hr : R < 0 := by have := mt hpm.1 hm; omega
          rw [if_neg hm, without_none hm]
          have HR : Hid ((w1.setRow G (st3 a zs.length cap 0 6)).heap[G]? = some (.cells (st3 a zs.length cap 0 6) 32 (0, 0))) := Lib.hid (setRow_heap _ _ _ _ _ _ HX.out)
          have HE : Hid (StepL w (w1.setRow G (st3 a zs.length cap 0 6)) v zs 0 6 (.returned (.agg (st3 a zs.length cap 0 6)))) := Lib.hid (StepL.made HG.out.1 HB1.out (by rw [← hv]; exact HI1.out) (fun k hk => by
            rw [← hv] at hk
            have := HO.out k hk
            have := HG.out
            exact ⟨by omega, Or.inl hk⟩))
          clear hm hpm
          subst hv
          go_enter Try.func13, Try.ntmps13
          go_wp2_with fail
          refine HP.out.mono ?_
          rintro e w2 ⟨rfl, rfl⟩
          go_wp2_with (refine wpList_store_row rfl 32 _ _ rfl G (st3 a zs.length cap 0 6) rfl rfl 32 _ HX.out info_st rfl (st3_all _ _ _ _ _) ?_)
          refine bodyPost_ret (v := .agg (st3 a zs.length cap 0 6)) (results_cell_row rfl _ _ G 32 _ (0, 0) _ rfl HR.out Try.underlying32 rfl info_st) rfl ?_
          exact HE.out
      · have j2 : (K == 2) = false := by rw [beq_eq_false_iff_ne]; exact k2
        rw [if_neg k2, if_neg k2, if_neg k2]
        by_cases k3 : K = 3
        · subst k3
          rw [if_pos rfl, if_pos rfl, if_pos rfl]
          clear j0 k0 j1 k1 j2 k2
          have HT := Lib.hid (rrotated_any v zs w1 HI1.out hn)
          obtain ⟨a, cap, hv⟩ := hI1.shape
          clear hI1
          subst hv
          go_enter Try.func13, Try.ntmps13
          go_wp2_with fail
          refine HT.out.mono ?_
          rintro e w3 ⟨u, rfl, ho2, hb2⟩
          obtain ⟨a2, c2, hu⟩ := slice_of_own ho2
          obtain ⟨l2, hl2⟩ : ∃ l2, (DrrM.rotated zs).length = l2 := ⟨_, rfl⟩
          rw [hl2] at hu
          clear hl2
          subst hu
          have HX2 : Hid (w3.heap[G]? = some (.cells (st3 none 0 0 0 0) 32 (0, 0))) := Lib.hid ((hb2.block G (by have := HG.out; omega)).trans HX.out)
          have HR : Hid ((w3.setRow G (st3 a2 l2 c2 0 0)).heap[G]? = some (.cells (st3 a2 l2 c2 0 0) 32 (0, 0))) := Lib.hid (setRow_heap _ _ _ _ _ _ HX2.out)
          have HE : Hid (StepL w (w3.setRow G (st3 a2 l2 c2 0 0)) (.slice a zs.length cap) (DrrM.rotated zs) 0 0 (.returned (.agg (st3 a2 l2 c2 0 0)))) := Lib.hid (StepL.made HG.out.1 (HB1.out.trans (hb2.mono (by have := HG.out; omega))) ho2.isL (fun k hk => by
            have := (ho2.lt k hk).1
            have := HG.out
            exact ⟨by omega, Or.inr (by omega)⟩))
          clear ho2 hb2
          go_wp2_with (refine wpList_store_row rfl 32 _ _ rfl G (st3 a2 l2 c2 0 0) rfl rfl 32 _ HX2.out info_st rfl (st3_all _ _ _ _ _) ?_)
          refine bodyPost_ret (v := .agg (st3 a2 l2 c2 0 0)) (results_cell_row rfl _ _ G 32 _ (0, 0) _ rfl HR.out Try.underlying32 rfl info_st) rfl ?_
          exact HE.out
        · have j3 : (K == 3) = false := by rw [beq_eq_false_iff_ne]; exact k3
          rw [if_neg k3, if_neg k3, if_neg k3]
          have HF := Lib.hid (rfirst29_any v zs w1 HI1.out)
          obtain ⟨a, cap, hv⟩ := hI1.shape
          clear hI1 k0 k1 k2 k3
          generalize frontN zs = n at *
          generalize frontE zs = er at *
          subst hv
          go_enter Try.func13, Try.ntmps13
          go_wp2_with fail
          refine HF.out.mono ?_
          rintro e w2 ⟨a2, l2, c2, rfl, hi2, hb2, ho2⟩
          have HX2 : Hid (w2.heap[G]? = some (.cells (st3 none 0 0 0 0) 32 (0, 0))) := Lib.hid ((hb2.block G (by have := HG.out; omega)).trans HX.out)
          have HR : Hid ((w2.setRow G (st3 a2 l2 c2 n er)).heap[G]? = some (.cells (st3 a2 l2 c2 n er) 32 (0, 0))) := Lib.hid (setRow_heap _ _ _ _ _ _ HX2.out)
          have HE : Hid (StepL w (w2.setRow G (st3 a2 l2 c2 n er)) (.slice a zs.length cap) zs n er (.returned (.agg (st3 a2 l2 c2 n er)))) := Lib.hid (StepL.made HG.out.1 (HB1.out.trans (hb2.mono (by have := HG.out; omega))) hi2 (fun k hk => by
            have := HG.out
            rcases ho2 k hk with h | h
            · have := HO.out k h
              exact ⟨by omega, Or.inl h⟩
            · exact ⟨by omega, Or.inr (by omega)⟩))
          clear hi2 hb2 ho2
          go_wp2_with (refine wpList_store_row rfl 32 _ _ rfl G (st3 a2 l2 c2 n er) rfl rfl 32 _ HX2.out info_st rfl (st3_all _ _ _ _ _) ?_)
          refine bodyPost_ret (v := .agg (st3 a2 l2 c2 n er)) (results_cell_row rfl _ _ G 32 _ (0, 0) _ rfl HR.out Try.underlying32 rfl info_st) rfl ?_
          exact HE.out
end Go.Proofs.Ytgdgjalfabffcaa
