/-
  THE WALKS OF LAYER 12's CODE (package tables): Cost.
-/
import Derived.Test.YtmlcdfimcabgkaaDoorTabF
namespace Go.Proofs.YtmlcdfimcabgkaaDoor
open Go.RowKit TabM FreqM HufM
set_option linter.unusedVariables false
/-- The pick of group i is a table's number, and the group has a cost by it. -/
def PkOk (zs : List Int) (rows : List (List Int)) (ps : List Int) (i : Nat) : Prop := 0 ≤ ps.getD i 0 ∧ ps.getD i 0 < (rows.length : Int) ∧ CostOk (grp zs i) (rw_ rows (ps.getD i 0).toNat)
def CostsOk (zs : List Int) (rows : List (List Int)) (ps : List Int) : Prop := ps.length = ng zs.length ∧ ∀ i, i < ps.length → PkOk zs rows ps i
def gc (zs : List Int) (rows : List (List Int)) (ps : List Int) (i : Nat) : Int := cap (costS (grp zs i) (rw_ rows (ps.getD i 0).toNat))
def tcC (zs : List Int) (rows : List (List Int)) (ps : List Int) : Nat → Int
  | 0 => 0
  | k + 1 => cap (tcC zs rows ps k + gc zs rows ps k)
theorem costS_nn12 {g ls : List Int} (h : CostOk g ls) : 0 ≤ costS g ls := by
  unfold costS
  refine sumF_nn _ (fun y hy => ?_)
  obtain ⟨x, hx, rfl⟩ := List.mem_map.1 hy
  have h1 := h.1 x hx
  exact (h.2 _ (FreqM.getD_mem ls x.toNat (by omega))).1
theorem gc_bd {zs : List Int} {rows : List (List Int)} {ps : List Int} {i : Nat} (h : PkOk zs rows ps i) : 0 ≤ gc zs rows ps i ∧ gc zs rows ps i ≤ 1099511627776 :=
  ⟨cap_nn _ (costS_nn12 h.2.2), cap_le _⟩
theorem tcC_bd {zs : List Int} {rows : List (List Int)} {ps : List Int} : ∀ {k : Nat}, (∀ i, i < k → PkOk zs rows ps i) → 0 ≤ tcC zs rows ps k ∧ tcC zs rows ps k ≤ 1099511627776
  | 0, _ => ⟨Int.le_refl _, by show (0 : Int) ≤ _; omega⟩
  | k + 1, h => by
    have h1 := tcC_bd (k := k) (fun i hi => h i (by omega))
    have h2 := gc_bd (h k (by omega))
    exact ⟨cap_nn _ (by omega), cap_le _⟩
def CostsP (zs : List Int) (rows : List (List Int)) (ps : List Int) (n : Int) (err : Int) : Prop := (CostsOk zs rows ps ∧ n = tcC zs rows ps ps.length ∧ err = 0) ∨ (¬ CostsOk zs rows ps ∧ n = 0 ∧ err = 1)
set_option maxRecDepth 100000 in
set_option maxHeartbeats 8000000 in
theorem cost12_any (a : Option Addr) (len c : Nat) (zs : List Int) (vL vP : Value) (rows : List (List Int)) (ps : List Int) (w : World) (hI : IsInts w (.slice a len c) zs) (hlen : zs.length = len) (hz : len ≤ 1000) (hc : len ≤ c) (hc2 : c ≤ 9223372036854775807)
    (hL : IsRR w vL rows) (hP : IsInts w vP ps) (hrl : rows.length ≤ 1000) (hrr : ∀ r ∈ rows, r.length ≤ 1000000) (hpl : ps.length ≤ 1000) :
    Calls Tryd.prog 23 #[.slice a len c, .agg #[vL, vP]] w fun e w' => ∃ n err : Int, e = .returned (.tuple #[.int .i64 n, .int .i64 err]) ∧ CostsP zs rows ps n err ∧ Below w.heap.size w w' := by
  have HLEN := Lib.hid hlen
  have HGR : Hid (∀ W, Calls Tryd.prog 34 #[.int .i64 (len : Int)] W fun e w' => e = .returned (.int .i64 (ng len : Int)) ∧ w' = W) := Lib.hid (fun W => (groups_any (len : Int) W (by omega) (by omega)).mono (fun e w' h => ⟨by rw [h.1, gn_nat], h.2.symm⟩))
  have HRR := Lib.hid hrr
  obtain ⟨Q, hQ⟩ : ∃ Q, ng len = Q := ⟨_, rfl⟩
  have HQ := Lib.hid hQ
  rw [hQ] at HGR
  obtain ⟨H, hH⟩ : ∃ H, w.heap.size = H := ⟨_, rfl⟩
  have HH := Lib.hid hH
  have hB1 := (Below.refl w.heap.size w).alloc (Nat.le_refl _) (.cells #[vL, vP] 35)
  have hg1 := heap_alloc_new w (.cells #[vL, vP] 35)
  rw [hH] at hg1
  have HI1 := Lib.hid (hI.below hB1)
  have HL1 := Lib.hid (hL.below hB1)
  have HP1 := Lib.hid (hP.below hB1)
  have HB1 := Lib.hid hB1
  have HG1 := Lib.hid hg1
  obtain ⟨aL, cL, rfl, _⟩ := hL
  obtain ⟨aP, cP, rfl, _⟩ := hP
  obtain ⟨T, hT⟩ : ∃ T, rows.length = T := ⟨_, rfl⟩
  obtain ⟨M, hM⟩ : ∃ M, ps.length = M := ⟨_, rfl⟩
  have HT := Lib.hid hT
  have HM := Lib.hid hM
  rw [hT] at HL1 HG1 HI1 HP1 HB1 hrl ⊢
  rw [hM] at HL1 HG1 HI1 HP1 HB1 hpl ⊢
  have c0 : (w.alloc (.cells #[.slice aL T cL, .slice aP M cP] 35)).cell? ⟨H, 0, none⟩ = some (.slice aL T cL) := by rw [cell_of_row _ _ _ _ _ _ HG1.out]; rfl
  have c1 : (w.alloc (.cells #[.slice aL T cL, .slice aP M cP] 35)).cell? ⟨H, 1, none⟩ = some (.slice aP M cP) := by rw [cell_of_row _ _ _ _ _ _ HG1.out]; rfl
  clear hI hB1 hg1 hlen hQ hT hM hrr
  by_cases hMQ : M = Q
  · have hne : ((M : Int) != (Q : Int)) = false := by rw [hMQ]; simp
    have HMQ := Lib.hid hMQ
    clear hMQ
    go_enter Tryd.func23, Tryd.ntmps23
    go_wp2_with fail
    clear hH
    generalize w.alloc (.cells #[.slice aL T cL, .slice aP M cP] 35) = w1 at *
    go_region_held3 (fun W => W.cell? ⟨H, 1, none⟩ = some (.slice aP M cP)) (go_keep) (first | (go_at_call 34; refine (HGR.out _).mono ?_; rintro e w' ⟨rfl, rfl⟩))
    go_wp2_with fail
    have HBD : Hid (Below H w w1) := Lib.hid (by rw [← HH.out]; exact HB1.out)
    have HS1 : Hid (H < w1.heap.size) := Lib.hid (Array.getElem?_eq_some_iff.1 HG1.out).1
    go_loopw [6, 23] (fun vt vk wr => ∃ (k : Nat), vk = .int .i64 (k : Int) ∧ k ≤ M ∧ vt = .int .i64 (tcC zs rows ps k) ∧ (∀ i, i < k → PkOk zs rows ps i) ∧ Below w1.heap.size w1 wr) (fun _ vk _ => M - (intOf vk).toNat)
    case atStart => exact ⟨0, rfl, by omega, rfl, fun i hi => by omega, ⟨rfl, rfl, rfl, Nat.le_refl _, fun _ _ => rfl⟩⟩
    case round =>
      clear c0 c1
      obtain ⟨k, rfl, hk, rfl, hall, hB⟩ := hrel
      have HALL := Lib.hid hall
      have HB := Lib.hid hB
      have hbd := tcC_bd hall
      have hg := (hB.block H HS1.out).trans HG1.out
      have c0 : wr.cell? ⟨H, 0, none⟩ = some (.slice aL T cL) := by rw [cell_of_row _ _ _ _ _ _ hg]; rfl
      have HLr := Lib.hid (HL1.out.below hB)
      have HIr := Lib.hid (HI1.out.below hB)
      have HBF : Hid (Below w.heap.size w wr) := Lib.hid (by rw [HH.out]; exact HBD.out.trans (hB.mono (by have := HS1.out; omega)))
      clear hall hB hg
      by_cases hkM : k < M
      · have hki : (k : Int) < (M : Int) := by omega
        obtain ⟨b1, o1, k1, he1, d1⟩ := (HP1.out.below HB.out).cell (show k < ps.length by rw [HM.out]; exact hkM)
        rw [HM.out] at he1
        simp only [Value.slice.injEq] at he1
        obtain ⟨rfl, he1b, rfl⟩ := he1
        clear he1b
        obtain ⟨x, hx⟩ : ∃ x, ps.getD k 0 = x := ⟨_, rfl⟩
        rw [hx] at d1
        have HX := Lib.hid hx
        clear hx
        by_cases hx0 : x < 0
        · have HNO : Hid (¬ CostsOk zs rows ps) := Lib.hid (fun h => by
            have := (h.2 k (by rw [HM.out]; exact hkM)).1
            rw [HX.out] at this
            omega)
          go_wp2_with fail
          go_ret2
          exact ⟨0, 1, rfl, Or.inr ⟨HNO.out, rfl, rfl⟩, HBF.out⟩
        · by_cases hxT : (T : Int) ≤ x
          · have HNO : Hid (¬ CostsOk zs rows ps) := Lib.hid (fun h => by
              have := (h.2 k (by rw [HM.out]; exact hkM)).2.1
              rw [HX.out, HT.out] at this
              omega)
            go_wp2_with fail
            go_ret2
            exact ⟨0, 1, rfl, Or.inr ⟨HNO.out, rfl, rfl⟩, HBF.out⟩
          · obtain ⟨p, rfl⟩ : ∃ p : Nat, x = (p : Int) := ⟨x.toNat, by omega⟩
            have hpT : p < T := by omega
            have hpTi : (p : Int) < (T : Int) := by omega
            have HGK := Lib.hid (groupK_any a len c zs k wr HIr.out HLEN.out (by omega) hc hc2 (by rw [HQ.out, ← HMQ.out]; exact hkM))
            go_wp2_with fail
            refine HGK.out.mono ?_
            rintro e w4 ⟨vg, rfl, hO4, hB4⟩
            have hI4 := hO4.ints
            obtain ⟨b2, o2, cap2, u, he2, d2, hI5⟩ := (HLr.out.below hB4).at_ (show p < rows.length by rw [HT.out]; exact hpT)
            rw [HT.out] at he2
            simp only [Value.slice.injEq] at he2
            obtain ⟨rfl, he2b, rfl⟩ := he2
            clear he2b
            have HCO := Lib.hid (cost_any vg u (grp zs k) (rw_ rows p) w4 hI4 hI5 (by rw [grp_len]; omega) (by
              unfold rw_
              rw [List.getD_eq_getElem?_getD, List.getElem?_eq_getElem (show p < rows.length by rw [HT.out]; exact hpT)]
              exact HRR.out _ (List.getElem_mem _)))
            have HB4 : Hid (Below w1.heap.size w1 w4) := Lib.hid (HB.out.trans (hB4.mono HB.out.size))
            have HBF4 : Hid (Below w.heap.size w w4) := Lib.hid (HBF.out.trans (hB4.mono HBF.out.size))
            have c0' : w4.cell? ⟨H, 0, none⟩ = some (.slice (some ⟨b2, o2, none⟩) T cL) := (hB4.cell (p := ⟨H, 0, none⟩) (cell_lt c0)).trans c0
            have HPKI : Hid (CostOk (grp zs k) (rw_ rows p) → PkOk zs rows ps k ∧ gc zs rows ps k = cap (costS (grp zs k) (rw_ rows p))) := Lib.hid (fun h => by
              unfold PkOk gc
              rw [HX.out]
              exact ⟨⟨by omega, by rw [HT.out]; omega, h⟩, rfl⟩)
            have HPKN : Hid (¬ CostOk (grp zs k) (rw_ rows p) → ¬ CostsOk zs rows ps) := Lib.hid (fun h h2 => by
              have h3 := (h2.2 k (by rw [HM.out]; exact hkM)).2.2
              rw [HX.out] at h3
              exact h h3)
            clear c0 hO4 hB4 hI4 hI5 HGK
            go_wp2_with fail
            refine HCO.out.mono ?_
            rintro e w5 ⟨n, err, rfl, rfl, hcp⟩
            rcases hcp with ⟨hno, rfl, rfl⟩ | ⟨hok, hn, rfl⟩
            · have HNO := Lib.hid (HPKN.out hno)
              clear hno
              go_wp2_with fail
              go_ret2
              exact ⟨0, 1, rfl, Or.inr ⟨HNO.out, rfl, rfl⟩, HBF4.out⟩
            · obtain ⟨hpk, hgc⟩ := HPKI.out hok
              have hgb := gc_bd hpk
              rw [hgc, ← hn] at hgb
              have HNX : Hid (tcC zs rows ps (k + 1) = cap (tcC zs rows ps k + n)) := Lib.hid (by rw [tcC, hgc, hn])
              have HAL2 : Hid (∀ i, i < k + 1 → PkOk zs rows ps i) := Lib.hid (fun i hi => by
                by_cases e : i = k
                · rw [e]; exact hpk
                · exact HALL.out i (by omega))
              obtain ⟨tt, htt⟩ : ∃ tt, tcC zs rows ps k = tt := ⟨_, rfl⟩
              rw [htt] at HNX hbd ⊢
              clear hok hn hpk hgc htt
              by_cases hbig : 1099511627776 < tt + n
              · have HC2 : Hid (cap (tt + n) = 1099511627776) := Lib.hid (cap_hi _ hbig)
                go_wp2_with fail
                go_roundw
                case rel => exact ⟨k + 1, by go_num, by omega, by rw [HNX.out, HC2.out], HAL2.out, HB4.out⟩
                case measure => simp [intOf]; omega
              · have HC2 : Hid (cap (tt + n) = tt + n) := Lib.hid (cap_id _ (by omega))
                go_wp2_with fail
                go_roundw
                case rel => exact ⟨k + 1, by go_num, by omega, by rw [HNX.out, HC2.out], HAL2.out, HB4.out⟩
                case measure => simp [intOf]; omega
      · have hkM2 : k = M := by omega
        have hki : ¬ (k : Int) < (M : Int) := by omega
        have HOK : Hid (CostsOk zs rows ps) := Lib.hid ⟨by rw [HM.out, HLEN.out, HQ.out, HMQ.out], fun i hi => HALL.out i (by rw [HM.out] at hi; omega)⟩
        have HTC : Hid (tcC zs rows ps k = tcC zs rows ps ps.length) := Lib.hid (by rw [HM.out, hkM2])
        clear hkM2
        generalize tcC zs rows ps k = tt at *
        go_wp2_with fail
        go_ret2
        exact ⟨tt, 0, rfl, Or.inl ⟨HOK.out, HTC.out, rfl⟩, HBF.out⟩
  · have hne : ((M : Int) != (Q : Int)) = true := by rw [bne_iff_ne]; omega
    have HNO : Hid (¬ CostsOk zs rows ps) := Lib.hid (fun h => by have := h.1; rw [HM.out, HLEN.out, HQ.out] at this; exact hMQ this)
    clear hMQ
    go_enter Tryd.func23, Tryd.ntmps23
    go_wp2_with fail
    generalize w.alloc (.cells #[.slice aL T cL, .slice aP M cP] 35) = w1 at *
    go_region_held3 (fun W => W.cell? ⟨H, 1, none⟩ = some (.slice aP M cP)) (go_keep) (first | (go_at_call 34; refine (HGR.out _).mono ?_; rintro e w' ⟨rfl, rfl⟩))
    go_wp2_with fail
    go_ret2
    exact ⟨0, 1, rfl, Or.inr ⟨HNO.out, rfl, rfl⟩, HB1.out.trans ⟨rfl, rfl, rfl, Nat.le_refl _, fun _ _ => rfl⟩⟩
end Go.Proofs.YtmlcdfimcabgkaaDoor
