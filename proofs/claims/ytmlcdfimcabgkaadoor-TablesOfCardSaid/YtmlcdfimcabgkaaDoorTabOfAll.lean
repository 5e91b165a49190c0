/-
  MERGED by merge.py out of: TabI TabJ TabK TabM TabN TabO TabLawD.
-/
import Derived.Test.YtmlcdfimcabgkaaDoorTabH
import Derived.Shelf.Abstract
import Derived.Test.YtmlcdfimcabgkaaDoorTabLawA
import Derived.Test.YtmlcdfimcabgkaaDoorLenF
import Derived.Test.YtmlcdfimcabgkaaDoorFreqC
import Derived.Deep.Cut
import Derived.Test.YtmlcdfimcabgkaaDoorTabC
import Derived.Test.YtmlcdfimcabgkaaDoorLawKit
import Derived.Test.YtmlcdfimcabgkaaDoorFreqLawC
import Derived.Test.YtmlcdfimcabgkaaDoorTabF
import Derived.Test.YtmlcdfimcabgkaaDoorLenRefC
namespace Go.Proofs.YtmlcdfimcabgkaaDoor
open Go.RowKit TabM FreqM HufM
set_option linter.unusedVariables false
set_option maxRecDepth 100000 in
set_option maxHeartbeats 2000000 in
theorem equal_any (v u : Value) (zs ys : List Int) (r : Bool) (w : World) (hv : IsInts w v zs) (hu : IsInts w u ys) (hr : r = true ↔ zs = ys) (hz1 : zs.length ≤ 9223372036854775807) (hz2 : ys.length ≤ 9223372036854775807) :
    Calls Tryd.prog 37 #[v, u] w fun e w' => e = .returned (.bool r) ∧ ∃ n, w' = w.drewN n := by
  have HV := Lib.hid hv
  have HU := Lib.hid hu
  have HRR := Lib.hid hr
  obtain ⟨a1, cap1, rfl, _⟩ := hv
  obtain ⟨a2, cap2, rfl, _⟩ := hu
  clear hr
  by_cases hl : zs.length = ys.length
  · have hlb : ((zs.length : Int) != (ys.length : Int)) = false := by rw [hl]; simp
    obtain ⟨N, hN⟩ : ∃ N, zs.length = N := ⟨_, rfl⟩
    have HN := Lib.hid hN
    have HM : Hid (ys.length = N) := Lib.hid (by rw [← hl, hN])
    rw [HM.out] at hlb hz2 HU ⊢
    rw [HN.out] at hlb hz1 HV ⊢
    clear hl hN
    go_enter Tryd.func37, Tryd.ntmps37
    go_wp2_with fail
    go_loopw [13] (fun vi wr => ∃ k m : Nat, vi = .int .i64 (k : Int) ∧ k ≤ N ∧ wr = w.drewN m ∧ ∀ j, j < k → zs.getD j 0 = ys.getD j 0) (fun vi _ => N - (intOf vi).toNat)
    case atStart => exact ⟨0, 0, rfl, by omega, rfl, fun j hj => by omega⟩
    case round =>
      obtain ⟨k, m, rfl, hk, rfl, hA⟩ := hrel
      have HA := Lib.hid hA
      clear hA
      by_cases hkN : k < N
      · have hki : (k : Int) < (N : Int) := by omega
        obtain ⟨b1, o1, k1, he1, c1⟩ := HV.out.cell (show k < zs.length by rw [HN.out]; exact hkN)
        rw [HN.out] at he1
        simp only [Value.slice.injEq] at he1
        obtain ⟨rfl, he1b, rfl⟩ := he1
        obtain ⟨b2, o2, k2, he2, c2⟩ := HU.out.cell (show k < ys.length by rw [HM.out]; exact hkN)
        rw [HM.out] at he2
        simp only [Value.slice.injEq] at he2
        obtain ⟨rfl, he2b, rfl⟩ := he2
        clear he1b he2b
        obtain ⟨x, hx⟩ : ∃ x, zs.getD k 0 = x := ⟨_, rfl⟩
        obtain ⟨y, hy⟩ : ∃ y, ys.getD k 0 = y := ⟨_, rfl⟩
        rw [hx] at c1
        rw [hy] at c2
        have HX := Lib.hid hx
        have HY := Lib.hid hy
        clear hx hy
        by_cases hxy : x = y
        · have hb : (x != y) = false := by rw [hxy]; simp
          have HA2 : Hid (∀ j, j < k + 1 → zs.getD j 0 = ys.getD j 0) := Lib.hid (fun j hj => by
            by_cases e : j = k
            · rw [e, HX.out, HY.out, hxy]
            · exact HA.out j (by omega))
          clear hxy
          go_wp2_with fail
          go_quiet (fail)
          go_wp2_with fail
          go_roundw
          case rel => exact ⟨k + 1, _, by go_num, by omega, rfl, HA2.out⟩
          case measure => simp [intOf]; omega
        · have hb : (x != y) = true := by rw [bne_iff_ne]; exact hxy
          have hrf : r = false := by
            rw [Bool.eq_false_iff, Ne, HRR.out]
            intro h
            rw [h, HY.out] at HX
            exact hxy HX.out.symm
          subst hrf
          clear hxy
          go_wp2_with fail
          go_quiet (fail)
          go_wp2_with fail
          go_ret
          exact ⟨rfl, _, World.drewN_drewN ..⟩
      · have hki : ¬ (k : Int) < (N : Int) := by omega
        have hrt : r = true := by
          rw [HRR.out]
          apply List.ext_getElem
          · rw [HN.out, HM.out]
          · intro j h1 h2
            have := HA.out j (by rw [HN.out] at h1; omega)
            rw [List.getD_eq_getElem?_getD, List.getD_eq_getElem?_getD, List.getElem?_eq_getElem h1, List.getElem?_eq_getElem h2] at this
            exact this
        subst hrt
        go_wp2_with fail
        go_ret
        exact ⟨rfl, m, rfl⟩
  · have hlb : ((zs.length : Int) != (ys.length : Int)) = true := by rw [bne_iff_ne]; omega
    obtain rfl : r = false := by rw [Bool.eq_false_iff, Ne, HRR.out]; exact fun h => hl (by rw [h])
    clear hl
    go_enter Tryd.func37, Tryd.ntmps37
    go_wp2_with fail
    go_ret
    exact ⟨rfl, 0, rfl⟩
theorem rows_ext {gs hs : List (List Int)} (hl : gs.length = hs.length) (h : ∀ j, j < gs.length → rw_ gs j = rw_ hs j) : gs = hs := by
  apply List.ext_getElem hl
  intro j h1 h2
  have := h j h1
  unfold rw_ at this
  rw [List.getD_eq_getElem?_getD, List.getD_eq_getElem?_getD, List.getElem?_eq_getElem h1, List.getElem?_eq_getElem h2] at this
  exact this
set_option maxRecDepth 100000 in
set_option maxHeartbeats 2000000 in
theorem rows_any12 (v u : Value) (gs hs : List (List Int)) (r : Bool) (w : World) (hv : IsRR w v gs) (hu : IsRR w u hs) (hr : r = true ↔ gs = hs) (hz1 : gs.length ≤ 1000000) (hz2 : hs.length ≤ 1000000) (hg : ∀ x ∈ gs, x.length ≤ 9223372036854775807) (hh : ∀ x ∈ hs, x.length ≤ 9223372036854775807) :
    Calls Tryd.prog 14 #[v, u] w fun e w' => e = .returned (.bool r) ∧ ∃ n, w' = w.drewN n := by
  have HV := Lib.hid hv
  have HU := Lib.hid hu
  have HRR := Lib.hid hr
  have HLG : Hid (∀ k, k < gs.length → (rw_ gs k).length ≤ 9223372036854775807) := Lib.hid (fun k hk => hg _ (by unfold rw_; rw [List.getD_eq_getElem?_getD, List.getElem?_eq_getElem hk]; exact List.getElem_mem hk))
  have HLH : Hid (∀ k, k < hs.length → (rw_ hs k).length ≤ 9223372036854775807) := Lib.hid (fun k hk => hh _ (by unfold rw_; rw [List.getD_eq_getElem?_getD, List.getElem?_eq_getElem hk]; exact List.getElem_mem hk))
  obtain ⟨a1, cap1, rfl, _⟩ := hv
  obtain ⟨a2, cap2, rfl, _⟩ := hu
  clear hr hg hh
  by_cases hl : gs.length = hs.length
  · have hlb : ((gs.length : Int) != (hs.length : Int)) = false := by rw [hl]; simp
    obtain ⟨N, hN⟩ : ∃ N, gs.length = N := ⟨_, rfl⟩
    have HN := Lib.hid hN
    have HM : Hid (hs.length = N) := Lib.hid (by rw [← hl, hN])
    rw [HM.out] at hlb hz2 HU ⊢
    rw [HN.out] at hlb hz1 HV ⊢
    clear hl hN
    go_enter Tryd.func14, Tryd.ntmps14
    go_wp2_with fail
    go_loopw [13] (fun vi wr => ∃ k m : Nat, vi = .int .i64 (k : Int) ∧ k ≤ N ∧ wr = w.drewN m ∧ ∀ j, j < k → rw_ gs j = rw_ hs j) (fun vi _ => N - (intOf vi).toNat)
    case atStart => exact ⟨0, 0, rfl, by omega, rfl, fun j hj => by omega⟩
    case round =>
      obtain ⟨k, m, rfl, hk, rfl, hA⟩ := hrel
      have HA := Lib.hid hA
      clear hA
      by_cases hkN : k < N
      · have hki : (k : Int) < (N : Int) := by omega
        obtain ⟨b1, o1, k1, u1, he1, c1, i1⟩ := HV.out.at_ (show k < gs.length by rw [HN.out]; exact hkN)
        rw [HN.out] at he1
        simp only [Value.slice.injEq] at he1
        obtain ⟨rfl, he1b, rfl⟩ := he1
        obtain ⟨b2, o2, k2, u2, he2, c2, i2⟩ := HU.out.at_ (show k < hs.length by rw [HM.out]; exact hkN)
        rw [HM.out] at he2
        simp only [Value.slice.injEq] at he2
        obtain ⟨rfl, he2b, rfl⟩ := he2
        clear he1b he2b
        have hlg := HLG.out k (by rw [HN.out]; exact hkN)
        have hlh := HLH.out k (by rw [HM.out]; exact hkN)
        have HI1 := Lib.hid i1
        have HI2 := Lib.hid i2
        by_cases hxy : rw_ gs k = rw_ hs k
        · have HIN := Lib.hid (fun W (hb : Below w.heap.size w W) => ints_any u1 u2 _ _ true W (HI1.out.below hb) (HI2.out.below hb) ⟨fun _ => hxy, fun _ => rfl⟩ hlg hlh)
          have HA2 : Hid (∀ j, j < k + 1 → rw_ gs j = rw_ hs j) := Lib.hid (fun j hj => by
            by_cases e : j = k
            · rw [e, hxy]
            · exact HA.out j (by omega))
          clear hxy i1 i2
          go_wp2_with fail
          have c1' : (w.drewN m).cell? ⟨b1, o1 + k, none⟩ = some u1 := c1
          have c2' : (w.drewN m).cell? ⟨b2, o2 + k, none⟩ = some u2 := c2
          go_region_held3 (fun W => W.cell? ⟨b1, o1 + k, none⟩ = some u1 ∧ W.cell? ⟨b2, o2 + k, none⟩ = some u2) (first | exact ⟨c1, c2⟩ | go_keep) (first | (go_at_call 28; refine (HIN.out _ (by exact (below_drewN w m).drew)).mono ?_; rintro e w' ⟨rfl, n2, rfl⟩))
          go_wp2_with fail
          go_roundw
          case rel => exact ⟨k + 1, _, by go_num, by omega, rfl, HA2.out⟩
          case measure => simp [intOf]; omega
        · have HIN := Lib.hid (fun W (hb : Below w.heap.size w W) => ints_any u1 u2 _ _ false W (HI1.out.below hb) (HI2.out.below hb) ⟨fun e => (by cases e), fun e => absurd e hxy⟩ hlg hlh)
          have hrf : r = false := by
            rw [Bool.eq_false_iff, Ne, HRR.out]
            exact fun h => hxy (by rw [h])
          subst hrf
          clear hxy i1 i2
          go_wp2_with fail
          have c1' : (w.drewN m).cell? ⟨b1, o1 + k, none⟩ = some u1 := c1
          have c2' : (w.drewN m).cell? ⟨b2, o2 + k, none⟩ = some u2 := c2
          go_region_held3 (fun W => W.cell? ⟨b1, o1 + k, none⟩ = some u1 ∧ W.cell? ⟨b2, o2 + k, none⟩ = some u2) (first | exact ⟨c1, c2⟩ | go_keep) (first | (go_at_call 28; refine (HIN.out _ (by exact (below_drewN w m).drew)).mono ?_; rintro e w' ⟨rfl, n2, rfl⟩))
          go_wp2_with fail
          go_ret
          exact ⟨rfl, _, rfl⟩
      · have hki : ¬ (k : Int) < (N : Int) := by omega
        have hrt : r = true := by
          rw [HRR.out]
          exact rows_ext (by rw [HN.out, HM.out]) (fun j hj => HA.out j (by rw [HN.out] at hj; omega))
        subst hrt
        go_wp2_with fail
        go_ret
        exact ⟨rfl, m, rfl⟩
  · have hlb : ((gs.length : Int) != (hs.length : Int)) = true := by rw [bne_iff_ne]; omega
    obtain rfl : r = false := by rw [Bool.eq_false_iff, Ne, HRR.out]; exact fun h => hl (by rw [h])
    clear hl
    go_enter Tryd.func14, Tryd.ntmps14
    go_wp2_with fail
    go_ret
    exact ⟨rfl, 0, rfl⟩
set_option maxRecDepth 100000 in
set_option maxHeartbeats 2000000 in
theorem equalFunc_any (v u : Value) (gs hs : List (List Int)) (r : Bool) (w : World) (hv : IsRR w v gs) (hu : IsRR w u hs) (hr : r = true ↔ gs = hs) (hz1 : gs.length ≤ 1000000) (hz2 : hs.length ≤ 1000000) (hg : ∀ x ∈ gs, x.length ≤ 9223372036854775807) (hh : ∀ x ∈ hs, x.length ≤ 9223372036854775807) :
    Calls Tryd.prog 36 #[v, u, .func (.func 37) #[] #[]] w fun e w' => e = .returned (.bool r) ∧ ∃ n, w' = w.drewN n := by
  have HV := Lib.hid hv
  have HU := Lib.hid hu
  have HRR := Lib.hid hr
  have he : ∀ args w, (callFunc 37 args).run Tryd.prog w = .ok (.enter 37 args) w := enters_of Tryd.func37 (by kernel_rfl) rfl
  have HLG : Hid (∀ k, k < gs.length → (rw_ gs k).length ≤ 9223372036854775807) := Lib.hid (fun k hk => hg _ (by unfold rw_; rw [List.getD_eq_getElem?_getD, List.getElem?_eq_getElem hk]; exact List.getElem_mem hk))
  have HLH : Hid (∀ k, k < hs.length → (rw_ hs k).length ≤ 9223372036854775807) := Lib.hid (fun k hk => hh _ (by unfold rw_; rw [List.getD_eq_getElem?_getD, List.getElem?_eq_getElem hk]; exact List.getElem_mem hk))
  obtain ⟨a1, cap1, rfl, _⟩ := hv
  obtain ⟨a2, cap2, rfl, _⟩ := hu
  clear hr hg hh
  by_cases hl : gs.length = hs.length
  · have hlb : ((gs.length : Int) != (hs.length : Int)) = false := by rw [hl]; simp
    obtain ⟨N, hN⟩ : ∃ N, gs.length = N := ⟨_, rfl⟩
    have HN := Lib.hid hN
    have HM : Hid (hs.length = N) := Lib.hid (by rw [← hl, hN])
    rw [HM.out] at hlb hz2 HU ⊢
    rw [HN.out] at hlb hz1 HV ⊢
    clear hl hN
    go_enter Tryd.func36, Tryd.ntmps36
    go_wp2_with fail
    go_loopw [17] (fun vi wr => ∃ k m : Nat, vi = .int .i64 (k : Int) ∧ k ≤ N ∧ wr = w.drewN m ∧ ∀ j, j < k → rw_ gs j = rw_ hs j) (fun vi _ => N - (intOf vi).toNat)
    case atStart => exact ⟨0, 0, rfl, by omega, rfl, fun j hj => by omega⟩
    case round =>
      obtain ⟨k, m, rfl, hk, rfl, hA⟩ := hrel
      have HA := Lib.hid hA
      clear hA
      by_cases hkN : k < N
      · have hki : (k : Int) < (N : Int) := by omega
        obtain ⟨b1, o1, k1, u1, he1, c1, i1⟩ := (HV.out.below (below_drewN w m)).at_ (show k < gs.length by rw [HN.out]; exact hkN)
        rw [HN.out] at he1
        simp only [Value.slice.injEq] at he1
        obtain ⟨rfl, he1b, rfl⟩ := he1
        obtain ⟨b2, o2, k2, u2, he2, c2, i2⟩ := (HU.out.below (below_drewN w m)).at_ (show k < hs.length by rw [HM.out]; exact hkN)
        rw [HM.out] at he2
        simp only [Value.slice.injEq] at he2
        obtain ⟨rfl, he2b, rfl⟩ := he2
        clear he1b he2b
        have hlg := HLG.out k (by rw [HN.out]; exact hkN)
        have hlh := HLH.out k (by rw [HM.out]; exact hkN)
        by_cases hxy : rw_ gs k = rw_ hs k
        · have HIN := Lib.hid (equal_any u1 u2 _ _ true _ i1 i2 ⟨fun _ => hxy, fun _ => rfl⟩ hlg hlh)
          have HA2 : Hid (∀ j, j < k + 1 → rw_ gs j = rw_ hs j) := Lib.hid (fun j hj => by
            by_cases e : j = k
            · rw [e, hxy]
            · exact HA.out j (by omega))
          clear hxy i1 i2
          go_wp2_with fail
          refine HIN.out.mono ?_
          rintro e w2 ⟨rfl, n2, rfl⟩
          go_wp2_with fail
          go_roundw
          case rel => exact ⟨k + 1, _, by go_num, by omega, rfl, HA2.out⟩
          case measure => simp [intOf]; omega
        · have HIN := Lib.hid (equal_any u1 u2 _ _ false _ i1 i2 ⟨fun e => (by cases e), fun e => absurd e hxy⟩ hlg hlh)
          have hrf : r = false := by
            rw [Bool.eq_false_iff, Ne, HRR.out]
            exact fun h => hxy (by rw [h])
          subst hrf
          clear hxy i1 i2
          go_wp2_with fail
          refine HIN.out.mono ?_
          rintro e w2 ⟨rfl, n2, rfl⟩
          go_wp2_with fail
          go_ret
          exact ⟨rfl, _, rfl⟩
      · have hki : ¬ (k : Int) < (N : Int) := by omega
        have hrt : r = true := by
          rw [HRR.out]
          exact rows_ext (by rw [HN.out, HM.out]) (fun j hj => HA.out j (by rw [HN.out] at hj; omega))
        subst hrt
        go_wp2_with fail
        go_ret
        exact ⟨rfl, m, rfl⟩
  · have hlb : ((gs.length : Int) != (hs.length : Int)) = true := by rw [bne_iff_ne]; omega
    obtain rfl : r = false := by rw [Bool.eq_false_iff, Ne, HRR.out]; exact fun h => hl (by rw [h])
    clear hl
    go_enter Tryd.func36, Tryd.ntmps36
    go_wp2_with fail
    go_ret
    exact ⟨rfl, 0, rfl⟩
end Go.Proofs.YtmlcdfimcabgkaaDoor
namespace Go.Proofs.YtmlcdfimcabgkaaDoor
open Go.RowKit TabM FreqM HufM
set_option linter.unusedVariables false
/-- A choice's two rows, small enough to be held against others. -/
def ChIs (w : World) (vL vP : Value) (gs : List (List Int)) (ps : List Int) : Prop := IsRR w vL gs ∧ IsInts w vP ps ∧ gs.length ≤ 1000000 ∧ (∀ x ∈ gs, x.length ≤ 9223372036854775807) ∧ ps.length ≤ 9223372036854775807
theorem ChIs.below {w w' : World} {vL vP : Value} {gs : List (List Int)} {ps : List Int} (h : ChIs w vL vP gs ps) (hb : Below w.heap.size w w') : ChIs w' vL vP gs ps := ⟨h.1.below hb, h.2.1.below hb, h.2.2⟩
theorem ChIs.shape {w : World} {vL vP : Value} {gs : List (List Int)} {ps : List Int} (h : ChIs w vL vP gs ps) : (∃ a c, vL = .slice a gs.length c) ∧ (∃ a c, vP = .slice a ps.length c) := by
  obtain ⟨⟨a, c, h1, _⟩, ⟨b, d, h2, _⟩, _⟩ := h
  exact ⟨⟨a, c, h1⟩, ⟨b, d, h2⟩⟩
set_option maxRecDepth 100000 in
set_option maxHeartbeats 2000000 in
theorem same12_any (vL vP uL uP : Value) (gs hs : List (List Int)) (ps qs : List Int) (r : Bool) (w : World) (h1 : ChIs w vL vP gs ps) (h2 : ChIs w uL uP hs qs) (hr : r = true ↔ gs = hs ∧ ps = qs) :
    Calls Tryd.prog 19 #[.agg #[vL, vP], .agg #[uL, uP]] w fun e w' => e = .returned (.bool r) ∧ Below w.heap.size w w' := by
  obtain ⟨⟨aL, cL, hvL⟩, ⟨aP, cP, hvP⟩⟩ := h1.shape
  obtain ⟨⟨bL, dL, huL⟩, ⟨bP, dP, huP⟩⟩ := h2.shape
  obtain ⟨M1, hM1⟩ : ∃ M, gs.length = M := ⟨_, rfl⟩
  obtain ⟨M2, hM2⟩ : ∃ M, ps.length = M := ⟨_, rfl⟩
  obtain ⟨M3, hM3⟩ : ∃ M, hs.length = M := ⟨_, rfl⟩
  obtain ⟨M4, hM4⟩ : ∃ M, qs.length = M := ⟨_, rfl⟩
  rw [hM1] at hvL
  rw [hM2] at hvP
  rw [hM3] at huL
  rw [hM4] at huP
  subst hvL hvP huL huP
  have hb := ((Below.refl w.heap.size w).alloc (Nat.le_refl _) (.cells #[.slice aL M1 cL, .slice aP M2 cP] 35)).alloc (by simp) (.cells #[.slice bL M3 dL, .slice bP M4 dP] 35)
  have k1 := h1.below hb
  have k2 := h2.below hb
  have HB := Lib.hid hb
  have HR := Lib.hid hr
  clear hM1 hM2 hM3 hM4 hb h1 h2 hr
  by_cases hg : gs = hs
  · have HEF := Lib.hid (equalFunc_any _ _ gs hs true _ k1.1 k2.1 ⟨fun _ => hg, fun _ => rfl⟩ k1.2.2.1 k2.2.2.1 k1.2.2.2.1 k2.2.2.2.1)
    have HEQ := Lib.hid (fun m => equal_any (.slice aP M2 cP) (.slice bP M4 dP) ps qs r _ (k1.2.1.below (below_drewN _ m)) (k2.2.1.below (below_drewN _ m)) (HR.out.trans ⟨fun h => h.2, fun h => ⟨hg, h⟩⟩) k1.2.2.2.2 k2.2.2.2.2)
    clear k1 k2 hg
    go_enter Tryd.func19, Tryd.ntmps19
    go_wp2_with fail
    refine HEF.out.mono ?_
    rintro e w2 ⟨rfl, m, rfl⟩
    go_wp2_with fail
    refine (HEQ.out m).mono ?_
    rintro e w3 ⟨rfl, m3, rfl⟩
    go_wp2_with fail
    go_ret
    exact ⟨rfl, HB.out.trans ⟨rfl, rfl, rfl, Nat.le_refl _, fun _ _ => rfl⟩⟩
  · have HEF := Lib.hid (equalFunc_any _ _ gs hs false _ k1.1 k2.1 ⟨fun e => (by cases e), fun e => absurd e hg⟩ k1.2.2.1 k2.2.2.1 k1.2.2.2.1 k2.2.2.2.1)
    obtain rfl : r = false := by rw [Bool.eq_false_iff, Ne, HR.out]; exact fun h => hg h.1
    clear k1 k2 hg
    go_enter Tryd.func19, Tryd.ntmps19
    go_wp2_with fail
    refine HEF.out.mono ?_
    rintro e w2 ⟨rfl, m, rfl⟩
    go_wp2_with fail
    go_ret
    exact ⟨rfl, HB.out.trans ⟨rfl, rfl, rfl, Nat.le_refl _, fun _ _ => rfl⟩⟩
set_option maxRecDepth 100000 in
set_option maxHeartbeats 2000000 in
theorem rsame12_any (vL vP uL uP : Value) (gs hs : List (List Int)) (ps qs : List Int) (r : Bool) (w : World) (h1 : ChIs w vL vP gs ps) (h2 : ChIs w uL uP hs qs) (hr : r = true ↔ gs = hs ∧ ps = qs) :
    Calls Tryd.prog 20 #[.agg #[vL, vP], .agg #[uL, uP]] w fun e w' => e = .returned (.bool r) ∧ Below w.heap.size w w' := by
  obtain ⟨⟨aL, cL, hvL⟩, ⟨aP, cP, hvP⟩⟩ := h1.shape
  obtain ⟨⟨bL, dL, huL⟩, ⟨bP, dP, huP⟩⟩ := h2.shape
  obtain ⟨M1, hM1⟩ : ∃ M, gs.length = M := ⟨_, rfl⟩
  obtain ⟨M2, hM2⟩ : ∃ M, ps.length = M := ⟨_, rfl⟩
  obtain ⟨M3, hM3⟩ : ∃ M, hs.length = M := ⟨_, rfl⟩
  obtain ⟨M4, hM4⟩ : ∃ M, qs.length = M := ⟨_, rfl⟩
  rw [hM1] at hvL
  rw [hM2] at hvP
  rw [hM3] at huL
  rw [hM4] at huP
  subst hvL hvP huL huP
  have hb := ((Below.refl w.heap.size w).alloc (Nat.le_refl _) (.cells #[.slice aL M1 cL, .slice aP M2 cP] 41)).alloc (by simp) (.cells #[.slice bL M3 dL, .slice bP M4 dP] 41)
  have k1 := h1.below hb
  have k2 := h2.below hb
  have HB := Lib.hid hb
  have HR := Lib.hid hr
  clear hM1 hM2 hM3 hM4 hb h1 h2 hr
  by_cases hg : ps = qs
  · have HEF := Lib.hid (ints_any _ _ ps qs true _ k1.2.1 k2.2.1 ⟨fun _ => hg, fun _ => rfl⟩ k1.2.2.2.2 k2.2.2.2.2)
    have HEQ := Lib.hid (fun m => rows_any12 (.slice aL M1 cL) (.slice bL M3 dL) gs hs r _ (k1.1.below (below_drewN _ m)) (k2.1.below (below_drewN _ m)) (HR.out.trans ⟨fun h => h.1, fun h => ⟨h, hg⟩⟩) k1.2.2.1 k2.2.2.1 k1.2.2.2.1 k2.2.2.2.1)
    clear k1 k2 hg
    go_enter Tryd.func20, Tryd.ntmps20
    go_wp2_with fail
    refine HEF.out.mono ?_
    rintro e w2 ⟨rfl, m, rfl⟩
    go_wp2_with fail
    refine (HEQ.out m).mono ?_
    rintro e w3 ⟨rfl, m3, rfl⟩
    go_wp2_with fail
    go_ret
    exact ⟨rfl, HB.out.trans ⟨rfl, rfl, rfl, Nat.le_refl _, fun _ _ => rfl⟩⟩
  · have HEF := Lib.hid (ints_any _ _ ps qs false _ k1.2.1 k2.2.1 ⟨fun e => (by cases e), fun e => absurd e hg⟩ k1.2.2.2.2 k2.2.2.2.2)
    obtain rfl : r = false := by rw [Bool.eq_false_iff, Ne, HR.out]; exact fun h => hg h.2
    clear k1 k2 hg
    go_enter Tryd.func20, Tryd.ntmps20
    go_wp2_with fail
    refine HEF.out.mono ?_
    rintro e w2 ⟨rfl, m, rfl⟩
    go_wp2_with fail
    go_ret
    exact ⟨rfl, HB.out.trans ⟨rfl, rfl, rfl, Nat.le_refl _, fun _ _ => rfl⟩⟩
theorem info_rch : (Tryd.prog.info? 41).map (·.size) = some 2 := by kernel_rfl
set_option maxRecDepth 100000 in
set_option maxHeartbeats 2000000 in
theorem ref12_any (a b : Option Addr) (m n c d : Nat) (w : World) :
    Calls Tryd.prog 21 #[.agg #[.slice a m c, .slice b n d]] w fun e w' => e = .returned (.agg #[.slice a m c, .slice b n d]) ∧ Below w.heap.size w w' := by
  have s1 : (w.alloc (.cells #[.slice a m c, .slice b n d] 35)).heap.size = w.heap.size + 1 := by simp
  have hg := heap_alloc_new (w.alloc (.cells #[.slice a m c, .slice b n d] 35)) (.cells #[.slice none 0 0, .slice none 0 0] 41)
  rw [s1] at hg
  have HB := Lib.hid (((Below.refl w.heap.size w).alloc (Nat.le_refl _) (.cells #[.slice a m c, .slice b n d] 35)).alloc (by rw [s1]; omega) (.cells #[.slice none 0 0, .slice none 0 0] 41))
  have hi := info_rch
  have hu := Tryd.underlying41
  clear s1
  go_enter Tryd.func21, Tryd.ntmps21
  go_wp2_with (refine wpList_store_row rfl 41 _ _ rfl (w.heap.size + 1) #[.slice a m c, .slice b n d] rfl rfl 41 _ hg hi rfl (ch_all _ _ _ _ _ _) ?_)
  refine bodyPost_ret (v := .agg #[.slice a m c, .slice b n d]) (results_cell_row rfl _ _ (w.heap.size + 1) 41 _ (0, 0) _ rfl (setRow_heap _ _ _ _ _ _ hg) hu rfl hi) rfl ⟨rfl, below_setRow HB.out (by omega) _⟩
end Go.Proofs.YtmlcdfimcabgkaaDoor
namespace Go.Proofs.YtmlcdfimcabgkaaDoor
open Go.RowKit TabM FreqM HufM
set_option linter.unusedVariables false
theorem fRow_row (cs : List Int) (n : Int) (p k : Nat) (hk : k < cs.length) : (fRow cs n cs.length p).take (k + 1) = (fRow cs n cs.length p).take k ++ [if tb cs n k = p then 0 else 15] := by
  rw [List.take_succ_eq_append_getElem (by rw [fRow_len]; exact hk)]
  simp [fRow, hk]
theorem rows_succ (cs : List Int) (n : Int) (p : Nat) : (List.range (p + 1)).map (fRow cs n cs.length) = (List.range p).map (fRow cs n cs.length) ++ [fRow cs n cs.length p] := by
  rw [List.range_succ, List.map_append]
  rfl
set_option maxRecDepth 100000 in
set_option maxHeartbeats 8000000 in
theorem rFirst_any (v : Value) (cs : List Int) (n : Int) (w : World) (hv : IsInts w v cs) (hcs : Nums cs) (h258 : cs.length ≤ 258) (hn1 : 1 ≤ n) (hn2 : n ≤ 1099511627776) :
    Calls Tryd.prog 15 #[v, .int .i64 n] w fun e w' => ∃ u, e = .returned u ∧ IsRR w' u (firstM cs n) ∧ Below w.heap.size w w' := by
  have HV := Lib.hid hv
  have HCS := Lib.hid hcs
  obtain ⟨ad, cap, rfl, _⟩ := hv
  obtain ⟨N, hN⟩ : ∃ N, cs.length = N := ⟨_, rfl⟩
  have HN := Lib.hid hN
  obtain ⟨T, hT⟩ : ∃ T, nTab n = T := ⟨_, rfl⟩
  have HT := Lib.hid hT
  have hTb := nTab_bd n
  rw [hT] at hTb
  obtain ⟨hT2, hT6⟩ := hTb
  have HNU := Lib.hid (rnum12_any n w)
  rw [hT] at HNU
  have HTB : Hid (∀ k, min (sm cs k) (n - 1) * (T : Int) / n = (tb cs n k : Int) ∧ tb cs n k < T) := Lib.hid (fun k => by rw [← hT]; exact tb_is (fun x hx => (hcs x hx).1) hn1 k)
  have HSS : Hid (∀ k, k < N → sm cs (k + 1) = sm cs k + cs.getD k 0) := Lib.hid (fun k hk => sm_succ cs (by omega))
  have HS0 : Hid (∀ k, 0 ≤ sm cs k) := Lib.hid (fun k => sm_nn (fun x hx => (hcs x hx).1) k)
  have HRO : Hid (∀ p k, k < N → (fRow cs n N p).take (k + 1) = (fRow cs n N p).take k ++ [if tb cs n k = p then 0 else 15]) := Lib.hid (fun p k hk => by rw [← hN]; exact fRow_row cs n p k (by omega))
  have HRS : Hid (∀ p, (List.range (p + 1)).map (fRow cs n N) = (List.range p).map (fRow cs n N) ++ [fRow cs n N p]) := Lib.hid (fun p => by rw [← hN]; exact rows_succ cs n p)
  have HFL : Hid (∀ p, (fRow cs n N p).length = N) := Lib.hid (fun p => by rw [fRow_len, hN])
  rw [hN] at h258 HV ⊢
  have HFM : Hid (firstM cs n = (List.range T).map (fRow cs n N)) := Lib.hid (by unfold firstM firstK; rw [hT, hN])
  rw [HFM.out]
  clear hcs hN hT HFM
  go_enter Tryd.func15, Tryd.ntmps15
  go_wp2_with fail
  refine HNU.out.mono ?_
  rintro e w1 ⟨rfl, rfl⟩
  go_wp2_with fail
  go_loopw [6, 15] (fun vo vp wr => ∃ (p bn : Nat) (v : Value), vp = .int .i64 (p : Int) ∧ v = vo ∧ p ≤ T ∧ OwnRR wr w1.heap.size bn v ((List.range p).map (fRow cs n N)) ∧ Below w1.heap.size w1 wr) (fun _ vp _ => T - (intOf vp).toNat)
  case atStart => exact ⟨0, w1.heap.size, _, rfl, rfl, by omega, OwnRR.nil _ _ (Nat.le_refl _), Below.refl _ _⟩
  case round =>
    obtain ⟨p, bn, v, rfl, rfl, hp, hR, hB⟩ := hrel
    have HR := Lib.hid hR
    have HB := Lib.hid hB
    have HBN : Hid (bn ≤ wr.heap.size) := Lib.hid hR.2.1
    have HBB : Hid (w1.heap.size ≤ bn) := Lib.hid hR.1
    clear hR hB
    by_cases hpT : p < T
    · have hpi : (p : Int) < (T : Int) := by omega
      go_wp2_with fail
      obtain ⟨wa, rfl⟩ : ∃ wa : World, wa = wr := ⟨_, rfl⟩
      go_loopw [8, 9, 20] (fun vl vb vk wr => ∃ (k : Nat) (u : Value) (b : Int), vk = .int .i64 (k : Int) ∧ u = vl ∧ k ≤ N ∧ vb = .int .i64 b ∧ min b (n - 1) = min (sm cs k) (n - 1) ∧ 0 ≤ b ∧ b ≤ 2199023255552 ∧ OwnI wr bn u ((fRow cs n N p).take k) ∧ Below bn wa wr) (fun _ _ vk _ => N - (intOf vk).toNat)
      case atStart => exact ⟨0, _, 0, rfl, rfl, by omega, rfl, by rw [sm_zero], by omega, by omega, by rw [List.take_zero]; exact OwnI.nil _ _, Below.refl _ _⟩
      case round =>
        obtain ⟨k, u, b, rfl, rfl, hk, rfl, hmin, hb0, hb1, hU, hBI⟩ := hrel
        have HU := Lib.hid hU
        have HBI := Lib.hid hBI
        clear hU hBI
        by_cases hkN : k < N
        · have hki : (k : Int) < (N : Int) := by omega
          have HV2 := Lib.hid (HV.out.below (HB.out.trans (HBI.out.mono HBB.out)))
          obtain ⟨b1, o1, k1, he1, c1⟩ := HV2.out.cell (show k < cs.length by rw [HN.out]; exact hkN)
          rw [HN.out] at he1
          simp only [Value.slice.injEq] at he1
          obtain ⟨rfl, _, rfl⟩ := he1
          have hxm := HCS.out _ (FreqM.getD_mem cs k (by rw [HN.out]; exact hkN))
          have hss := HSS.out k hkN
          have hs0 := HS0.out k
          obtain ⟨x, hx⟩ : ∃ x, cs.getD k 0 = x := ⟨_, rfl⟩
          rw [hx] at c1 hxm hss
          obtain ⟨hq, htT⟩ := HTB.out k
          have HROW := Lib.hid (HRO.out p k hkN)
          obtain ⟨t, htt⟩ : ∃ t, tb cs n k = t := ⟨_, rfl⟩
          rw [htt] at hq htT HROW
          rw [← hmin] at hq
          have HTK : Hid (((fRow cs n N p).take k).length + 1 ≤ 17592186044416) := Lib.hid (by rw [List.length_take]; omega)
          clear hx htt
          by_cases hcl : n - 1 < b
          · have hme : min b (n - 1) = (n - 1) := by omega
            rw [hme] at hmin hq
            have HMN : Hid (min ((n - 1) + x) (n - 1) = min (sm cs (k + 1)) (n - 1)) := Lib.hid (by rw [hss]; omega)
            have hP0 : 0 ≤ (n - 1) * (T : Int) := Int.mul_nonneg (by omega) (by omega)
            have hP1 : (n - 1) * (T : Int) ≤ 1099511627776 * 6 := Int.mul_le_mul (by omega) (by omega) (by omega) (by omega)
            obtain ⟨P, hP⟩ : ∃ P, (n - 1) * (T : Int) = P := ⟨_, rfl⟩
            rw [hP] at hq hP0 hP1
            have hPt : P.tdiv n = (t : Int) := by rw [Int.tdiv_eq_ediv_of_nonneg hP0, hq]
            have hn0 : ¬ n = 0 := by omega
            clear hme hq hss hmin
            by_cases hep : t = p
            · have HNX : Hid ((fRow cs n N p).take (k + 1) = (fRow cs n N p).take k ++ [0]) := Lib.hid (by rw [HROW.out, if_pos hep])
              have hepb : ((t : Int) == (p : Int)) = true := by rw [beq_iff_eq]; omega
              clear HROW hep
              go_upto_region 16 with (at_builtin; refine push_int wr rfl _ _ rfl bn _ ((fRow cs n N p).take k) 0 HU.out rfl rfl HTK.out (Nat.le_trans HBN.out HBI.out.size) ?_)
              intro u2 w2 hO2 hB2
              have HU2 : Hid (OwnI w2 bn u2 ((fRow cs n N p).take (k + 1))) := Lib.hid (by rw [HNX.out]; exact hO2)
              have HB2 : Hid (Below bn wa w2) := Lib.hid (HBI.out.trans hB2)
              clear hO2 hB2
              go_wp2_with fail
              go_roundw
              case rel => exact ⟨k + 1, u2, (n - 1) + x, by go_num, rfl, by omega, by first | rfl | go_num, HMN.out, by omega, by omega, HU2.out, HB2.out⟩
              case measure => simp [intOf]; omega
            · have HNX : Hid ((fRow cs n N p).take (k + 1) = (fRow cs n N p).take k ++ [15]) := Lib.hid (by rw [HROW.out, if_neg hep])
              have hepb : ((t : Int) == (p : Int)) = false := by rw [beq_eq_false_iff_ne]; omega
              clear HROW hep
              go_upto_region 16 with (at_builtin; refine push_int wr rfl _ _ rfl bn _ ((fRow cs n N p).take k) 15 HU.out rfl rfl HTK.out (Nat.le_trans HBN.out HBI.out.size) ?_)
              intro u2 w2 hO2 hB2
              have HU2 : Hid (OwnI w2 bn u2 ((fRow cs n N p).take (k + 1))) := Lib.hid (by rw [HNX.out]; exact hO2)
              have HB2 : Hid (Below bn wa w2) := Lib.hid (HBI.out.trans hB2)
              clear hO2 hB2
              go_wp2_with fail
              go_roundw
              case rel => exact ⟨k + 1, u2, (n - 1) + x, by go_num, rfl, by omega, by first | rfl | go_num, HMN.out, by omega, by omega, HU2.out, HB2.out⟩
              case measure => simp [intOf]; omega
          · have hme : min b (n - 1) = b := by omega
            rw [hme] at hmin hq
            have HMN : Hid (min (b + x) (n - 1) = min (sm cs (k + 1)) (n - 1)) := Lib.hid (by rw [hss]; omega)
            have hP0 : 0 ≤ b * (T : Int) := Int.mul_nonneg (by omega) (by omega)
            have hP1 : b * (T : Int) ≤ 1099511627776 * 6 := Int.mul_le_mul (by omega) (by omega) (by omega) (by omega)
            obtain ⟨P, hP⟩ : ∃ P, b * (T : Int) = P := ⟨_, rfl⟩
            rw [hP] at hq hP0 hP1
            have hPt : P.tdiv n = (t : Int) := by rw [Int.tdiv_eq_ediv_of_nonneg hP0, hq]
            have hn0 : ¬ n = 0 := by omega
            clear hme hq hss hmin
            by_cases hep : t = p
            · have HNX : Hid ((fRow cs n N p).take (k + 1) = (fRow cs n N p).take k ++ [0]) := Lib.hid (by rw [HROW.out, if_pos hep])
              have hepb : ((t : Int) == (p : Int)) = true := by rw [beq_iff_eq]; omega
              clear HROW hep
              go_upto_region 16 with (at_builtin; refine push_int wr rfl _ _ rfl bn _ ((fRow cs n N p).take k) 0 HU.out rfl rfl HTK.out (Nat.le_trans HBN.out HBI.out.size) ?_)
              intro u2 w2 hO2 hB2
              have HU2 : Hid (OwnI w2 bn u2 ((fRow cs n N p).take (k + 1))) := Lib.hid (by rw [HNX.out]; exact hO2)
              have HB2 : Hid (Below bn wa w2) := Lib.hid (HBI.out.trans hB2)
              clear hO2 hB2
              go_wp2_with fail
              go_roundw
              case rel => exact ⟨k + 1, u2, b + x, by go_num, rfl, by omega, by first | rfl | go_num, HMN.out, by omega, by omega, HU2.out, HB2.out⟩
              case measure => simp [intOf]; omega
            · have HNX : Hid ((fRow cs n N p).take (k + 1) = (fRow cs n N p).take k ++ [15]) := Lib.hid (by rw [HROW.out, if_neg hep])
              have hepb : ((t : Int) == (p : Int)) = false := by rw [beq_eq_false_iff_ne]; omega
              clear HROW hep
              go_upto_region 16 with (at_builtin; refine push_int wr rfl _ _ rfl bn _ ((fRow cs n N p).take k) 15 HU.out rfl rfl HTK.out (Nat.le_trans HBN.out HBI.out.size) ?_)
              intro u2 w2 hO2 hB2
              have HU2 : Hid (OwnI w2 bn u2 ((fRow cs n N p).take (k + 1))) := Lib.hid (by rw [HNX.out]; exact hO2)
              have HB2 : Hid (Below bn wa w2) := Lib.hid (HBI.out.trans hB2)
              clear hO2 hB2
              go_wp2_with fail
              go_roundw
              case rel => exact ⟨k + 1, u2, b + x, by go_num, rfl, by omega, by first | rfl | go_num, HMN.out, by omega, by omega, HU2.out, HB2.out⟩
              case measure => simp [intOf]; omega
        · obtain rfl : k = N := by omega
          have hki : ¬ (k : Int) < (k : Int) := by omega
          have HU2 : Hid (OwnI wr bn u (fRow cs n k p)) := Lib.hid (by have h := HU.out; rw [List.take_of_length_le (by rw [HFL.out]; exact Nat.le_refl _)] at h; exact h)
          have HR2 := Lib.hid (HR.out.below HBI.out)
          have HB2 : Hid (Below w1.heap.size w1 wr) := Lib.hid (HB.out.trans (HBI.out.mono HBB.out))
          have hgl : Hid (((List.range p).map (fRow cs n k)).length + 1 ≤ 1099511627776) := Lib.hid (by rw [List.length_map, List.length_range]; omega)
          clear HU HBI hmin
          obtain ⟨au, cu, rfl⟩ := HU2.out.slice
          rw [HFL.out] at HU2 ⊢
          go_wp2_with (at_builtin; go_loud (refine push_row wr rfl _ _ rfl w1.heap.size bn _ ((List.range p).map (fRow cs n k)) _ (fRow cs n k p) HR2.out HU2.out rfl rfl hgl.out ?_))
          intro v3 w3 hR3 hB3
          rw [← HRS.out] at hR3
          have HR3 := Lib.hid hR3
          have HB3 := Lib.hid (HB2.out.trans hB3)
          clear hR3 hB3
          go_wp2_with fail
          go_roundw
          case rel => exact ⟨p + 1, w3.heap.size, v3, by go_num, rfl, by omega, HR3.out, HB3.out⟩
          case measure => simp [intOf]; omega
    · obtain rfl : p = T := by omega
      have hpi : ¬ (p : Int) < (p : Int) := by omega
      have HRR := Lib.hid HR.out.rr
      go_wp2_with fail
      go_ret
      exact ⟨_, rfl, HRR.out, HB.out⟩
end Go.Proofs.YtmlcdfimcabgkaaDoor
namespace Go.Proofs.YtmlcdfimcabgkaaDoor
open Go.RowKit TabM FreqM HufM
set_option linter.unusedVariables false
set_option maxRecDepth 100000 in
set_option maxHeartbeats 4000000 in
theorem rpick_any (vg vr : Value) (g : List Int) (rows : List (List Int)) (N : Nat) (w : World) (hg : IsInts w vg g) (hr : IsRR w vr rows) (hsy : Syms g (N : Int)) (hok : TabOk N rows) (hg50 : g.length ≤ 50) (hN : N ≤ 258) :
    Calls Tryd.prog 39 #[vg, vr] w fun e w' => e = .returned (.int .i64 (pickM g rows : Int)) ∧ Below w.heap.size w w' := by
  have HG := Lib.hid hg
  have HR := Lib.hid hr
  have HOK := Lib.hid hok
  obtain ⟨hl2, hl6, _⟩ := hok
  have HBD : Hid (∀ k, k < rows.length → 0 ≤ costS g (rw_ rows k) ∧ costS g (rw_ rows k) ≤ 1000) := Lib.hid (fun k hk => by
    obtain ⟨h1, h2⟩ := HOK.out.at_ hk
    have h3 := costS_bd hsy h1 h2
    omega)
  have HCO : Hid (∀ (k : Nat) (u : Value) (W : World), k < rows.length → IsInts W vg g → IsInts W u (rw_ rows k) → Calls Tryd.prog 26 #[vg, u] W fun e w' => e = .returned (.int .i64 (costS g (rw_ rows k))) ∧ W = w') := Lib.hid (fun k u W hk h1 h2 => by
    obtain ⟨h3, h4⟩ := HOK.out.at_ hk
    have h5 := HBD.out k hk
    have h6 := rCost_any vg u g (rw_ rows k) W h1 h2 (by omega) (by omega) ⟨by rw [h3]; exact hsy, fun x hx => by have := h4 x hx; omega⟩
    rw [cap_id _ (by omega)] at h6
    exact h6)
  obtain ⟨ag, cg, rfl, _⟩ := hg
  obtain ⟨ar, cr, rfl, _⟩ := hr
  obtain ⟨T, hT⟩ : ∃ T, rows.length = T := ⟨_, rfl⟩
  have HT := Lib.hid hT
  obtain ⟨L, hL⟩ : ∃ L, g.length = L := ⟨_, rfl⟩
  obtain ⟨M, hM⟩ : ∃ M, pickM g rows = M := ⟨_, rfl⟩
  have HM : Hid (pk g rows T = M) := Lib.hid (by rw [← hT]; exact hM)
  rw [hM]
  rw [hL] at HG HCO ⊢
  rw [hT] at hl2 hl6 HCO HBD ⊢
  clear hT hM hsy hg50 hL HOK
  go_enter Tryd.func39, Tryd.ntmps39
  go_wp2_with fail
  go_loopw [5, 10] (fun vp vk wr => ∃ k : Nat, vk = .int .i64 (k : Int) ∧ k ≤ T ∧ vp = .int .i64 (pk g rows k : Int) ∧ Below w.heap.size w wr) (fun _ vk _ => T - (intOf vk).toNat)
  case atStart => exact ⟨0, rfl, by omega, rfl, Below.refl _ _⟩
  case round =>
    obtain ⟨k, rfl, hk, rfl, hB⟩ := hrel
    have HB := Lib.hid hB
    clear hB
    by_cases hkT : k < T
    · have hki : (k : Int) < (T : Int) := by omega
      have hle := pk_le g rows k
      have HPS : Hid (pk g rows (k + 1) = if costS g (rw_ rows k) < costS g (rw_ rows (pk g rows k)) then k else pk g rows k) := Lib.hid rfl
      obtain ⟨p, hp⟩ : ∃ p, pk g rows k = p := ⟨_, rfl⟩
      rw [hp] at HPS hle ⊢
      clear hp
      have hpT : p < T := by omega
      have hpi : (p : Int) < (T : Int) := by omega
      have HR2 := Lib.hid (HR.out.below HB.out)
      obtain ⟨b, off, cap, u, he, c1, hI⟩ := HR2.out.at_ (show k < rows.length by rw [HT.out]; exact hkT)
      rw [HT.out] at he
      simp only [Value.slice.injEq] at he
      obtain ⟨rfl, he2, rfl⟩ := he
      clear he2
      obtain ⟨b2, off2, cap2, u2, he, c2, hI2⟩ := HR2.out.at_ (show p < rows.length by rw [HT.out]; exact hpT)
      rw [HT.out] at he
      simp only [Value.slice.injEq] at he
      obtain ⟨he1, _, rfl⟩ := he
      simp only [Option.some.injEq, Addr.mk.injEq] at he1
      obtain ⟨rfl, rfl, _⟩ := he1
      have HGB : Hid (∀ sb : Beneath wr.heap.size wr, IsInts sb.val (.slice ag L cg) g ∧ IsInts sb.val u (rw_ rows k) ∧ IsInts sb.val u2 (rw_ rows p)) := Lib.hid (fun sb => ⟨(HG.out.below HB.out).below sb.is, hI.below sb.is, hI2.below sb.is⟩)
      have q2 : ∀ sb : Beneath wr.heap.size wr, sb.val.cell? ⟨b, off + p, none⟩ = some u2 := fun sb => Beneath.cell c2 (cell_lt c2) sb
      obtain ⟨au, cu, hu, _⟩ := hI
      obtain ⟨au2, cu2, hu2, _⟩ := hI2
      obtain ⟨C1, hC1⟩ : ∃ C, costS g (rw_ rows k) = C := ⟨_, rfl⟩
      obtain ⟨C2, hC2⟩ : ∃ C, costS g (rw_ rows p) = C := ⟨_, rfl⟩
      have HC1 := Lib.hid (fun u W h1 h2 => HCO.out k u W hkT h1 h2)
      have HC2 := Lib.hid (fun u W h1 h2 => HCO.out p u W hpT h1 h2)
      rw [hC1] at HC1 HPS
      rw [hC2] at HC2 HPS
      obtain ⟨n1, hn1⟩ : ∃ n, (rw_ rows k).length = n := ⟨_, rfl⟩
      obtain ⟨n2, hn2⟩ : ∃ n, (rw_ rows p).length = n := ⟨_, rfl⟩
      rw [hn1] at hu
      rw [hn2] at hu2
      subst hu hu2
      clear hC1 hC2 hn1 hn2 c2 HR2 hle hpT
      go_upto_region 5 with fail
      refine wp_region_beneath wr.heap.size wr (Below.refl _ _) (by kernel_rfl) (by kernel_rfl) ?_
      repeat (go_big_quiet_step (first
        | (go_at_call 26; rename_i sb; exact Calls.beneath_same sb (HC1.out _ _ (HGB.out sb).1 (HGB.out sb).2.1))
        | (go_at_call 26; rename_i sb; exact Calls.beneath_same sb (HC2.out _ _ (HGB.out sb).1 (HGB.out sb).2.2))))
      refine wpQuiet_nil ?_
      rintro _ ⟨sb, rfl⟩
      have HB6 := Lib.hid (HB.out.trans (sb.is.mono HB.out.size))
      clear HGB q2 HB
      generalize sb.val = W6 at *
      by_cases hlt : C1 < C2
      · have HNX : Hid (pk g rows (k + 1) = k) := Lib.hid (by rw [HPS.out, if_pos hlt])
        clear HPS
        go_wp2_with fail
        go_roundw
        case rel => exact ⟨k + 1, by go_num, by omega, by rw [HNX.out], HB6.out⟩
        case measure => simp [intOf]; omega
      · have HNX : Hid (pk g rows (k + 1) = p) := Lib.hid (by rw [HPS.out, if_neg hlt])
        clear HPS
        go_wp2_with fail
        go_roundw
        case rel => exact ⟨k + 1, by go_num, by omega, by rw [HNX.out], HB6.out⟩
        case measure => simp [intOf]; omega
    · obtain rfl : k = T := by omega
      have hki : ¬ (k : Int) < (k : Int) := by omega
      rw [HM.out]
      go_wp2_with fail
      go_ret
      exact ⟨rfl, HB.out⟩
end Go.Proofs.YtmlcdfimcabgkaaDoor
namespace Go.Proofs.YtmlcdfimcabgkaaDoor
open Go.RowKit FreqM
set_option linter.unusedVariables false
set_option maxRecDepth 100000 in
set_option maxHeartbeats 4000000 in
theorem rGroups_loc (v0 : Value) (zs : List Int) (w : World) (hv : IsInts w v0 zs) (hz : zs.length ≤ 1000) :
    Calls Tryd.prog 24 #[v0] w fun e w' => ∃ r bn, e = .returned r ∧ OwnRI w' w.heap.size bn r (grps zs (ng zs.length)) ∧ Below w.heap.size w w' := by
  have HV := Lib.hid hv
  obtain ⟨a, cap, rfl, _⟩ := hv
  go_enter Tryd.func24, Tryd.ntmps24
  go_wp2_with fail
  go_loopw [3, 4, 9] (fun o n i wr => ∃ (k q bn : Nat) (now : List Int) (v u : Value), k ≤ zs.length ∧ i = .int .i64 k ∧ v = o ∧ u = n ∧ GrS zs k q now ∧ OwnRI wr w.heap.size bn v (grps zs q) ∧ OwnI wr bn u now ∧ Below w.heap.size w wr) (fun _ _ i _ => zs.length - (intOf i).toNat)
  case atStart =>
    refine ⟨0, 0, w.heap.size, [], .slice none 0 0, .slice none 0 0, by omega, rfl, rfl, rfl, ?_, OwnRI.nil _ _ (Nat.le_refl _), OwnI.nil _ _, Below.refl _ _⟩
    by_cases h : zs.length = 0
    · exact Or.inr ⟨h.symm, by rw [h]; rfl⟩
    · exact Or.inl ⟨by omega, by omega, by omega, by simp⟩
  case round =>
    obtain ⟨k, q, bn, now, v, u, hk, rfl, rfl, rfl, hG, hR, hU, hB⟩ := hrel
    have HR := Lib.hid hR
    have HU := Lib.hid hU
    have HB := Lib.hid hB
    have hbn := hR.2.1
    have hBbn := hR.1
    clear hR hU hB
    by_cases hlk : k < zs.length
    · have hki : (k : Int) < (zs.length : Int) := by omega
      obtain ⟨_, hq1, hq2, rfl⟩ := hG.resolve_right (fun h => by omega)
      have HV2 := Lib.hid (HV.out.below HB.out)
      obtain ⟨b1, o1, k1, he1, c1⟩ := HV2.out.cell hlk
      simp only [Value.slice.injEq] at he1
      obtain ⟨rfl, _, rfl⟩ := he1
      have HNX := Lib.hid (now_next zs k q hlk hq1)
      have HFU := Lib.hid (now_full zs k q hlk)
      have HGO : Hid (¬ k + 1 = 50 * q + 50 → ¬ k + 1 = zs.length → GrS zs (k + 1) q ((zs.take (k + 1)).drop (50 * q))) := Lib.hid (fun h1 h2 => Or.inl ⟨by omega, by omega, by omega, rfl⟩)
      have hnl : ((zs.take k).drop (50 * q)).length = k - 50 * q := by rw [List.length_drop, List.length_take]; omega
      have hnl2 : ((zs.take (k + 1)).drop (50 * q)).length = k + 1 - 50 * q := by rw [List.length_drop, List.length_take]; omega
      have hln : ((zs.take k).drop (50 * q)).length + 1 ≤ 17592186044416 := by omega
      have hna : ((zs.take (k + 1)).drop (50 * q)).length + 50 * q ≤ k + 1 := by omega
      have hnb : k + 1 ≤ ((zs.take (k + 1)).drop (50 * q)).length + 50 * q := by omega
      clear hnl hnl2 hG
      generalize zs.getD k 0 = x at *
      generalize (zs.take k).drop (50 * q) = now at *
      go_upto_region 7 with (at_builtin; go_loud (refine push_int wr rfl _ _ rfl bn _ now x HU.out rfl rfl hln hbn ?_))
      intro u2 w2 hO2 hB2
      rw [HNX.out] at hO2
      have HU2 := Lib.hid hO2
      have HR2 := Lib.hid (HR.out.below hB2)
      have HB2 := Lib.hid (HB.out.trans (hB2.mono hBbn))
      have hbn2 : bn ≤ w2.heap.size := Nat.le_trans hbn hB2.size
      have hBw2 : w.heap.size ≤ w2.heap.size := HB2.out.size
      clear hO2 hB2 HR HU HB HNX hln
      generalize (zs.take (k + 1)).drop (50 * q) = now2 at *
      obtain ⟨au, cu, rfl⟩ := HU2.out.slice
      generalize now2.length = N at *
      have hgl : (grps zs q).length + 1 ≤ 1099511627776 := by rw [grps_len]; omega
      have hwk : IntKind.i64.wrap ((k : Int) + 1) = (k : Int) + 1 := IntWalk.i64_in _ (by omega)
      by_cases hA : k + 1 = 50 * q + 50
      · have hN50 : ((N : Int) == 50) = true := by rw [beq_iff_eq]; omega
        have hN50' : N = 50 := by omega
        have e1 := HFU.out (Or.inl hA) hq2
        subst e1
        have HGS : Hid (GrS zs (k + 1) (q + 1) []) := Lib.hid (by
          by_cases h : k + 1 < zs.length
          · exact Or.inl ⟨h, by omega, by omega, by rw [List.drop_eq_nil_of_le (by rw [List.length_take]; omega)]⟩
          · exact Or.inr ⟨by omega, by unfold ng; omega⟩)
        subst hN50'
        go_wp2_with (at_builtin; go_loud (refine push_rowI w2 rfl _ _ rfl w.heap.size bn _ (grps zs q) _ (grp zs q) HR2.out HU2.out.ints (fun k hk => HU2.out.lt k hk) rfl rfl hgl ?_))
        intro v3 w3 hR3 hB3 _ _
        rw [← grps_succ] at hR3
        have HR3 := Lib.hid hR3
        have HB3 := Lib.hid (HB2.out.trans hB3)
        clear hR3 hB3
        go_wp2_with fail
        go_roundw
        case rel => exact ⟨k + 1, q + 1, w3.heap.size, [], v3, _, by omega, by go_num, rfl, rfl, HGS.out, HR3.out, OwnI.nil _ _, HB3.out⟩
        case measure => simp [intOf]; omega
      · have hN50 : ((N : Int) == 50) = false := by rw [beq_eq_false_iff_ne]; omega
        by_cases hC : k + 1 = zs.length
        · have hCI : ((k : Int) + 1 == (zs.length : Int)) = true := by rw [beq_iff_eq]; omega
          have e1 := HFU.out (Or.inr hC) hq2
          subst e1
          have HGS : Hid (GrS zs (k + 1) (q + 1) []) := Lib.hid (Or.inr ⟨hC, by unfold ng; omega⟩)
          go_wp2_with (at_builtin; go_loud (refine push_rowI w2 rfl _ _ rfl w.heap.size bn _ (grps zs q) _ (grp zs q) HR2.out HU2.out.ints (fun k hk => HU2.out.lt k hk) rfl rfl hgl ?_))
          intro v3 w3 hR3 hB3 _ _
          rw [← grps_succ] at hR3
          have HR3 := Lib.hid hR3
          have HB3 := Lib.hid (HB2.out.trans hB3)
          clear hR3 hB3
          go_wp2_with fail
          go_roundw
          case rel => exact ⟨k + 1, q + 1, w3.heap.size, [], v3, _, by omega, by go_num, rfl, rfl, HGS.out, HR3.out, OwnI.nil _ _, HB3.out⟩
          case measure => simp [intOf]; omega
        · have hCI : ((k : Int) + 1 == (zs.length : Int)) = false := by rw [beq_eq_false_iff_ne]; omega
          have HGS := Lib.hid (HGO.out hA hC)
          clear HGO HFU
          go_wp2_with fail
          go_roundw
          case rel => exact ⟨k + 1, q, bn, now2, v, _, by omega, by go_num, rfl, rfl, HGS.out, HR2.out, HU2.out, HB2.out⟩
          case measure => simp [intOf]; omega
    · obtain rfl : k = zs.length := by omega
      have hq : q = ng zs.length := by
        rcases hG with ⟨h, _⟩ | ⟨_, h⟩
        · omega
        · exact h
      subst hq
      go_wp2_with fail
      go_ret
      exact ⟨_, _, rfl, HR.out, HB.out⟩
end Go.Proofs.YtmlcdfimcabgkaaDoor
namespace Go.Proofs.YtmlcdfimcabgkaaDoor
open Go.RowKit TabM FreqM HufM
set_option linter.unusedVariables false
theorem rw_grps (zs : List Int) (q i : Nat) (h : i < q) : rw_ (grps zs q) i = grp zs i := by
  unfold rw_
  rw [List.getD_eq_getElem?_getD, List.getElem?_eq_getElem (by rw [grps_len]; exact h), grps_get]
  rfl
theorem picks_get (zs : List Int) (rows : List (List Int)) (q i : Nat) (h : i < q) : (picksM zs rows q).getD i 0 = (pickM (grp zs i) rows : Int) := by
  rw [List.getD_eq_getElem?_getD, List.getElem?_eq_getElem (by rw [picksM_len]; exact h)]
  simp [picksM]
/-- What the document's Of has behind i rounds. -/
def RfI (H C BG bG : Nat) (w wr : World) (zs : List Int) (N i : Nat) (vL vP vG : Value) : Prop :=
  wr.heap[H]? = some (.cells #[.slice none 0 0, .slice none 0 0] 41 (0, 0)) ∧ wr.heap[C]? = some (.cells #[vL, vP] 41 (0, 0)) ∧ IsRR wr vL (rnd zs N i) ∧ Below H w wr ∧
  (1 ≤ i → Kept (C + 1) wr vL vP (rnd zs N i) (picksM zs (rnd zs N (i - 1)) (ng zs.length))) ∧ OwnRI wr BG bG vG (grps zs (ng zs.length)) ∧ H < C ∧ C < BG
set_option maxRecDepth 100000 in
set_option maxHeartbeats 16000000 in
theorem rOf12_any (a : Option Addr) (len c : Nat) (zs : List Int) (N : Nat) (w : World) (hI : IsInts w (.slice a len c) zs) (hlen : zs.length = len) (hz : len ≤ 1000)
    (hsy : Syms zs (N : Int)) (h1 : 1 ≤ len) (h3 : 3 ≤ N) (h258 : N ≤ 258) :
    Calls Tryd.prog 22 #[.slice a len c, .int .i64 (N : Int)] w fun e w' => ∃ (vL vP : Value), e = .returned (.agg #[vL, vP]) ∧ IsRR w' vL (rnd zs N 4) ∧ IsInts w' vP (picksM zs (rnd zs N 3) (ng zs.length)) ∧ Below w.heap.size w w' := by
  have h0 := heap_alloc_new w (.cells #[.slice none 0 0, .slice none 0 0] 41)
  have hB1 := (Below.refl w.heap.size w).alloc (Nat.le_refl _) (.cells #[.slice none 0 0, .slice none 0 0] 41)
  have hI1 := hI.below hB1
  have HCN := Lib.hid (rCounts_any _ zs N _ hI1 (by omega) (by omega))
  have HB1 := Lib.hid hB1
  have HSY := Lib.hid hsy
  have hi := info_rch
  have hu := Tryd.underlying41
  have HLEN := Lib.hid hlen
  have HCC : Hid (Nums (counts zs N) ∧ (counts zs N).length = N) := Lib.hid ⟨fun x hx => by have := counts_nn zs N x hx; omega, counts_len zs N⟩
  have HRO : Hid (∀ i, TabOk N (rnd zs N i)) := Lib.hid (fun i => rnd_ok h3 h258 (by omega) i)
  have HRL : Hid (∀ i, (rnd zs N i).length = nTab (len : Int)) := Lib.hid (fun i => by rw [rnd_len, hlen])
  have htb := nTab_bd (len : Int)
  obtain ⟨T, hT⟩ : ∃ T, nTab (len : Int) = T := ⟨_, rfl⟩
  rw [hT] at HRL htb
  obtain ⟨hT2, hT6⟩ := htb
  have HTT := Lib.hid hT
  have hng : ng len ≤ 20 := by unfold ng; omega
  obtain ⟨Q, hQ⟩ : ∃ Q, ng len = Q := ⟨_, rfl⟩
  have HQ : Hid (ng zs.length = Q) := Lib.hid (by rw [hlen, hQ])
  have HQ2 : Hid (∀ m, m < Q → 50 * m < len) := Lib.hid (fun m hm => by rw [← hQ] at hm; unfold ng at hm; omega)
  rw [hQ] at hng
  have HTK : Hid (∀ p q rows, (took zs rows p q).length ≤ 1000) := Lib.hid (fun p q rows => by have := took_len2 zs rows p q; omega)
  have HCO : Hid (∀ p q rows, OfOk (counts (took zs rows p q) N)) := Lib.hid (fun p q rows => cnt_ok h3 h258 (by have := took_len2 zs rows p q; omega))
  have HRM : Hid (∀ rows p, p < rows.length → (roundM zs N rows).take (p + 1) = (roundM zs N rows).take p ++ [lensF (counts (took zs rows p Q) N)]) := Lib.hid (fun rows p hp => by
    rw [List.take_succ_eq_append_getElem (by rw [roundM_len]; omega)]
    unfold roundM
    simp only [List.getElem_map, List.getElem_range]
    rw [hlen, hQ])
  have hs1 : (w.alloc (.cells #[.slice none 0 0, .slice none 0 0] 41)).heap.size = w.heap.size + 1 := by simp
  have HS1 := Lib.hid hs1
  have HI0 := Lib.hid hI
  clear hB1 hI1 hs1 hlen hsy hQ hI hT
  go_enter Tryd.func22, Tryd.ntmps22
  go_wp2_with fail
  generalize hw1 : w.alloc (.cells #[.slice none 0 0, .slice none 0 0] 41) = w1 at *
  clear hw1
  refine HCN.out.mono ?_
  rintro e w2 ⟨u, rfl, hI2, hB2⟩
  have hg2 : w2.heap[w.heap.size]? = some (.cells #[.slice none 0 0, .slice none 0 0] 41 (0, 0)) := (hB2.block _ (by rw [HS1.out]; omega)).trans h0
  have HG2 := Lib.hid hg2
  have HB2 : Hid (Below w.heap.size w w2) := Lib.hid (HB1.out.trans (hB2.mono HB1.out.size))
  have HF := Lib.hid (rFirst_any u (counts zs N) (len : Int) w2 hI2 HCC.out.1 (by rw [HCC.out.2]; exact h258) (by omega) (by omega))
  obtain ⟨au, cu, rfl, _⟩ := hI2
  rw [HCC.out.2] at HF ⊢
  clear hB2 h0 HCN hg2 HB1
  go_wp2_with fail
  refine HF.out.mono ?_
  rintro e w4 ⟨vL0, rfl, hR4, hB4⟩
  have hR4' := hR4
  obtain ⟨aL, cL, rfl, _⟩ := hR4'
  have hR5 : IsRR w4 (.slice aL (firstM (counts zs N) (len : Int)).length cL) (rnd zs N 0) := by
    unfold rnd
    rw [HLEN.out]
    exact hR4
  have hT : (firstM (counts zs N) (len : Int)).length = T := by rw [firstM, firstK_len]; exact HTT.out
  rw [hT] at hR5 ⊢
  obtain ⟨C, hC⟩ : ∃ C, w4.heap.size = C := ⟨_, rfl⟩
  obtain ⟨H, hH⟩ : ∃ H, w.heap.size = H := ⟨_, rfl⟩
  have hHC : H < C := by
    have h5 := (Array.getElem?_eq_some_iff.1 HG2.out).1
    have h6 := hB4.size
    omega
  have hB14 : Below w.heap.size w (w4.alloc (.cells #[.slice aL T cL, .slice none 0 0] 41)) := (HB2.out.trans (hB4.mono HB2.out.size)).alloc (by have := HB2.out.size; have := hB4.size; omega) _
  have HGR := Lib.hid (rGroups_loc (.slice a len c) zs _ (HI0.out.below hB14) (by rw [HLEN.out]; omega))
  rw [HQ.out] at HGR
  have hs5 : (w4.alloc (.cells #[.slice aL T cL, .slice none 0 0] 41)).heap.size = C + 1 := by rw [← hC]; simp
  have HS : Hid ((w4.alloc (.cells #[.slice aL T cL, .slice none 0 0] 41)).heap[H]? = some (.cells #[.slice none 0 0, .slice none 0 0] 41 (0, 0)) ∧ (w4.alloc (.cells #[.slice aL T cL, .slice none 0 0] 41)).heap[C]? = some (.cells #[.slice aL T cL, .slice none 0 0] 41 (0, 0)) ∧ IsRR (w4.alloc (.cells #[.slice aL T cL, .slice none 0 0] 41)) (.slice aL T cL) (rnd zs N 0) ∧ Below H w (w4.alloc (.cells #[.slice aL T cL, .slice none 0 0] 41))) := Lib.hid (by
    have h5 := (Array.getElem?_eq_some_iff.1 HG2.out).1
    refine ⟨?_, ?_, hR5.below ((Below.refl _ _).alloc (Nat.le_refl _) _), ?_⟩
    · rw [← hH]
      exact (alloc_old (by omega)).trans ((hB4.block _ h5).trans HG2.out)
    · rw [← hC]
      exact heap_alloc_new w4 _
    · rw [← hH]
      exact hB14)
  have HHH := Lib.hid hH
  have HCX := Lib.hid hC
  have HS5 := Lib.hid hs5
  clear hR4 hR5 hB4 hT hC hH HG2 HB2 HF hB14 hs5
  go_wp2_with fail
  rw [HCX.out]
  generalize w4.alloc (.cells #[.slice aL T cL, .slice none 0 0] 41) = w5 at *
  refine HGR.out.mono ?_
  rintro e w6 ⟨vG, bG, rfl, hG6, hB6⟩
  have HG0 : Hid (RfI H C w5.heap.size bG w w6 zs N 0 (.slice aL T cL) (.slice none 0 0) vG) := Lib.hid (by
    obtain ⟨k1, k2, k3, k4⟩ := HS.out
    exact ⟨(hB6.block _ (by rw [HS5.out]; omega)).trans k1, (hB6.block _ (by rw [HS5.out]; omega)).trans k2, k3.below hB6, k4.trans (hB6.mono (by rw [HS5.out]; omega)), fun h => by omega, by rw [HQ.out]; exact hG6, hHC, by rw [HS5.out]; omega⟩)
  obtain ⟨aG, cG, rfl⟩ := hG6.slice
  rw [grps_len] at HG0 ⊢
  generalize w5.heap.size = BG at *
  clear hG6 hB6 HS HGR HS5
  go_wp2_with fail
  try rw [HHH.out]
  go_loopw [24] (fun vi wr => ∃ (i : Nat) (vL vP : Value), vi = .int .i64 (i : Int) ∧ i ≤ 4 ∧ RfI H C BG bG w wr zs N i vL vP (.slice aG Q cG)) (fun vi _ => 4 - (intOf vi).toNat)
  case atStart => exact ⟨0, _, _, rfl, by omega, HG0.out⟩
  case round =>
    clear HG0
    obtain ⟨i, vL, vP, rfl, hi4, hO⟩ := hrel
    have HO := Lib.hid hO
    obtain ⟨k1, k2, k3, k4, k5, k6, k7, k8⟩ := hO
    have hCl := (Array.getElem?_eq_some_iff.1 k2).1
    by_cases hlt : i < 4
    · have hii : (i : Int) < 4 := by omega
      obtain ⟨wa, rfl⟩ : ∃ wa : World, wa = wr := ⟨_, rfl⟩
      obtain ⟨aL2, cL2, rfl, _⟩ := id k3
      rw [HRL.out] at HO k2 k3
      have HOKR := Lib.hid (HRO.out i)
      have HNXR : Hid (rnd zs N (i + 1) = roundM zs N (rnd zs N i)) := Lib.hid rfl
      have HLR := Lib.hid (HRL.out i)
      obtain ⟨rows, hrows⟩ : ∃ rows, rnd zs N i = rows := ⟨_, rfl⟩
      have HROWS := Lib.hid hrows
      rw [hrows] at HOKR HNXR HLR k3
      have HX : Hid (∀ W, Below wa.heap.size wa W → W.cell? ⟨C, 0, none⟩ = some (.slice aL2 T cL2) ∧ IsRR W (.slice aL2 T cL2) rows ∧ IsRR W (.slice aG Q cG) (grps zs Q)) := Lib.hid (fun W hW => by
        refine ⟨?_, k3.below hW, ?_⟩
        · rw [cell_of_row _ _ _ _ _ _ ((hW.block C hCl).trans k2)]; rfl
        · have h5 := (k6.rr).below hW
          rw [HQ.out] at h5
          exact h5)
      have hrm : (roundM zs N rows).length = T := by rw [roundM_len, HLR.out]
      have HRML := Lib.hid hrm
      have HRMR := Lib.hid (fun p hp => HRM.out rows p hp)
      rw [HLR.out] at HRMR
      have HRT := Lib.hid (HX.out wa (Below.refl _ _)).1
      clear k1 k2 k3 k4 k5 k6 hrows hrm
      go_wp2_with fail
      go_loopw [7, 28] (fun vp vj wr => ∃ (j : Nat) (u : Value), vj = .int .i64 (j : Int) ∧ u = vp ∧ j ≤ Q ∧ OwnI wr wa.heap.size u (picksM zs rows j) ∧ Below wa.heap.size wa wr) (fun _ vj _ => Q - (intOf vj).toNat)
      case atStart => exact ⟨0, _, rfl, rfl, by omega, OwnI.nil _ _, Below.refl _ _⟩
      case round =>
        obtain ⟨j, u, rfl, rfl, hj, hU, hB⟩ := hrel
        have HU := Lib.hid hU
        have HB := Lib.hid hB
        clear hU hB
        obtain ⟨r0, hRR, hGG⟩ := HX.out wr HB.out
        have HRR := Lib.hid hRR
        have HGG := Lib.hid hGG
        clear hRR hGG
        by_cases hjQ : j < Q
        · have hji : (j : Int) < (Q : Int) := by omega
          obtain ⟨b, off, cap, ug, he, c1, hIg⟩ := HGG.out.at_ (show j < (grps zs Q).length by rw [grps_len]; exact hjQ)
          rw [rw_grps zs Q j hjQ] at hIg
          rw [grps_len] at he
          simp only [Value.slice.injEq] at he
          obtain ⟨rfl, he2, rfl⟩ := he
          clear he2
          have HPK := Lib.hid (rpick_any ug (.slice aL2 T cL2) (grp zs j) rows N wr hIg HRR.out (grp_syms HSY.out j) HOKR.out (by have := grp_len zs j; omega) h258)
          have HPS : Hid (picksM zs rows (j + 1) = picksM zs rows j ++ [(pickM (grp zs j) rows : Int)]) := Lib.hid (picksM_succ zs rows j)
          have HPL := Lib.hid (picksM_len zs rows j)
          obtain ⟨P, hP⟩ : ∃ P, pickM (grp zs j) rows = P := ⟨_, rfl⟩
          rw [hP] at HPK HPS
          obtain ⟨ag, cg, hug, _⟩ := hIg
          obtain ⟨n1, hn1⟩ : ∃ n, (grp zs j).length = n := ⟨_, rfl⟩
          rw [hn1] at hug
          subst hug
          clear hP hn1
          go_wp2_with fail
          refine HPK.out.mono ?_
          rintro e w7 ⟨rfl, hB7⟩
          have HU7 := Lib.hid (HU.out.below hB7)
          have HB7 : Hid (Below wa.heap.size wa w7) := Lib.hid (HB.out.trans (hB7.mono HB.out.size))
          have hs7 : wa.heap.size ≤ w7.heap.size := HB7.out.size
          clear hB7 HU HB
          obtain ⟨au, cu, rfl⟩ := HU7.out.slice
          rw [HPL.out] at HU7 ⊢
          go_wp2_with (at_builtin; go_loud (refine push_int w7 rfl _ _ rfl wa.heap.size _ (picksM zs rows j) (P : Int) HU7.out rfl rfl (by rw [HPL.out]; omega) hs7 ?_))
          intro v8 w8 hO8 hB8
          have HO8 : Hid (OwnI w8 wa.heap.size v8 (picksM zs rows (j + 1))) := Lib.hid (by rw [HPS.out]; exact hO8)
          have HB8 := Lib.hid (HB7.out.trans hB8)
          clear hO8 hB8
          go_wp2_with fail
          go_roundw
          case rel => exact ⟨j + 1, _, by go_num, rfl, by omega, HO8.out, HB8.out⟩
          case measure => simp [intOf]; omega
        · obtain rfl : j = Q := by omega
          have hji : ¬ (j : Int) < (j : Int) := by omega
          obtain ⟨aP, cP, rfl⟩ := HU.out.slice
          rw [picksM_len] at HU ⊢
          obtain ⟨wb, rfl⟩ : ∃ wb : World, wb = wr := ⟨_, rfl⟩
          have HAB := Lib.hid HB.out
          have HUB := Lib.hid HU.out
          clear HU HB HRR HGG
          go_wp2_with fail
          go_loopw [10, 43] (fun vt vp wr => ∃ (p bn : Nat) (u : Value), vp = .int .i64 (p : Int) ∧ u = vt ∧ p ≤ T ∧ OwnRI wr wb.heap.size bn u ((roundM zs N rows).take p) ∧ Below wb.heap.size wb wr) (fun _ vp _ => T - (intOf vp).toNat)
          case atStart => exact ⟨0, wb.heap.size, _, rfl, rfl, by omega, OwnRI.nil _ _ (Nat.le_refl _), Below.refl _ _⟩
          case round =>
            obtain ⟨p, bn, u, rfl, rfl, hp, hR, hB⟩ := hrel
            have HR := Lib.hid hR
            have HB := Lib.hid hB
            have hbn : bn ≤ wr.heap.size := hR.2.1
            clear hR hB
            by_cases hpT : p < T
            · have hpi : (p : Int) < (T : Int) := by omega
              have HRS := Lib.hid (HRMR.out p hpT)
              have HCOP := Lib.hid (HCO.out p j rows)
              have HTKP := Lib.hid (fun q => HTK.out p q rows)
              obtain ⟨wc, rfl⟩ : ∃ wc : World, wc = wr := ⟨_, rfl⟩
              go_wp2_with fail
              go_loopw [12, 48] (fun va vm wr => ∃ (m : Nat) (u2 : Value), vm = .int .i64 (m : Int) ∧ u2 = va ∧ m ≤ j ∧ OwnI wr wc.heap.size u2 (took zs rows p m) ∧ Below wc.heap.size wc wr) (fun _ vm _ => j - (intOf vm).toNat)
              case atStart => exact ⟨0, _, rfl, rfl, by omega, OwnI.nil _ _, Below.refl _ _⟩
              case round =>
                obtain ⟨m, u2, rfl, rfl, hm, hA, hBC⟩ := hrel
                have HA := Lib.hid hA
                have HBC := Lib.hid hBC
                clear hA hBC
                have HBB : Hid (Below wb.heap.size wb wr) := Lib.hid (HB.out.trans (HBC.out.mono HB.out.size))
                have HBA : Hid (Below wa.heap.size wa wr) := Lib.hid (HAB.out.trans (HBB.out.mono HAB.out.size))
                obtain ⟨r1, _, hGG⟩ := HX.out wr HBA.out
                have HGG := Lib.hid hGG
                clear hGG
                by_cases hmQ : m < j
                · have hmi : (m : Int) < (j : Int) := by omega
                  obtain ⟨b, off, cap, ug, he, c1, hIg⟩ := HGG.out.at_ (show m < (grps zs j).length by rw [grps_len]; exact hmQ)
                  rw [rw_grps zs j m hmQ] at hIg
                  rw [grps_len] at he
                  simp only [Value.slice.injEq] at he
                  obtain ⟨rfl, he2, rfl⟩ := he
                  clear he2
                  have HPI : Hid (IsInts wr (.slice aP j cP) (picksM zs rows j)) := Lib.hid (HUB.out.ints.below HBB.out)
                  obtain ⟨b1, o1, k1, he1, c2⟩ := HPI.out.cell (show m < (picksM zs rows j).length by rw [picksM_len]; exact hmQ)
                  rw [picksM_len] at he1
                  rw [picks_get zs rows j m hmQ] at c2
                  simp only [Value.slice.injEq] at he1
                  obtain ⟨rfl, he1b, rfl⟩ := he1
                  clear he1b
                  have hgl : 50 * m < len := HQ2.out m hmQ
                  have hgn := grp_len zs m
                  rw [HLEN.out] at hgn
                  have HGI := Lib.hid hIg
                  obtain ⟨b3, o3, k3, he3, _⟩ := hIg.cell (k := 0) (by omega)
                  subst he3
                  have HTS : Hid (took zs rows p (m + 1) = took zs rows p m ++ (if pickM (grp zs m) rows = p then grp zs m else [])) := Lib.hid rfl
                  obtain ⟨P, hP⟩ : ∃ P, pickM (grp zs m) rows = P := ⟨_, rfl⟩
                  rw [hP] at c2 HTS
                  obtain ⟨n1, hn1⟩ : ∃ n, (grp zs m).length = n := ⟨_, rfl⟩
                  rw [hn1] at c1 HGI hgn
                  have HTL : Hid ((took zs rows p m).length + (grp zs m).length ≤ 17592186044416) := Lib.hid (by have := HTKP.out m; omega)
                  have hsc : wc.heap.size ≤ wr.heap.size := HBC.out.size
                  have hn50 : n1 ≤ 50 := by omega
                  clear hP hn1 hIg hgl hgn r1
                  obtain ⟨aU, cU, rfl⟩ := HA.out.slice
                  obtain ⟨L2, hL2⟩ : ∃ L, (took zs rows p m).length = L := ⟨_, rfl⟩
                  rw [hL2] at HA ⊢
                  clear hL2
                  by_cases hPp : P = p
                  · have hPb : ((P : Int) == (p : Int)) = true := by rw [beq_iff_eq]; omega
                    have HTS2 : Hid (took zs rows p (m + 1) = took zs rows p m ++ grp zs m) := Lib.hid (by rw [HTS.out, if_pos hPp])
                    clear HTS hPp
                    go_wp2_with (at_builtin; go_loud (refine push_src wr rfl _ _ rfl wc.heap.size _ (took zs rows p m) b3 o3 n1 k3 (grp zs m) HA.out HGI.out rfl rfl HTL.out hsc ?_))
                    intro v8 w8 hO8 hB8
                    have HO8 : Hid (OwnI w8 wc.heap.size v8 (took zs rows p (m + 1))) := Lib.hid (by rw [HTS2.out]; exact hO8)
                    have HB8 := Lib.hid (HBC.out.trans hB8)
                    clear hO8 hB8
                    go_wp2_with fail
                    go_roundw
                    case rel => exact ⟨m + 1, _, by go_num, rfl, by omega, HO8.out, HB8.out⟩
                    case measure => simp [intOf]; omega
                  · have hPb : ((P : Int) == (p : Int)) = false := by rw [beq_eq_false_iff_ne]; omega
                    have HO8 : Hid (OwnI wr wc.heap.size (.slice aU L2 cU) (took zs rows p (m + 1))) := Lib.hid (by rw [HTS.out, if_neg hPp, List.append_nil]; exact HA.out)
                    clear HTS hPp
                    go_wp2_with fail
                    go_roundw
                    case rel => exact ⟨m + 1, _, by go_num, rfl, by omega, HO8.out, HBC.out⟩
                    case measure => simp [intOf]; omega
                · obtain rfl : m = j := by omega
                  have hmi : ¬ (m : Int) < (m : Int) := by omega
                  have HRC := Lib.hid (rCounts_any u2 (took zs rows p m) N wr HA.out.ints (by have := HTKP.out m; omega) (by omega))
                  have HR2 := Lib.hid (HR.out.below (HBC.out.mono hbn))
                  obtain ⟨n0, hn0, hof⟩ := lensF_spec HCOP.out
                  have HOF := Lib.hid hof
                  have hlw := (lensF_whole HCOP.out).1
                  rw [counts_len] at hlw
                  have HLW := Lib.hid hlw
                  have HCB : Hid (Within 0 1099511627776 (counts (took zs rows p m) N) ∧ (counts (took zs rows p m) N).length = N) := Lib.hid ⟨HCOP.out.2.2, counts_len _ _⟩
                  obtain ⟨aU, cU, rfl⟩ := HA.out.slice
                  obtain ⟨L2, hL2⟩ : ∃ L, (took zs rows p m).length = L := ⟨_, rfl⟩
                  rw [hL2] at HRC ⊢
                  have hbs : bn ≤ wr.heap.size := Nat.le_trans hbn HBC.out.size
                  have hrl : ((roundM zs N rows).take p).length = p := by rw [List.length_take, HRML.out]; omega
                  have HRLL := Lib.hid hrl
                  obtain ⟨aR, cR, rfl⟩ := HR2.out.slice
                  rw [hrl] at HR2 ⊢
                  clear hL2 hof hlw r1 HA HGG hrl
                  go_wp2_with fail
                  refine HRC.out.mono ?_
                  rintro e w8 ⟨uc, rfl, hI8, hB8⟩
                  have HO9 := Lib.hid (rOf9_loc uc (counts (took zs rows p m) N) (lensF (counts (took zs rows p m) N)) n0 w8 hI8 (by rw [HCB.out.2]; exact h3) (by rw [HCB.out.2]; exact h258) HCB.out.1 hn0 HOF.out)
                  obtain ⟨ac, cc, rfl, _⟩ := hI8
                  rw [HCB.out.2] at HO9 ⊢
                  have HB8 := Lib.hid hB8
                  have hs8 : wr.heap.size ≤ w8.heap.size := hB8.size
                  clear hB8 HRC
                  go_wp2_with fail
                  refine HO9.out.mono ?_
                  rintro e w9 ⟨r, rfl, hI9, hB9, hr9⟩
                  have hs9 : w8.heap.size ≤ w9.heap.size := hB9.size
                  have HI9 := Lib.hid hI9
                  have HUL : Hid (∀ k, r.ownBlock = some k → bn ≤ k ∧ k < w9.heap.size) := Lib.hid (fun k hk => by
                    have h5 := hr9 k hk
                    refine ⟨by omega, ?_⟩
                    obtain ⟨b5, o5, c5, he5, hc5⟩ := hI9.cell (k := 0) (by rw [HLW.out]; omega)
                    rw [he5] at hk
                    cases hk
                    exact cell_lt hc5)
                  have HB9 : Hid (Below wr.heap.size wr w9) := Lib.hid (HB8.out.trans (hB9.mono hs8))
                  have HR9 := Lib.hid (HR2.out.below (HB9.out.mono hbs))
                  have HBB9 := Lib.hid (HBB.out.trans (HB9.out.mono HBB.out.size))
                  obtain ⟨a9, c9, rfl, _⟩ := hI9
                  rw [HLW.out] at HI9 HUL ⊢
                  clear hB9 hr9 HO9 HR2
                  go_wp2_with (at_builtin; go_loud (refine push_rowI w9 rfl _ _ rfl wb.heap.size bn _ ((roundM zs N rows).take p) _ (lensF (counts (took zs rows p m) N)) HR9.out HI9.out HUL.out rfl rfl (by rw [HRLL.out]; omega) ?_))
                  intro v3 w3 hR3 hB3 _ _
                  rw [← HRS.out] at hR3
                  have HR3 := Lib.hid hR3
                  have HB3 : Hid (Below wb.heap.size wb w3) := Lib.hid (HBB9.out.trans hB3)
                  clear hR3 hB3
                  go_wp2_with fail
                  go_roundw
                  case rel => exact ⟨p + 1, w3.heap.size, _, by go_num, rfl, by omega, HR3.out, HB3.out⟩
                  case measure => simp [intOf]; omega
            · obtain rfl : p = T := by omega
              have hpi : ¬ (p : Int) < (p : Int) := by omega
              have HRA : Hid (OwnRI wr wb.heap.size bn u (roundM zs N rows)) := Lib.hid (by have h := HR.out; rw [List.take_of_length_le (by rw [HRML.out]; exact Nat.le_refl _)] at h; exact h)
              have HUA := Lib.hid (HUB.out.below HB.out)
              have HBA : Hid (Below wa.heap.size wa wr) := Lib.hid (HAB.out.trans (HB.out.mono HAB.out.size))
              obtain ⟨aR, cR, rfl⟩ := HRA.out.slice
              rw [HRML.out] at HRA ⊢
              obtain ⟨k1, k2, k3, k4, k5, k6, k7, k8⟩ := HO.out
              have hg6 := (HBA.out.block C hCl).trans k2
              have hHl := (Array.getElem?_eq_some_iff.1 k1).1
              have HNX : Hid (RfI H C BG bG w (wr.setRow C #[.slice aR p cR, .slice aP j cP]) zs N (i + 1) (.slice aR p cR) (.slice aP j cP) (.slice aG j cG)) := Lib.hid (by
                have hke : Kept (C + 1) (wr.setRow C #[.slice aR p cR, .slice aP j cP]) (.slice aR p cR) (.slice aP j cP) (rnd zs N (i + 1)) (picksM zs (rnd zs N i) (ng zs.length)) := fun W hW hs => by
                  rw [setRow_size] at hW hs
                  have hsame : ∀ k, C + 1 ≤ k → k < wr.heap.size → W.heap[k]? = wr.heap[k]? := fun k h1 h2 => (hW k h1 h2).trans (setRow_other wr C k _ (by omega))
                  rw [HNXR.out, HROWS.out, HQ.out]
                  have hab := HAB.out.size
                  refine ⟨(HRA.out.same (fun k h1 h2 => hsame k (by omega) (by omega)) hs).rr, (HUA.out.same (fun k hk => ?_)).ints⟩
                  have h5 := HUA.out.lt k hk
                  exact hsame k (by omega) (by omega)
                have hgk : OwnRI (wr.setRow C #[.slice aR p cR, .slice aP j cP]) BG bG (.slice aG j cG) (grps zs (ng zs.length)) := by
                  have h5 := k6.below (HBA.out.mono k6.2.1)
                  exact h5.same (fun k h1 h2 => setRow_other wr C k _ (by omega)) (by rw [setRow_size]; exact Nat.le_refl _)
                exact ⟨(setRow_other wr C H _ (by omega)).trans ((HBA.out.block H hHl).trans k1), setRow_heap wr C _ _ _ (0, 0) hg6, hke.now.1, below_setRow (k4.trans (HBA.out.mono (by omega))) (by omega) _, fun _ => hke, hgk, k7, k8⟩)
              clear k1 k2 k3 k4 k5 k6
              go_wp2_with (refine wpList_store_row rfl 41 _ _ rfl C #[.slice aR p cR, .slice aP j cP] rfl rfl 41 _ hg6 hi rfl (ch_all _ _ _ _ _ _) ?_)
              go_roundw
              case rel => exact ⟨i + 1, _, _, by go_num, by omega, HNX.out⟩
              case measure => simp [intOf]; omega
    · obtain rfl : i = 4 := by omega
      have k9 := k5 (by omega)
      obtain ⟨hR4, hP4⟩ := k9.now
      obtain ⟨aL6, cL6, rfl, _⟩ := hR4
      obtain ⟨aP6, cP6, rfl, _⟩ := hP4
      obtain ⟨M1, hM1⟩ : ∃ M, (rnd zs N 4).length = M := ⟨_, rfl⟩
      obtain ⟨M2, hM2⟩ : ∃ M, (picksM zs (rnd zs N (4 - 1)) (ng zs.length)).length = M := ⟨_, rfl⟩
      rw [hM1, hM2] at k2 k9
      have HF : Hid (IsRR (wr.setRow H #[.slice aL6 M1 cL6, .slice aP6 M2 cP6]) (.slice aL6 M1 cL6) (rnd zs N 4) ∧ IsInts (wr.setRow H #[.slice aL6 M1 cL6, .slice aP6 M2 cP6]) (.slice aP6 M2 cP6) (picksM zs (rnd zs N 3) (ng zs.length))) := Lib.hid (k9 _ (fun k hk _ => setRow_other wr H k _ (by omega)) (by rw [setRow_size]; exact Nat.le_refl _))
      have HBB : Hid (Below H w (wr.setRow H #[.slice aL6 M1 cL6, .slice aP6 M2 cP6])) := Lib.hid (below_setRow k4 (Nat.le_refl _) _)
      clear k3 k4 k5 k6 k9 hM1 hM2 HO
      go_wp2_with (first | (refine wpList_load_row rfl 41 _ rfl C rfl 41 #[.slice aL6 M1 cL6, .slice aP6 M2 cP6] (0, 0) _ k2 hu rfl hi ?_) | (refine wpList_store_row rfl 41 _ _ rfl H #[.slice aL6 M1 cL6, .slice aP6 M2 cP6] rfl rfl 41 _ k1 hi rfl (ch_all _ _ _ _ _ _) ?_))
      exact bodyPost_ret (v := .agg #[.slice aL6 M1 cL6, .slice aP6 M2 cP6]) (results_cell_row rfl _ _ H 41 _ (0, 0) _ rfl (setRow_heap _ _ _ _ _ _ k1) hu rfl hi) rfl ⟨_, _, rfl, HF.out.1, HF.out.2, by rw [HHH.out]; exact HBB.out⟩
end Go.Proofs.YtmlcdfimcabgkaaDoor
namespace Go.Proofs.YtmlcdfimcabgkaaDoor
open Go.RowKit TabM FreqM HufM
set_option linter.unusedVariables false
theorem ch_nil (W : World) : ChIs W (.slice none 0 0) (.slice none 0 0) [] [] := ⟨⟨none, 0, rfl, fun i g h => by simp at h⟩, IsInts.nil W, by simp, fun x hx => by simp at hx, by simp⟩
set_option maxRecDepth 100000 in
set_option maxHeartbeats 4000000 in
theorem tablesOf.far (l : Option Addr) (M lcap : Nat) (n : Int) (w : World) (hB : Bnds w) (h : 320 < M ∨ (40 < n ∧ n ≤ 258)) :
    Calls Tryd.prog 4 #[.slice l M lcap, .int .i64 n] w fun e w' => e = .returned (.bool true) ∧ Below w.heap.size w w' := by
  have H3 := Lib.hid (tabThree_any w hB)
  clear hB
  by_cases h1 : 320 < M
  · have h1i : (320 : Int) < (M : Int) := by omega
    clear h
    go_enter Tryd.func4, Tryd.ntmps4
    go_wp2_with fail
    refine H3.out.mono ?_
    rintro e w9 ⟨rfl, hb9⟩
    have HB9 := Lib.hid hb9
    clear hb9
    go_wp2_with fail
    go_ret
    exact ⟨rfl, HB9.out⟩
  · have h1i : ¬ (320 : Int) < (M : Int) := by omega
    have h2 : 40 < n := by omega
    have h4 : n ≤ 258 := by omega
    clear h
    go_enter Tryd.func4, Tryd.ntmps4
    go_wp2_with fail
    refine H3.out.mono ?_
    rintro e w9 ⟨rfl, hb9⟩
    have HB9 := Lib.hid hb9
    clear hb9
    go_wp2_with fail
    go_ret
    exact ⟨rfl, HB9.out⟩
set_option maxRecDepth 100000 in
set_option maxHeartbeats 8000000 in
theorem tablesOf.bad (l : Option Addr) (M lcap : Nat) (zs : List Int) (n : Int) (w : World) (hB : Bnds w) (hI : IsInts w (.slice l M lcap) zs) (hlen : zs.length = M) (h320 : M ≤ 320) (h40 : ¬ (40 < n ∧ n ≤ 258)) (hbad : zs = [] ∨ ¬ CntOk zs n) :
    Calls Tryd.prog 4 #[.slice l M lcap, .int .i64 n] w fun e w' => e = .returned (.bool true) ∧ Below w.heap.size w w' := by
  have H3 := Lib.hid (fun W hW => tabThree_any W hW)
  have HO := Lib.hid (of12_bad _ zs n w hI (by omega) hbad)
  have HBN := Lib.hid hB
  have HI := Lib.hid hI
  have h1i : ¬ (320 : Int) < (M : Int) := by omega
  have hi := info_ch
  have hu := Tryd.underlying35
  by_cases h0 : M = 0
  · subst h0
    clear hB hI hbad hlen
    by_cases h2 : 40 < n
    · have h4 : ¬ n ≤ 258 := by omega
      go_enter Tryd.func4, Tryd.ntmps4
      go_wp2_with fail
      refine HO.out.mono ?_
      rintro e w1 ⟨rfl, hB1⟩
      have hg := heap_alloc_new w1 (.cells #[.slice none 0 0, .slice none 0 0] 35)
      have hb2 := (Below.refl w1.heap.size w1).alloc (Nat.le_refl _) (.cells #[.slice none 0 0, .slice none 0 0] 35)
      have HB2 : Hid (Below w.heap.size w (w1.alloc (.cells #[.slice none 0 0, .slice none 0 0] 35))) := Lib.hid (hB1.trans (hb2.mono hB1.size))
      have HBN2 := Lib.hid (HBN.out.below HB2.out)
      have HI2 := Lib.hid (HI.out.below HB2.out)
      clear hb2 hB1
      go_wp2_with (first | (refine BigFrame.wpList_want rfl (fun K hK => wp_load_row 35 _ rfl w1.heap.size rfl 35 #[.slice none 0 0, .slice none 0 0] (0, 0) _ hg hu rfl hi (hK _ _ ?_))) | (refine wpList_load_row rfl 35 _ rfl w1.heap.size rfl 35 #[.slice none 0 0, .slice none 0 0] (0, 0) _ hg hu rfl hi ?_))
      refine (same12_any _ _ _ _ [] [] [] [] true _ (ch_nil _) (ch_nil _) ⟨fun _ => ⟨rfl, rfl⟩, fun _ => rfl⟩).mono ?_
      rintro e w5 ⟨rfl, hB5⟩
      have HB5 := Lib.hid (HB2.out.trans (hB5.mono HB2.out.size))
      have HBN5 := Lib.hid (HBN2.out.below hB5)
      clear hB5 hg
      go_wp2_with fail
      refine (H3.out _ HBN5.out).mono ?_
      rintro e w9 ⟨rfl, hb9⟩
      have HB9 := Lib.hid (HB5.out.trans (hb9.mono HB5.out.size))
      clear hb9
      go_wp2_with fail
      go_ret
      exact ⟨rfl, HB9.out⟩
    · clear h40
      go_enter Tryd.func4, Tryd.ntmps4
      go_wp2_with fail
      refine HO.out.mono ?_
      rintro e w1 ⟨rfl, hB1⟩
      have hg := heap_alloc_new w1 (.cells #[.slice none 0 0, .slice none 0 0] 35)
      have hb2 := (Below.refl w1.heap.size w1).alloc (Nat.le_refl _) (.cells #[.slice none 0 0, .slice none 0 0] 35)
      have HB2 : Hid (Below w.heap.size w (w1.alloc (.cells #[.slice none 0 0, .slice none 0 0] 35))) := Lib.hid (hB1.trans (hb2.mono hB1.size))
      have HBN2 := Lib.hid (HBN.out.below HB2.out)
      have HI2 := Lib.hid (HI.out.below HB2.out)
      clear hb2 hB1
      go_wp2_with (first | (refine BigFrame.wpList_want rfl (fun K hK => wp_load_row 35 _ rfl w1.heap.size rfl 35 #[.slice none 0 0, .slice none 0 0] (0, 0) _ hg hu rfl hi (hK _ _ ?_))) | (refine wpList_load_row rfl 35 _ rfl w1.heap.size rfl 35 #[.slice none 0 0, .slice none 0 0] (0, 0) _ hg hu rfl hi ?_))
      refine (same12_any _ _ _ _ [] [] [] [] true _ (ch_nil _) (ch_nil _) ⟨fun _ => ⟨rfl, rfl⟩, fun _ => rfl⟩).mono ?_
      rintro e w5 ⟨rfl, hB5⟩
      have HB5 := Lib.hid (HB2.out.trans (hB5.mono HB2.out.size))
      have HBN5 := Lib.hid (HBN2.out.below hB5)
      clear hB5 hg
      go_wp2_with fail
      refine (H3.out _ HBN5.out).mono ?_
      rintro e w9 ⟨rfl, hb9⟩
      have HB9 := Lib.hid (HB5.out.trans (hb9.mono HB5.out.size))
      clear hb9
      go_wp2_with fail
      go_ret
      exact ⟨rfl, HB9.out⟩
  · have h0b : ((M : Int) == 0) = false := by rw [beq_eq_false_iff_ne]; omega
    by_cases h2 : 40 < n
    · have h4 : ¬ n ≤ 258 := by omega
      have HSZ := Lib.hid (fun W => rSize_any n false W ⟨fun e => (by cases e), fun e => by omega⟩)
      clear hB hI hbad hlen h0
      go_enter Tryd.func4, Tryd.ntmps4
      go_wp2_with fail
      refine HO.out.mono ?_
      rintro e w1 ⟨rfl, hB1⟩
      have hg := heap_alloc_new w1 (.cells #[.slice none 0 0, .slice none 0 0] 35)
      have hb2 := (Below.refl w1.heap.size w1).alloc (Nat.le_refl _) (.cells #[.slice none 0 0, .slice none 0 0] 35)
      have HB2 : Hid (Below w.heap.size w (w1.alloc (.cells #[.slice none 0 0, .slice none 0 0] 35))) := Lib.hid (hB1.trans (hb2.mono hB1.size))
      have HBN2 := Lib.hid (HBN.out.below HB2.out)
      have HI2 := Lib.hid (HI.out.below HB2.out)
      clear hb2 hB1
      go_wp2_with (first | (refine BigFrame.wpList_want rfl (fun K hK => wp_load_row 35 _ rfl w1.heap.size rfl 35 #[.slice none 0 0, .slice none 0 0] (0, 0) _ hg hu rfl hi (hK _ _ ?_))) | (refine wpList_load_row rfl 35 _ rfl w1.heap.size rfl 35 #[.slice none 0 0, .slice none 0 0] (0, 0) _ hg hu rfl hi ?_))
      refine (HSZ.out _).mono ?_
      rintro e w2 ⟨rfl, rfl⟩
      go_wp2_with (first | (refine BigFrame.wpList_want rfl (fun K hK => wp_load_row 35 _ rfl w1.heap.size rfl 35 #[.slice none 0 0, .slice none 0 0] (0, 0) _ hg hu rfl hi (hK _ _ ?_))) | (refine wpList_load_row rfl 35 _ rfl w1.heap.size rfl 35 #[.slice none 0 0, .slice none 0 0] (0, 0) _ hg hu rfl hi ?_))
      refine (same12_any _ _ _ _ [] [] [] [] true _ (ch_nil _) (ch_nil _) ⟨fun _ => ⟨rfl, rfl⟩, fun _ => rfl⟩).mono ?_
      rintro e w5 ⟨rfl, hB5⟩
      have HB5 := Lib.hid (HB2.out.trans (hB5.mono HB2.out.size))
      have HBN5 := Lib.hid (HBN2.out.below hB5)
      clear hB5 hg
      go_wp2_with fail
      refine (H3.out _ HBN5.out).mono ?_
      rintro e w9 ⟨rfl, hb9⟩
      have HB9 := Lib.hid (HB5.out.trans (hb9.mono HB5.out.size))
      clear hb9
      go_wp2_with fail
      go_ret
      exact ⟨rfl, HB9.out⟩
    · by_cases h3 : n < 3
      · have HSZ := Lib.hid (fun W => rSize_any n false W ⟨fun e => (by cases e), fun e => by omega⟩)
        clear hB hI hbad hlen h0 h40
        go_enter Tryd.func4, Tryd.ntmps4
        go_wp2_with fail
        refine HO.out.mono ?_
        rintro e w1 ⟨rfl, hB1⟩
        have hg := heap_alloc_new w1 (.cells #[.slice none 0 0, .slice none 0 0] 35)
        have hb2 := (Below.refl w1.heap.size w1).alloc (Nat.le_refl _) (.cells #[.slice none 0 0, .slice none 0 0] 35)
        have HB2 : Hid (Below w.heap.size w (w1.alloc (.cells #[.slice none 0 0, .slice none 0 0] 35))) := Lib.hid (hB1.trans (hb2.mono hB1.size))
        have HBN2 := Lib.hid (HBN.out.below HB2.out)
        have HI2 := Lib.hid (HI.out.below HB2.out)
        clear hb2 hB1
        go_wp2_with (first | (refine BigFrame.wpList_want rfl (fun K hK => wp_load_row 35 _ rfl w1.heap.size rfl 35 #[.slice none 0 0, .slice none 0 0] (0, 0) _ hg hu rfl hi (hK _ _ ?_))) | (refine wpList_load_row rfl 35 _ rfl w1.heap.size rfl 35 #[.slice none 0 0, .slice none 0 0] (0, 0) _ hg hu rfl hi ?_))
        refine (HSZ.out _).mono ?_
        rintro e w2 ⟨rfl, rfl⟩
        go_wp2_with (first | (refine BigFrame.wpList_want rfl (fun K hK => wp_load_row 35 _ rfl w1.heap.size rfl 35 #[.slice none 0 0, .slice none 0 0] (0, 0) _ hg hu rfl hi (hK _ _ ?_))) | (refine wpList_load_row rfl 35 _ rfl w1.heap.size rfl 35 #[.slice none 0 0, .slice none 0 0] (0, 0) _ hg hu rfl hi ?_))
        refine (same12_any _ _ _ _ [] [] [] [] true _ (ch_nil _) (ch_nil _) ⟨fun _ => ⟨rfl, rfl⟩, fun _ => rfl⟩).mono ?_
        rintro e w5 ⟨rfl, hB5⟩
        have HB5 := Lib.hid (HB2.out.trans (hB5.mono HB2.out.size))
        have HBN5 := Lib.hid (HBN2.out.below hB5)
        clear hB5 hg
        go_wp2_with fail
        refine (H3.out _ HBN5.out).mono ?_
        rintro e w9 ⟨rfl, hb9⟩
        have HB9 := Lib.hid (HB5.out.trans (hb9.mono HB5.out.size))
        clear hb9
        go_wp2_with fail
        go_ret
        exact ⟨rfl, HB9.out⟩
      · have hs : ¬ Syms zs n := fun h => by
          rcases hbad with h5 | h5
          · rw [h5] at hlen
            simp at hlen
            omega
          · exact h5 ⟨by omega, by omega, h⟩
        have HSZ := Lib.hid (fun W => rSize_any n true W ⟨fun _ => by omega, fun _ => rfl⟩)
        have HOF := Lib.hid (fun W hW => rOf_any (.slice l M lcap) zs n false W hW (by omega) ⟨fun e => (by cases e), fun e => absurd e hs⟩)
        clear hB hI hbad hlen h0 h40 hs
        go_enter Tryd.func4, Tryd.ntmps4
        go_wp2_with fail
        refine HO.out.mono ?_
        rintro e w1 ⟨rfl, hB1⟩
        have hg := heap_alloc_new w1 (.cells #[.slice none 0 0, .slice none 0 0] 35)
        have hb2 := (Below.refl w1.heap.size w1).alloc (Nat.le_refl _) (.cells #[.slice none 0 0, .slice none 0 0] 35)
        have HB2 : Hid (Below w.heap.size w (w1.alloc (.cells #[.slice none 0 0, .slice none 0 0] 35))) := Lib.hid (hB1.trans (hb2.mono hB1.size))
        have HBN2 := Lib.hid (HBN.out.below HB2.out)
        have HI2 := Lib.hid (HI.out.below HB2.out)
        clear hb2 hB1
        go_wp2_with (first | (refine BigFrame.wpList_want rfl (fun K hK => wp_load_row 35 _ rfl w1.heap.size rfl 35 #[.slice none 0 0, .slice none 0 0] (0, 0) _ hg hu rfl hi (hK _ _ ?_))) | (refine wpList_load_row rfl 35 _ rfl w1.heap.size rfl 35 #[.slice none 0 0, .slice none 0 0] (0, 0) _ hg hu rfl hi ?_))
        refine (HSZ.out _).mono ?_
        rintro e w2 ⟨rfl, rfl⟩
        go_wp2_with (first | (refine BigFrame.wpList_want rfl (fun K hK => wp_load_row 35 _ rfl w1.heap.size rfl 35 #[.slice none 0 0, .slice none 0 0] (0, 0) _ hg hu rfl hi (hK _ _ ?_))) | (refine wpList_load_row rfl 35 _ rfl w1.heap.size rfl 35 #[.slice none 0 0, .slice none 0 0] (0, 0) _ hg hu rfl hi ?_))
        refine (HOF.out _ HI2.out).mono ?_
        rintro e w2 ⟨rfl, rfl⟩
        go_wp2_with (first | (refine BigFrame.wpList_want rfl (fun K hK => wp_load_row 35 _ rfl w1.heap.size rfl 35 #[.slice none 0 0, .slice none 0 0] (0, 0) _ hg hu rfl hi (hK _ _ ?_))) | (refine wpList_load_row rfl 35 _ rfl w1.heap.size rfl 35 #[.slice none 0 0, .slice none 0 0] (0, 0) _ hg hu rfl hi ?_))
        refine (same12_any _ _ _ _ [] [] [] [] true _ (ch_nil _) (ch_nil _) ⟨fun _ => ⟨rfl, rfl⟩, fun _ => rfl⟩).mono ?_
        rintro e w5 ⟨rfl, hB5⟩
        have HB5 := Lib.hid (HB2.out.trans (hB5.mono HB2.out.size))
        have HBN5 := Lib.hid (HBN2.out.below hB5)
        clear hB5 hg
        go_wp2_with fail
        refine (H3.out _ HBN5.out).mono ?_
        rintro e w9 ⟨rfl, hb9⟩
        have HB9 := Lib.hid (HB5.out.trans (hb9.mono HB5.out.size))
        clear hb9
        go_wp2_with fail
        go_ret
        exact ⟨rfl, HB9.out⟩
set_option maxRecDepth 100000 in
set_option maxHeartbeats 8000000 in
theorem tablesOf.good (l : Option Addr) (M lcap : Nat) (zs : List Int) (N : Nat) (w : World) (hB : Bnds w) (hI : IsInts w (.slice l M lcap) zs) (hlen : zs.length = M) (hc : M ≤ lcap) (hc2 : lcap ≤ 9223372036854775807) (h320 : M ≤ 320) (h1 : 1 ≤ M) (h3 : 3 ≤ N) (h40 : N ≤ 40) (hsy : Syms zs (N : Int)) :
    Calls Tryd.prog 4 #[.slice l M lcap, .int .i64 (N : Int)] w fun e w' => e = .returned (.bool true) ∧ Below w.heap.size w w' := by
  have H3 := Lib.hid (fun W hW => tabThree_any W hW)
  have h1i : ¬ (320 : Int) < (M : Int) := by omega
  have h0b : ((M : Int) == 0) = false := by rw [beq_eq_false_iff_ne]; omega
  have h40i : ¬ (40 : Int) < (N : Int) := by omega
  have HSZ := Lib.hid (fun W => rSize_any (N : Int) true W ⟨fun _ => by omega, fun _ => rfl⟩)
  have HOF := Lib.hid (fun W hW => rOf_any (.slice l M lcap) zs (N : Int) true W hW (by omega) ⟨fun _ => hsy, fun _ => rfl⟩)
  have HO := Lib.hid (of12_any l M lcap zs N w hI hlen (by omega) hc hc2 hB hsy h1 h3 (by omega))
  have HRO := Lib.hid (fun W hW => rOf12_any l M lcap zs N W hW hlen (by omega) hsy h1 h3 (by omega))
  have hi := info_ch
  have hu := Tryd.underlying35
  have HBN := Lib.hid hB
  have HI := Lib.hid hI
  have HT : Hid ((rnd zs N 4).length ≤ 1000000 ∧ (∀ x ∈ rnd zs N 4, x.length ≤ 9223372036854775807) ∧ (picksM zs (rnd zs N 3) (ng zs.length)).length ≤ 9223372036854775807) := Lib.hid (by
    have hok := rnd_ok (zs := zs) h3 (show N ≤ 258 by omega) (by omega) 4
    refine ⟨by have := hok.2.1; omega, fun x hx => by rw [(hok.2.2 x hx).1]; omega, ?_⟩
    rw [picksM_len]
    unfold ng
    omega)
  clear hsy hB hI hlen
  generalize picksM zs (rnd zs N 3) (ng zs.length) = ps at *
  generalize rnd zs N 4 = rows at *
  go_enter Tryd.func4, Tryd.ntmps4
  go_wp2_with fail
  refine HO.out.mono ?_
  rintro e w3 ⟨vL, vP, rfl, hL, hP, hB3⟩
  have hC3 : ChIs w3 vL vP rows ps := ⟨hL, hP, HT.out.1, HT.out.2.1, HT.out.2.2⟩
  have hB4 := (Below.refl w3.heap.size w3).alloc (Nat.le_refl _) (.cells #[vL, vP] 35)
  have HC4 := Lib.hid (hC3.below hB4)
  have HB4 := Lib.hid (hB3.trans (hB4.mono hB3.size))
  have hg := heap_alloc_new w3 (.cells #[vL, vP] 35)
  have HBN4 := Lib.hid (HBN.out.below HB4.out)
  have HI4 := Lib.hid (HI.out.below HB4.out)
  obtain ⟨aL, cL, rfl, _⟩ := hL
  obtain ⟨aP, cP, rfl, _⟩ := hP
  obtain ⟨M1, hM1⟩ : ∃ M, rows.length = M := ⟨_, rfl⟩
  obtain ⟨M2, hM2⟩ : ∃ M, ps.length = M := ⟨_, rfl⟩
  rw [hM1, hM2] at hg HC4 HB4 HBN4 HI4 ⊢
  clear hB3 hB4 hC3 hM1 hM2
  go_wp2_with (first | (refine BigFrame.wpList_want rfl (fun K hK => wp_load_row 35 _ rfl w3.heap.size rfl 35 #[.slice aL M1 cL, .slice aP M2 cP] (0, 0) _ hg hu rfl hi (hK _ _ ?_))) | (refine wpList_load_row rfl 35 _ rfl w3.heap.size rfl 35 #[.slice aL M1 cL, .slice aP M2 cP] (0, 0) _ hg hu rfl hi ?_))
  generalize w3.alloc (.cells #[.slice aL M1 cL, .slice aP M2 cP] 35) = w4 at *
  refine (HSZ.out _).mono ?_
  rintro e w2 ⟨rfl, rfl⟩
  go_wp2_with (first | (refine BigFrame.wpList_want rfl (fun K hK => wp_load_row 35 _ rfl w3.heap.size rfl 35 #[.slice aL M1 cL, .slice aP M2 cP] (0, 0) _ hg hu rfl hi (hK _ _ ?_))) | (refine wpList_load_row rfl 35 _ rfl w3.heap.size rfl 35 #[.slice aL M1 cL, .slice aP M2 cP] (0, 0) _ hg hu rfl hi ?_))
  refine (HOF.out _ HI4.out).mono ?_
  rintro e w2 ⟨rfl, rfl⟩
  go_wp2_with (first | (refine BigFrame.wpList_want rfl (fun K hK => wp_load_row 35 _ rfl w3.heap.size rfl 35 #[.slice aL M1 cL, .slice aP M2 cP] (0, 0) _ hg hu rfl hi (hK _ _ ?_))) | (refine wpList_load_row rfl 35 _ rfl w3.heap.size rfl 35 #[.slice aL M1 cL, .slice aP M2 cP] (0, 0) _ hg hu rfl hi ?_))
  refine (ref12_any _ _ _ _ _ _ _).mono ?_
  rintro e w5 ⟨rfl, hB5⟩
  have HC5 := Lib.hid (HC4.out.below hB5)
  have HB5 := Lib.hid (HB4.out.trans (hB5.mono HB4.out.size))
  have HBN5 := Lib.hid (HBN4.out.below hB5)
  have HI5 := Lib.hid (HI4.out.below hB5)
  clear hB5 hg hu hi
  go_wp2_with fail
  refine (HRO.out _ HI5.out).mono ?_
  rintro e w6 ⟨uL, uP, rfl, hL6, hP6, hB6⟩
  have HD6 : Hid (ChIs w6 uL uP rows ps) := Lib.hid ⟨hL6, hP6, HT.out.1, HT.out.2.1, HT.out.2.2⟩
  have HC6 := Lib.hid (HC5.out.below hB6)
  have HB6 := Lib.hid (HB5.out.trans (hB6.mono HB5.out.size))
  have HBN6 := Lib.hid (HBN5.out.below hB6)
  obtain ⟨bL, dL, rfl, _⟩ := hL6
  obtain ⟨bP, dP, rfl, _⟩ := hP6
  obtain ⟨M3, hM3⟩ : ∃ M, rows.length = M := ⟨_, rfl⟩
  obtain ⟨M4, hM4⟩ : ∃ M, ps.length = M := ⟨_, rfl⟩
  rw [hM3, hM4] at HD6 ⊢
  clear hB6 hM3 hM4
  go_wp2_with fail
  refine (rsame12_any _ _ _ _ rows rows ps ps true _ HC6.out HD6.out ⟨fun _ => ⟨rfl, rfl⟩, fun _ => rfl⟩).mono ?_
  rintro e w7 ⟨rfl, hB7⟩
  have HB7 := Lib.hid (HB6.out.trans (hB7.mono HB6.out.size))
  have HBN7 := Lib.hid (HBN6.out.below hB7)
  clear hB7
  go_wp2_with fail
  refine (H3.out _ HBN7.out).mono ?_
  rintro e w9 ⟨rfl, hb9⟩
  have HB9 := Lib.hid (HB7.out.trans (hb9.mono HB7.out.size))
  clear hb9
  go_wp2_with fail
  go_ret
  exact ⟨rfl, HB9.out⟩
theorem tablesOf.walk (l : Option Addr) (llen lcap : Nat) (lz : List Int) (n : Int) (w : World) (hB : Bnds w) (hl : IsRow .i64 w l llen lcap lz) (hn : (Lit.int .i64 n).wf = true) :
    Calls Tryd.prog 4 #[.slice l llen lcap, .int .i64 n] w fun e w' => e = .returned (.bool true) ∧ Below w.heap.size w w' := by
  obtain ⟨hI, hlen⟩ := ints_in hl
  obtain ⟨hl1, hl2⟩ := isRow_len hl
  generalize List.take llen lz = zs at *
  by_cases h : 320 < llen ∨ (40 < n ∧ n ≤ 258)
  · exact tablesOf.far l llen lcap n w hB h
  · have h1 : ¬ 320 < llen := fun e => h (Or.inl e)
    have h2 : ¬ (40 < n ∧ n ≤ 258) := fun e => h (Or.inr e)
    by_cases hb : zs = [] ∨ ¬ CntOk zs n
    · exact tablesOf.bad l llen lcap zs n w hB hI hlen (by omega) h2 hb
    · have h3 : zs ≠ [] := fun e => hb (Or.inl e)
      have h4 : CntOk zs n := Classical.not_not.1 (fun e => hb (Or.inr e))
      obtain ⟨N, rfl⟩ : ∃ N : Nat, n = (N : Int) := ⟨n.toNat, by have := h4.1; omega⟩
      have h5 := h4.1
      have h6 := h4.2.1
      exact tablesOf.good l llen lcap zs N w hB hI hlen hl1 hl2 (by omega) (by have := List.length_pos_iff.2 h3; omega) (by omega) (by omega) h4.2.2
end Go.Proofs.YtmlcdfimcabgkaaDoor
