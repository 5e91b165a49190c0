/-
  THE WALKS OF LAYER 12's CODE AND OF THE DOCUMENT's ANSWER: rows held against rows; Same.
-/
import Derived.Test.YtmlcdfimcabgkaaDoorTabH
import Derived.Shelf.Abstract
namespace Go.Proofs.YtmlcdfimcabgkaaDoor
open Go.RowKit TabM FreqM HufM
set_option linter.unusedVariables false
set_option maxRecDepth 100000 in
set_option maxHeartbeats 2000000 in
theorem equal_any (v u : Value) (zs ys : List Int) (r : Bool) (w : World) (hv : IsInts w v zs) (hu : IsInts w u ys) (hr : r = true ↔ zs = ys) (hz1 : zs.length ≤ 9223372036854775807) (hz2 : ys.length ≤ 9223372036854775807) :
    Calls Tryd.prog 37 #[v, u] w fun e w' => e = .returned (.bool r) ∧ ∃ n, w' = w.drewN n := by
  have HV := Lib.hid hv
  have HU := Lib.hid hu
  have HRR := Lib.hid hr
  obtain ⟨a1, cap1, rfl, _⟩ := hv
  obtain ⟨a2, cap2, rfl, _⟩ := hu
  clear hr
  by_cases hl : zs.length = ys.length
  · have hlb : ((zs.length : Int) != (ys.length : Int)) = false := by rw [hl]; simp
    obtain ⟨N, hN⟩ : ∃ N, zs.length = N := ⟨_, rfl⟩
    have HN := Lib.hid hN
    have HM : Hid (ys.length = N) := Lib.hid (by rw [← hl, hN])
    rw [HM.out] at hlb hz2 HU ⊢
    rw [HN.out] at hlb hz1 HV ⊢
    clear hl hN
    go_enter Tryd.func37, Tryd.ntmps37
    go_wp2_with fail
    go_loopw [13] (fun vi wr => ∃ k m : Nat, vi = .int .i64 (k : Int) ∧ k ≤ N ∧ wr = w.drewN m ∧ ∀ j, j < k → zs.getD j 0 = ys.getD j 0) (fun vi _ => N - (intOf vi).toNat)
    case atStart => exact ⟨0, 0, rfl, by omega, rfl, fun j hj => by omega⟩
    case round =>
      obtain ⟨k, m, rfl, hk, rfl, hA⟩ := hrel
      have HA := Lib.hid hA
      clear hA
      by_cases hkN : k < N
      · have hki : (k : Int) < (N : Int) := by omega
        obtain ⟨b1, o1, k1, he1, c1⟩ := HV.out.cell (show k < zs.length by rw [HN.out]; exact hkN)
        rw [HN.out] at he1
        simp only [Value.slice.injEq] at he1
        obtain ⟨rfl, he1b, rfl⟩ := he1
        obtain ⟨b2, o2, k2, he2, c2⟩ := HU.out.cell (show k < ys.length by rw [HM.out]; exact hkN)
        rw [HM.out] at he2
        simp only [Value.slice.injEq] at he2
        obtain ⟨rfl, he2b, rfl⟩ := he2
        clear he1b he2b
        obtain ⟨x, hx⟩ : ∃ x, zs.getD k 0 = x := ⟨_, rfl⟩
        obtain ⟨y, hy⟩ : ∃ y, ys.getD k 0 = y := ⟨_, rfl⟩
        rw [hx] at c1
        rw [hy] at c2
        have HX := Lib.hid hx
        have HY := Lib.hid hy
        clear hx hy
        by_cases hxy : x = y
        · have hb : (x != y) = false := by rw [hxy]; simp
          have HA2 : Hid (∀ j, j < k + 1 → zs.getD j 0 = ys.getD j 0) := Lib.hid (fun j hj => by
            by_cases e : j = k
            · rw [e, HX.out, HY.out, hxy]
            · exact HA.out j (by omega))
          clear hxy
          go_wp2_with fail
          go_quiet (fail)
          go_wp2_with fail
          go_roundw
          case rel => exact ⟨k + 1, _, by go_num, by omega, rfl, HA2.out⟩
          case measure => simp [intOf]; omega
        · have hb : (x != y) = true := by rw [bne_iff_ne]; exact hxy
          have hrf : r = false := by
            rw [Bool.eq_false_iff, Ne, HRR.out]
            intro h
            rw [h, HY.out] at HX
            exact hxy HX.out.symm
          subst hrf
          clear hxy
          go_wp2_with fail
          go_quiet (fail)
          go_wp2_with fail
          go_ret
          exact ⟨rfl, _, World.drewN_drewN ..⟩
      · have hki : ¬ (k : Int) < (N : Int) := by omega
        have hrt : r = true := by
          rw [HRR.out]
          apply List.ext_getElem
          · rw [HN.out, HM.out]
          · intro j h1 h2
            have := HA.out j (by rw [HN.out] at h1; omega)
            rw [List.getD_eq_getElem?_getD, List.getD_eq_getElem?_getD, List.getElem?_eq_getElem h1, List.getElem?_eq_getElem h2] at this
            exact this
        subst hrt
        go_wp2_with fail
        go_ret
        exact ⟨rfl, m, rfl⟩
  · have hlb : ((zs.length : Int) != (ys.length : Int)) = true := by rw [bne_iff_ne]; omega
    obtain rfl : r = false := by rw [Bool.eq_false_iff, Ne, HRR.out]; exact fun h => hl (by rw [h])
    clear hl
    go_enter Tryd.func37, Tryd.ntmps37
    go_wp2_with fail
    go_ret
    exact ⟨rfl, 0, rfl⟩
theorem rows_ext {gs hs : List (List Int)} (hl : gs.length = hs.length) (h : ∀ j, j < gs.length → rw_ gs j = rw_ hs j) : gs = hs := by
  apply List.ext_getElem hl
  intro j h1 h2
  have := h j h1
  unfold rw_ at this
  rw [List.getD_eq_getElem?_getD, List.getD_eq_getElem?_getD, List.getElem?_eq_getElem h1, List.getElem?_eq_getElem h2] at this
  exact this
set_option maxRecDepth 100000 in
set_option maxHeartbeats 2000000 in
theorem rows_any12 (v u : Value) (gs hs : List (List Int)) (r : Bool) (w : World) (hv : IsRR w v gs) (hu : IsRR w u hs) (hr : r = true ↔ gs = hs) (hz1 : gs.length ≤ 1000000) (hz2 : hs.length ≤ 1000000) (hg : ∀ x ∈ gs, x.length ≤ 9223372036854775807) (hh : ∀ x ∈ hs, x.length ≤ 9223372036854775807) :
    Calls Tryd.prog 14 #[v, u] w fun e w' => e = .returned (.bool r) ∧ ∃ n, w' = w.drewN n := by
  have HV := Lib.hid hv
  have HU := Lib.hid hu
  have HRR := Lib.hid hr
  have HLG : Hid (∀ k, k < gs.length → (rw_ gs k).length ≤ 9223372036854775807) := Lib.hid (fun k hk => hg _ (by unfold rw_; rw [List.getD_eq_getElem?_getD, List.getElem?_eq_getElem hk]; exact List.getElem_mem hk))
  have HLH : Hid (∀ k, k < hs.length → (rw_ hs k).length ≤ 9223372036854775807) := Lib.hid (fun k hk => hh _ (by unfold rw_; rw [List.getD_eq_getElem?_getD, List.getElem?_eq_getElem hk]; exact List.getElem_mem hk))
  obtain ⟨a1, cap1, rfl, _⟩ := hv
  obtain ⟨a2, cap2, rfl, _⟩ := hu
  clear hr hg hh
  by_cases hl : gs.length = hs.length
  · have hlb : ((gs.length : Int) != (hs.length : Int)) = false := by rw [hl]; simp
    obtain ⟨N, hN⟩ : ∃ N, gs.length = N := ⟨_, rfl⟩
    have HN := Lib.hid hN
    have HM : Hid (hs.length = N) := Lib.hid (by rw [← hl, hN])
    rw [HM.out] at hlb hz2 HU ⊢
    rw [HN.out] at hlb hz1 HV ⊢
    clear hl hN
    go_enter Tryd.func14, Tryd.ntmps14
    go_wp2_with fail
    go_loopw [13] (fun vi wr => ∃ k m : Nat, vi = .int .i64 (k : Int) ∧ k ≤ N ∧ wr = w.drewN m ∧ ∀ j, j < k → rw_ gs j = rw_ hs j) (fun vi _ => N - (intOf vi).toNat)
    case atStart => exact ⟨0, 0, rfl, by omega, rfl, fun j hj => by omega⟩
    case round =>
      obtain ⟨k, m, rfl, hk, rfl, hA⟩ := hrel
      have HA := Lib.hid hA
      clear hA
      by_cases hkN : k < N
      · have hki : (k : Int) < (N : Int) := by omega
        obtain ⟨b1, o1, k1, u1, he1, c1, i1⟩ := HV.out.at_ (show k < gs.length by rw [HN.out]; exact hkN)
        rw [HN.out] at he1
        simp only [Value.slice.injEq] at he1
        obtain ⟨rfl, he1b, rfl⟩ := he1
        obtain ⟨b2, o2, k2, u2, he2, c2, i2⟩ := HU.out.at_ (show k < hs.length by rw [HM.out]; exact hkN)
        rw [HM.out] at he2
        simp only [Value.slice.injEq] at he2
        obtain ⟨rfl, he2b, rfl⟩ := he2
        clear he1b he2b
        have hlg := HLG.out k (by rw [HN.out]; exact hkN)
        have hlh := HLH.out k (by rw [HM.out]; exact hkN)
        have HI1 := Lib.hid i1
        have HI2 := Lib.hid i2
        by_cases hxy : rw_ gs k = rw_ hs k
        · have HIN := Lib.hid (fun W (hb : Below w.heap.size w W) => ints_any u1 u2 _ _ true W (HI1.out.below hb) (HI2.out.below hb) ⟨fun _ => hxy, fun _ => rfl⟩ hlg hlh)
          have HA2 : Hid (∀ j, j < k + 1 → rw_ gs j = rw_ hs j) := Lib.hid (fun j hj => by
            by_cases e : j = k
            · rw [e, hxy]
            · exact HA.out j (by omega))
          clear hxy i1 i2
          go_wp2_with fail
          have c1' : (w.drewN m).cell? ⟨b1, o1 + k, none⟩ = some u1 := c1
          have c2' : (w.drewN m).cell? ⟨b2, o2 + k, none⟩ = some u2 := c2
          go_region_held3 (fun W => W.cell? ⟨b1, o1 + k, none⟩ = some u1 ∧ W.cell? ⟨b2, o2 + k, none⟩ = some u2) (first | exact ⟨c1, c2⟩ | go_keep) (first | (go_at_call 28; refine (HIN.out _ (by exact (below_drewN w m).drew)).mono ?_; rintro e w' ⟨rfl, n2, rfl⟩))
          go_wp2_with fail
          go_roundw
          case rel => exact ⟨k + 1, _, by go_num, by omega, rfl, HA2.out⟩
          case measure => simp [intOf]; omega
        · have HIN := Lib.hid (fun W (hb : Below w.heap.size w W) => ints_any u1 u2 _ _ false W (HI1.out.below hb) (HI2.out.below hb) ⟨fun e => (by cases e), fun e => absurd e hxy⟩ hlg hlh)
          have hrf : r = false := by
            rw [Bool.eq_false_iff, Ne, HRR.out]
            exact fun h => hxy (by rw [h])
          subst hrf
          clear hxy i1 i2
          go_wp2_with fail
          have c1' : (w.drewN m).cell? ⟨b1, o1 + k, none⟩ = some u1 := c1
          have c2' : (w.drewN m).cell? ⟨b2, o2 + k, none⟩ = some u2 := c2
          go_region_held3 (fun W => W.cell? ⟨b1, o1 + k, none⟩ = some u1 ∧ W.cell? ⟨b2, o2 + k, none⟩ = some u2) (first | exact ⟨c1, c2⟩ | go_keep) (first | (go_at_call 28; refine (HIN.out _ (by exact (below_drewN w m).drew)).mono ?_; rintro e w' ⟨rfl, n2, rfl⟩))
          go_wp2_with fail
          go_ret
          exact ⟨rfl, _, rfl⟩
      · have hki : ¬ (k : Int) < (N : Int) := by omega
        have hrt : r = true := by
          rw [HRR.out]
          exact rows_ext (by rw [HN.out, HM.out]) (fun j hj => HA.out j (by rw [HN.out] at hj; omega))
        subst hrt
        go_wp2_with fail
        go_ret
        exact ⟨rfl, m, rfl⟩
  · have hlb : ((gs.length : Int) != (hs.length : Int)) = true := by rw [bne_iff_ne]; omega
    obtain rfl : r = false := by rw [Bool.eq_false_iff, Ne, HRR.out]; exact fun h => hl (by rw [h])
    clear hl
    go_enter Tryd.func14, Tryd.ntmps14
    go_wp2_with fail
    go_ret
    exact ⟨rfl, 0, rfl⟩
set_option maxRecDepth 100000 in
set_option maxHeartbeats 2000000 in
theorem equalFunc_any (v u : Value) (gs hs : List (List Int)) (r : Bool) (w : World) (hv : IsRR w v gs) (hu : IsRR w u hs) (hr : r = true ↔ gs = hs) (hz1 : gs.length ≤ 1000000) (hz2 : hs.length ≤ 1000000) (hg : ∀ x ∈ gs, x.length ≤ 9223372036854775807) (hh : ∀ x ∈ hs, x.length ≤ 9223372036854775807) :
    Calls Tryd.prog 36 #[v, u, .func (.func 37) #[] #[]] w fun e w' => e = .returned (.bool r) ∧ ∃ n, w' = w.drewN n := by
  have HV := Lib.hid hv
  have HU := Lib.hid hu
  have HRR := Lib.hid hr
  have he : ∀ args w, (callFunc 37 args).run Tryd.prog w = .ok (.enter 37 args) w := enters_of Tryd.func37 (by kernel_rfl) rfl
  have HLG : Hid (∀ k, k < gs.length → (rw_ gs k).length ≤ 9223372036854775807) := Lib.hid (fun k hk => hg _ (by unfold rw_; rw [List.getD_eq_getElem?_getD, List.getElem?_eq_getElem hk]; exact List.getElem_mem hk))
  have HLH : Hid (∀ k, k < hs.length → (rw_ hs k).length ≤ 9223372036854775807) := Lib.hid (fun k hk => hh _ (by unfold rw_; rw [List.getD_eq_getElem?_getD, List.getElem?_eq_getElem hk]; exact List.getElem_mem hk))
  obtain ⟨a1, cap1, rfl, _⟩ := hv
  obtain ⟨a2, cap2, rfl, _⟩ := hu
  clear hr hg hh
  by_cases hl : gs.length = hs.length
  · have hlb : ((gs.length : Int) != (hs.length : Int)) = false := by rw [hl]; simp
    obtain ⟨N, hN⟩ : ∃ N, gs.length = N := ⟨_, rfl⟩
    have HN := Lib.hid hN
    have HM : Hid (hs.length = N) := Lib.hid (by rw [← hl, hN])
    rw [HM.out] at hlb hz2 HU ⊢
    rw [HN.out] at hlb hz1 HV ⊢
    clear hl hN
    go_enter Tryd.func36, Tryd.ntmps36
    go_wp2_with fail
    go_loopw [17] (fun vi wr => ∃ k m : Nat, vi = .int .i64 (k : Int) ∧ k ≤ N ∧ wr = w.drewN m ∧ ∀ j, j < k → rw_ gs j = rw_ hs j) (fun vi _ => N - (intOf vi).toNat)
    case atStart => exact ⟨0, 0, rfl, by omega, rfl, fun j hj => by omega⟩
    case round =>
      obtain ⟨k, m, rfl, hk, rfl, hA⟩ := hrel
      have HA := Lib.hid hA
      clear hA
      by_cases hkN : k < N
      · have hki : (k : Int) < (N : Int) := by omega
        obtain ⟨b1, o1, k1, u1, he1, c1, i1⟩ := (HV.out.below (below_drewN w m)).at_ (show k < gs.length by rw [HN.out]; exact hkN)
        rw [HN.out] at he1
        simp only [Value.slice.injEq] at he1
        obtain ⟨rfl, he1b, rfl⟩ := he1
        obtain ⟨b2, o2, k2, u2, he2, c2, i2⟩ := (HU.out.below (below_drewN w m)).at_ (show k < hs.length by rw [HM.out]; exact hkN)
        rw [HM.out] at he2
        simp only [Value.slice.injEq] at he2
        obtain ⟨rfl, he2b, rfl⟩ := he2
        clear he1b he2b
        have hlg := HLG.out k (by rw [HN.out]; exact hkN)
        have hlh := HLH.out k (by rw [HM.out]; exact hkN)
        by_cases hxy : rw_ gs k = rw_ hs k
        · have HIN := Lib.hid (equal_any u1 u2 _ _ true _ i1 i2 ⟨fun _ => hxy, fun _ => rfl⟩ hlg hlh)
          have HA2 : Hid (∀ j, j < k + 1 → rw_ gs j = rw_ hs j) := Lib.hid (fun j hj => by
            by_cases e : j = k
            · rw [e, hxy]
            · exact HA.out j (by omega))
          clear hxy i1 i2
          go_wp2_with fail
          refine HIN.out.mono ?_
          rintro e w2 ⟨rfl, n2, rfl⟩
          go_wp2_with fail
          go_roundw
          case rel => exact ⟨k + 1, _, by go_num, by omega, rfl, HA2.out⟩
          case measure => simp [intOf]; omega
        · have HIN := Lib.hid (equal_any u1 u2 _ _ false _ i1 i2 ⟨fun e => (by cases e), fun e => absurd e hxy⟩ hlg hlh)
          have hrf : r = false := by
            rw [Bool.eq_false_iff, Ne, HRR.out]
            exact fun h => hxy (by rw [h])
          subst hrf
          clear hxy i1 i2
          go_wp2_with fail
          refine HIN.out.mono ?_
          rintro e w2 ⟨rfl, n2, rfl⟩
          go_wp2_with fail
          go_ret
          exact ⟨rfl, _, rfl⟩
      · have hki : ¬ (k : Int) < (N : Int) := by omega
        have hrt : r = true := by
          rw [HRR.out]
          exact rows_ext (by rw [HN.out, HM.out]) (fun j hj => HA.out j (by rw [HN.out] at hj; omega))
        subst hrt
        go_wp2_with fail
        go_ret
        exact ⟨rfl, m, rfl⟩
  · have hlb : ((gs.length : Int) != (hs.length : Int)) = true := by rw [bne_iff_ne]; omega
    obtain rfl : r = false := by rw [Bool.eq_false_iff, Ne, HRR.out]; exact fun h => hl (by rw [h])
    clear hl
    go_enter Tryd.func36, Tryd.ntmps36
    go_wp2_with fail
    go_ret
    exact ⟨rfl, 0, rfl⟩
end Go.Proofs.YtmlcdfimcabgkaaDoor
