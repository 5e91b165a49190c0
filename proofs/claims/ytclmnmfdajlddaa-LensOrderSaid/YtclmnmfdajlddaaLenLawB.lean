/-
  LAYER 9 (lens): LensShare, LensCheap, LensOrder.
-/
import Derived.Test.YtclmnmfdajlddaaLenLawA
import Derived.Test.YtclmnmfdajlddaaJoinMath
import Derived.BigQuiet
namespace Go.Proofs.Ytclmnmfdajlddaa
open Go.RowKit HufM
set_option linter.unusedVariables false
theorem cst_succ (w zs : List Int) (k : Nat) : cst w zs (k + 1) = cst w zs k + (w.getD k 0).toNat * (zs.getD k 0).toNat := sumN_range _ _
set_option maxRecDepth 100000 in
set_option maxHeartbeats 4000000 in
theorem lensCheap.walk (l : Option Addr) (llen lcap : Nat) (lz : List Int) (u : Option Addr) (ulen ucap : Nat) (uz : List Int) (w : World) (hl : IsRow .i64 w l llen lcap lz) (hu : IsRow .i64 w u ulen ucap uz) :
    Calls Try.prog 7 #[.slice l llen lcap, .slice u ulen ucap] w fun e w' => e = .returned (.bool true) ∧ Below w.heap.size w w' := by
  obtain ⟨hI, hlen⟩ := ints_in hl
  obtain ⟨hl1, hl2⟩ := isRow_len hl
  have HI := Lib.hid hI
  clear hl hI
  generalize lz.take llen = zs at *
  have HLEN := Lib.hid hlen
  clear hlen
  obtain ⟨hJ, hlen2⟩ := ints_in hu
  obtain ⟨hu1, hu2⟩ := isRow_len hu
  have HJ := Lib.hid hJ
  clear hu hJ
  generalize uz.take ulen = os at *
  have HLEN2 := Lib.hid hlen2
  clear hlen2
  by_cases h1 : llen < 2
  · have h1b : (llen : Int) < 2 := by omega
    go_enter Try.func7, Try.ntmps7
    go_wp2_with fail
    refine (three_any _).mono ?_
    rintro e w' ⟨rfl, hb⟩
    have HB := Lib.hid hb
    clear hb
    go_wp2_with fail
    go_ret
    exact ⟨rfl, HB.out⟩
  · have h1b : decide ((llen : Int) < 2) = false := by simp only [decide_eq_false_iff_not]; omega
    by_cases h2 : 258 < llen
    · have h2b : 258 < (llen : Int) := by omega
      go_enter Try.func7, Try.ntmps7
      go_wp2_with fail
      refine (three_any _).mono ?_
      rintro e w' ⟨rfl, hb⟩
      have HB := Lib.hid hb
      clear hb
      go_wp2_with fail
      go_ret
      exact ⟨rfl, HB.out⟩
    · have h2b : decide (258 < (llen : Int)) = false := by simp only [decide_eq_false_iff_not]; omega
      by_cases h3 : ulen = llen
      · have h3b : ((ulen : Int) != (llen : Int)) = false := by rw [bne_eq_false_iff_eq]; omega
        have HU := Lib.hid h3
        have hul : ulen ≤ 258 := by omega
        clear h3
        by_cases h4 : Within 1 1073741824 zs
        · have HW := Lib.hid h4
          have HA := Lib.hid (may_any _ zs 1 1073741824 true w HI.out ⟨fun _ => h4, fun _ => rfl⟩ (by rw [HLEN.out]; omega))
          clear h4
          by_cases h5 : Within 1 20 os
          · have HW2 := Lib.hid h5
            have HA2 := Lib.hid (may_any _ os 1 20 true w HJ.out ⟨fun _ => h5, fun _ => rfl⟩ (by rw [HLEN2.out]; omega))
            have HS := Lib.hid (rShare_any _ os w HJ.out (by rw [HLEN2.out]; omega) (fun z hz => by have := h5 z hz; omega))
            clear h5
            by_cases h6 : shr os ≤ 1048576
            · have h6b : decide (1048576 < (shr os : Int)) = false := by simp only [decide_eq_false_iff_not]; omega
              have H6 := Lib.hid h6
              clear h6
              go_enter Try.func7, Try.ntmps7
              go_wp2_with fail
              refine HA.out.mono ?_
              rintro e w1 ⟨rfl, rfl⟩
              go_wp2_with fail
              refine HA2.out.mono ?_
              rintro e w1 ⟨rfl, rfl⟩
              go_wp2_with fail
              refine HS.out.mono ?_
              rintro e w2 ⟨rfl, rfl⟩
              go_wp2_with fail
              refine (depthsTop_any _ zs w2 HI.out (by rw [HLEN.out]; omega)).mono ?_
              rintro e w3 ⟨r, ds, err, rfl, hI3, hP, hB⟩
              obtain ⟨rfl, hdp⟩ : err = 0 ∧ DepP zs ds := by
                rcases hP with ⟨h, _⟩ | ⟨_, h, e⟩
                · exact absurd ⟨by rw [HLEN.out]; omega, by rw [HLEN.out]; omega, fun z hz => by have := HW.out z hz; omega⟩ h
                · exact ⟨e, h⟩
              have hdl : ds.length = llen := by rw [hdp.len, HLEN.out]
              have HDL := Lib.hid hdl
              have HDP := Lib.hid hdp
              have HI3 := Lib.hid hI3
              have HB := Lib.hid hB
              have HZ3 := Lib.hid (HI.out.below hB)
              have HO3 := Lib.hid (HJ.out.below hB)
              have HDB := Lib.hid (hdp.bound (by rw [HLEN.out]; omega))
              obtain ⟨a3, cap3, rfl, _⟩ := hI3
              rw [hdl] at HI3 ⊢
              clear hP hB hdl hdp
              have hne : ((llen : Int) != (llen : Int)) = false := by simp
              go_wp2_with fail
              go_loopw [7, 8, 58] (fun va vb vi wr => ∃ k s t : Nat, vi = .int .i64 k ∧ k ≤ llen ∧ va = .int .i64 s ∧ vb = .int .i64 t ∧ s ≤ 277025390592 * k ∧ t ≤ 277025390592 * k ∧ s = cst zs ds k ∧ t = cst zs os k ∧ wr = w3) (fun _ _ vi _ => llen - (intOf vi).toNat)
              case atStart => exact ⟨0, 0, 0, rfl, by omega, rfl, rfl, by omega, by omega, rfl, rfl, rfl⟩
              case round =>
                obtain ⟨k, s, t, rfl, hk, rfl, rfl, hsb, htb, hs, ht, rfl⟩ := hrel
                by_cases hlk : k < llen
                · have hki : (k : Int) < (llen : Int) := by omega
                  obtain ⟨b1, o1, k1, he1, c1⟩ := HZ3.out.cell (show k < zs.length by rw [HLEN.out]; exact hlk)
                  obtain ⟨b2, o2, k2, he2, c2⟩ := HI3.out.cell (show k < ds.length by rw [HDL.out]; exact hlk)
                  obtain ⟨b3, o3, k3, he3, c3⟩ := HO3.out.cell (show k < os.length by rw [HLEN2.out, HU.out]; exact hlk)
                  rw [HLEN.out] at he1
                  rw [HDL.out] at he2
                  rw [HLEN2.out] at he3
                  simp only [Value.slice.injEq] at he1 he2 he3
                  obtain ⟨rfl, _, rfl⟩ := he1
                  obtain ⟨rfl, _, rfl⟩ := he2
                  obtain ⟨rfl, _, rfl⟩ := he3
                  have kul : (k : Int) < (ulen : Int) := by have := HU.out; omega
                  have x1 := HW.out _ (getD_mem (show k < zs.length by rw [HLEN.out]; exact hlk))
                  have x2 := HDB.out _ (getD_mem (show k < ds.length by rw [HDL.out]; exact hlk))
                  have x3 := HW2.out _ (getD_mem (show k < os.length by rw [HLEN2.out, HU.out]; exact hlk))
                  rw [HLEN.out] at x2
                  have es := cst_succ zs ds k
                  have et := cst_succ zs os k
                  rw [← hs] at es
                  rw [← ht] at et
                  obtain ⟨X, hX⟩ : ∃ X : Nat, zs.getD k 0 = (X : Int) := ⟨(zs.getD k 0).toNat, by omega⟩
                  obtain ⟨Y, hY⟩ : ∃ Y : Nat, ds.getD k 0 = (Y : Int) := ⟨(ds.getD k 0).toNat, by omega⟩
                  obtain ⟨Z, hZ⟩ : ∃ Z : Nat, os.getD k 0 = (Z : Int) := ⟨(os.getD k 0).toNat, by omega⟩
                  rw [hX] at c1 x1 es et
                  rw [hY] at c2 x2 es
                  rw [hZ] at c3 x3 et
                  rw [Int.toNat_natCast, Int.toNat_natCast] at es et
                  obtain ⟨p, hp⟩ : ∃ p, X * Y = p := ⟨_, rfl⟩
                  obtain ⟨q, hq⟩ : ∃ q, X * Z = q := ⟨_, rfl⟩
                  have hpb : p ≤ 277025390592 := by
                    rw [← hp]
                    exact Nat.le_trans (Nat.mul_le_mul (show X ≤ 1073741824 by omega) (show Y ≤ 258 by omega)) (by decide)
                  have hqb : q ≤ 277025390592 := by
                    rw [← hq]
                    exact Nat.le_trans (Nat.mul_le_mul (show X ≤ 1073741824 by omega) (show Z ≤ 258 by omega)) (by decide)
                  have hpI : (X : Int) * (Y : Int) = (p : Int) := by rw [← hp]; exact (Int.natCast_mul X Y).symm
                  have hqI : (X : Int) * (Z : Int) = (q : Int) := by rw [← hq]; exact (Int.natCast_mul X Z).symm
                  rw [hp] at es
                  rw [hq] at et
                  have ES := Lib.hid es
                  have ET := Lib.hid et
                  have y1 : ¬ (Y : Int) < 1 := by omega
                  have y2 : ¬ 258 < (Y : Int) := by omega
                  clear hs ht es et hX hY hZ hp hq
                  go_wp2_with fail
                  go_roundw
                  case rel => exact ⟨k + 1, s + p, t + q, by go_num, by omega, by go_num, by go_num, by omega, by omega, ES.out.symm, ET.out.symm, (by first | rfl | trivial)⟩
                  case measure => simp [intOf]; omega
                · have hki : ¬ (k : Int) < (llen : Int) := by omega
                  obtain rfl : llen = k := by omega
                  have hst : s ≤ t := by
                    have := HDP.out.cheap (o := os) (by rw [HLEN.out, HLEN2.out, HU.out]) (fun x hx => by have := HW2.out x hx; omega) H6.out
                    rw [HLEN.out, ← hs, ← ht] at this
                    exact this
                  have hst2 : (s : Int) ≤ (t : Int) := by omega
                  clear hs ht
                  go_wp2_with fail
                  refine (three_any _).mono ?_
                  rintro e w4 ⟨rfl, hb⟩
                  have HB4 := Lib.hid (HB.out.trans (hb.mono HB.out.size))
                  clear hb
                  go_wp2_with fail
                  go_ret
                  exact ⟨rfl, HB4.out⟩
            · have h6b : 1048576 < (shr os : Int) := by omega
              go_enter Try.func7, Try.ntmps7
              go_wp2_with fail
              refine HA.out.mono ?_
              rintro e w1 ⟨rfl, rfl⟩
              go_wp2_with fail
              refine HA2.out.mono ?_
              rintro e w1 ⟨rfl, rfl⟩
              go_wp2_with fail
              refine HS.out.mono ?_
              rintro e w1 ⟨rfl, rfl⟩
              go_wp2_with fail
              refine (three_any _).mono ?_
              rintro e w' ⟨rfl, hb⟩
              have HB := Lib.hid hb
              clear hb
              go_wp2_with fail
              go_ret
              exact ⟨rfl, HB.out⟩
          · have HA2 := Lib.hid (may_any _ os 1 20 false w HJ.out ⟨fun h => (by cases h), fun h => absurd h h5⟩ (by rw [HLEN2.out]; omega))
            clear h5
            go_enter Try.func7, Try.ntmps7
            go_wp2_with fail
            refine HA.out.mono ?_
            rintro e w1 ⟨rfl, rfl⟩
            go_wp2_with fail
            refine HA2.out.mono ?_
            rintro e w1 ⟨rfl, rfl⟩
            go_wp2_with fail
            refine (three_any _).mono ?_
            rintro e w' ⟨rfl, hb⟩
            have HB := Lib.hid hb
            clear hb
            go_wp2_with fail
            go_ret
            exact ⟨rfl, HB.out⟩
        · have HA := Lib.hid (may_any _ zs 1 1073741824 false w HI.out ⟨fun h => (by cases h), fun h => absurd h h4⟩ (by rw [HLEN.out]; omega))
          clear h4
          go_enter Try.func7, Try.ntmps7
          go_wp2_with fail
          refine HA.out.mono ?_
          rintro e w1 ⟨rfl, rfl⟩
          go_wp2_with fail
          refine (three_any _).mono ?_
          rintro e w' ⟨rfl, hb⟩
          have HB := Lib.hid hb
          clear hb
          go_wp2_with fail
          go_ret
          exact ⟨rfl, HB.out⟩
      · have h3b : ((ulen : Int) != (llen : Int)) = true := by rw [bne_iff_ne]; omega
        go_enter Try.func7, Try.ntmps7
        go_wp2_with fail
        refine (three_any _).mono ?_
        rintro e w' ⟨rfl, hb⟩
        have HB := Lib.hid hb
        clear hb
        go_wp2_with fail
        go_ret
        exact ⟨rfl, HB.out⟩
set_option maxRecDepth 100000 in
set_option maxHeartbeats 4000000 in
theorem lensOrder.walk (l : Option Addr) (llen lcap : Nat) (lz : List Int) (w : World) (hl : IsRow .i64 w l llen lcap lz) :
    Calls Try.prog 8 #[.slice l llen lcap] w fun e w' => e = .returned (.bool true) ∧ Below w.heap.size w w' := by
  obtain ⟨hI, hlen⟩ := ints_in hl
  obtain ⟨hl1, hl2⟩ := isRow_len hl
  have HI := Lib.hid hI
  clear hl hI
  generalize lz.take llen = zs at *
  have HLEN := Lib.hid hlen
  clear hlen
  by_cases h1 : llen < 2
  · have h1b : (llen : Int) < 2 := by omega
    go_enter Try.func8, Try.ntmps8
    go_wp2_with fail
    refine (three_any _).mono ?_
    rintro e w' ⟨rfl, hb⟩
    have HB := Lib.hid hb
    clear hb
    go_wp2_with fail
    go_ret
    exact ⟨rfl, HB.out⟩
  · have h1b : decide ((llen : Int) < 2) = false := by simp only [decide_eq_false_iff_not]; omega
    by_cases h2 : 100 < llen
    · have h2b : 100 < (llen : Int) := by omega
      go_enter Try.func8, Try.ntmps8
      go_wp2_with fail
      refine (three_any _).mono ?_
      rintro e w' ⟨rfl, hb⟩
      have HB := Lib.hid hb
      clear hb
      go_wp2_with fail
      go_ret
      exact ⟨rfl, HB.out⟩
    · have h2b : decide (100 < (llen : Int)) = false := by simp only [decide_eq_false_iff_not]; omega
      by_cases h4 : Within 1 1099511627776 zs
      · have HW := Lib.hid h4
        have HA := Lib.hid (may_any _ zs 1 1099511627776 true w HI.out ⟨fun _ => h4, fun _ => rfl⟩ (by rw [HLEN.out]; omega))
        clear h4
        go_enter Try.func8, Try.ntmps8
        go_wp2_with fail
        refine HA.out.mono ?_
        rintro e w2 ⟨rfl, rfl⟩
        go_wp2_with fail
        refine (depthsTop_any _ zs w2 HI.out (by rw [HLEN.out]; omega)).mono ?_
        rintro e w3 ⟨r, ds, err, rfl, hI3, hP, hB⟩
        obtain ⟨rfl, hdp⟩ : err = 0 ∧ DepP zs ds := by
          rcases hP with ⟨h, _⟩ | ⟨_, h, e⟩
          · exact absurd ⟨by rw [HLEN.out]; omega, by rw [HLEN.out]; omega, HW.out⟩ h
          · exact ⟨e, h⟩
        have hdl : ds.length = llen := by rw [hdp.len, HLEN.out]
        have HDL := Lib.hid hdl
        have HDP := Lib.hid hdp
        have HI3 := Lib.hid hI3
        have HB := Lib.hid hB
        have HZ3 := Lib.hid (HI.out.below hB)
        obtain ⟨a3, cap3, rfl, _⟩ := hI3
        rw [hdl] at HI3 ⊢
        clear hP hB hdl hdp
        have hne : ((llen : Int) != (llen : Int)) = false := by simp
        go_wp2_with fail
        go_loopw [39] (fun vi wr => ∃ k n : Nat, vi = .int .i64 k ∧ k ≤ llen ∧ wr = w3.drewN n) (fun vi _ => llen - (intOf vi).toNat)
        case atStart => exact ⟨0, 0, rfl, by omega, rfl⟩
        case round =>
          obtain ⟨k, n, rfl, hk, hw⟩ := hrel
          have HZ4 : Hid (IsInts wr (.slice l llen lcap) zs) := Lib.hid (by rw [hw]; exact HZ3.out.below (below_drewN _ _))
          have HI4 : Hid (IsInts wr (.slice a3 llen cap3) ds) := Lib.hid (by rw [hw]; exact HI3.out.below (below_drewN _ _))
          have HW4 := Lib.hid hw
          clear hw
          by_cases hlk : k < llen
          · have hki : (k : Int) < (llen : Int) := by omega
            obtain ⟨b1, o1, k1, he1, c1⟩ := HZ4.out.cell (show k < zs.length by rw [HLEN.out]; exact hlk)
            obtain ⟨b2, o2, k2, he2, c2⟩ := HI4.out.cell (show k < ds.length by rw [HDL.out]; exact hlk)
            rw [HLEN.out] at he1
            rw [HDL.out] at he2
            simp only [Value.slice.injEq] at he1 he2
            obtain ⟨rfl, _, rfl⟩ := he1
            obtain ⟨rfl, _, rfl⟩ := he2
            obtain ⟨X, hX⟩ : ∃ X, zs.getD k 0 = X := ⟨_, rfl⟩
            obtain ⟨P, hP⟩ : ∃ P, ds.getD k 0 = P := ⟨_, rfl⟩
            rw [hX] at c1
            rw [hP] at c2
            have HX := Lib.hid hX
            have HP := Lib.hid hP
            have HC2 := Lib.hid c2
            clear hX hP c2
            go_wp2_with fail
            go_loopw [46] (fun vi w5 => ∃ j n : Nat, vi = .int .i64 j ∧ j ≤ llen ∧ w5 = wr.drewN n) (fun vi _ => llen - (intOf vi).toNat)
            case atStart => exact ⟨0, 0, rfl, by omega, rfl⟩
            case round =>
              obtain ⟨j, m, rfl, hj, hw5⟩ := hrel
              have HZ5 : Hid (IsInts wr (.slice (some ⟨b1, o1, none⟩) llen lcap) zs) := Lib.hid (by rw [hw5]; exact HZ4.out.below (below_drewN _ _))
              have HI5 : Hid (IsInts wr (.slice (some ⟨b2, o2, none⟩) llen cap3) ds) := Lib.hid (by rw [hw5]; exact HI4.out.below (below_drewN _ _))
              have c2 : wr.cell? ⟨b2, o2 + k, none⟩ = some (.int .i64 P) := by rw [hw5]; exact HC2.out
              have HW5 := Lib.hid hw5
              clear hw5
              by_cases hlj : j < llen
              · have hji : (j : Int) < (llen : Int) := by omega
                obtain ⟨b3, o3, k3, he3, c3⟩ := HZ5.out.cell (show j < zs.length by rw [HLEN.out]; exact hlj)
                obtain ⟨b4, o4, k4, he4, c4⟩ := HI5.out.cell (show j < ds.length by rw [HDL.out]; exact hlj)
                rw [HLEN.out] at he3
                rw [HDL.out] at he4
                simp only [Value.slice.injEq, Option.some.injEq, Addr.mk.injEq] at he3 he4
                obtain ⟨⟨rfl, rfl, _⟩, _, rfl⟩ := he3
                obtain ⟨⟨rfl, rfl, _⟩, _, rfl⟩ := he4
                obtain ⟨Y, hY⟩ : ∃ Y, zs.getD j 0 = Y := ⟨_, rfl⟩
                obtain ⟨Q, hQ⟩ : ∃ Q, ds.getD j 0 = Q := ⟨_, rfl⟩
                rw [hY] at c3
                rw [hQ] at c4
                have HY := Lib.hid hY
                have HQ := Lib.hid hQ
                clear hY hQ
                by_cases hxy : Y < X
                · have hpq : P ≤ Q := by
                    have := HDP.out.order (i := k) (k := j) (by rw [HLEN.out]; exact hlk) (by rw [HLEN.out]; exact hlj) (by have := HW.out _ (getD_mem (show j < zs.length by rw [HLEN.out]; exact hlj)); omega) (by rw [HX.out, HY.out]; exact hxy)
                    rw [HP.out, HQ.out] at this
                    exact this
                  have hpq2 : decide (Q < P) = false := by simp only [decide_eq_false_iff_not]; omega
                  go_wp2_with fail
                  go_quiet (fail)
                  go_wp2_with fail
                  go_roundw
                  case rel => exact ⟨j + 1, _, by go_num, by omega, by rw [HW5.out]; exact World.drewN_drewN ..⟩
                  case measure => simp [intOf]; omega
                · have hxy2 : decide (Y < X) = false := by simp only [decide_eq_false_iff_not]; exact hxy
                  go_wp2_with fail
                  go_quiet (fail)
                  go_wp2_with fail
                  go_roundw
                  case rel => exact ⟨j + 1, _, by go_num, by omega, by rw [HW5.out]; exact World.drewN_drewN ..⟩
                  case measure => simp [intOf]; omega
              · have hji : ¬ (j : Int) < (llen : Int) := by omega
                go_wp2_with fail
                go_roundw
                case rel => exact ⟨k + 1, n + m, by go_num, by omega, by rw [HW5.out, HW4.out]; exact World.drewN_drewN ..⟩
                case measure => simp [intOf]; omega
          · have hki : ¬ (k : Int) < (llen : Int) := by omega
            go_wp2_with fail
            refine (three_any _).mono ?_
            rintro e w4 ⟨rfl, hb⟩
            have HB4 : Hid (Below w2.heap.size w2 w4) := Lib.hid (by
              rw [HW4.out] at hb
              exact HB.out.trans (((below_drewN w3 n).trans hb).mono HB.out.size))
            clear hb
            go_wp2_with fail
            go_ret
            exact ⟨rfl, HB4.out⟩
      · have HA := Lib.hid (may_any _ zs 1 1099511627776 false w HI.out ⟨fun h => (by cases h), fun h => absurd h h4⟩ (by rw [HLEN.out]; omega))
        clear h4
        go_enter Try.func8, Try.ntmps8
        go_wp2_with fail
        refine HA.out.mono ?_
        rintro e w1 ⟨rfl, rfl⟩
        go_wp2_with fail
        refine (three_any _).mono ?_
        rintro e w' ⟨rfl, hb⟩
        have HB := Lib.hid hb
        clear hb
        go_wp2_with fail
        go_ret
        exact ⟨rfl, HB.out⟩
set_option maxRecDepth 100000 in
set_option maxHeartbeats 4000000 in
theorem lensShare.walk (l : Option Addr) (llen lcap : Nat) (lz : List Int) (w : World) (hl : IsRow .i64 w l llen lcap lz) :
    Calls Try.prog 5 #[.slice l llen lcap] w fun e w' => e = .returned (.bool true) ∧ Below w.heap.size w w' := by
  obtain ⟨hI, hlen⟩ := ints_in hl
  obtain ⟨hl1, hl2⟩ := isRow_len hl
  have HI := Lib.hid hI
  clear hl hI
  generalize lz.take llen = zs at *
  have HLEN := Lib.hid hlen
  clear hlen
  by_cases h0 : 600 < llen
  · have h0b : 600 < (llen : Int) := by omega
    go_enter Try.func5, Try.ntmps5
    go_wp2_with fail
    refine (three_any _).mono ?_
    rintro e w' ⟨rfl, hb⟩
    have HB := Lib.hid hb
    clear hb
    go_wp2_with fail
    go_ret
    exact ⟨rfl, HB.out⟩
  · have h0b : decide (600 < (llen : Int)) = false := by simp only [decide_eq_false_iff_not]; omega
    have HS := Lib.hid (share_any _ zs w HI.out (by rw [HLEN.out]; omega))
    have HLG := Lib.hid (fun W (h : IsInts W (.slice l llen lcap) zs) => longest_any _ zs W h (by rw [HLEN.out]; omega))
    go_enter Try.func5, Try.ntmps5
    go_wp2_with fail
    refine HS.out.mono ?_
    rintro e w1 ⟨n, err, rfl, hP, rfl⟩
    have HP := Lib.hid hP
    clear hP
    go_wp2_with fail
    go_loopw [5, 19] (fun vm vi wr => ∃ k : Nat, vi = .int .i64 k ∧ k ≤ llen ∧ vm = .int .i64 (lg (zs.take k)) ∧ wr = w1) (fun _ vi _ => llen - (intOf vi).toNat)
    case atStart => exact ⟨0, rfl, by omega, rfl, rfl⟩
    case round =>
      obtain ⟨k, rfl, hk, rfl, rfl⟩ := hrel
      by_cases hlk : k < llen
      · have hki : (k : Int) < (llen : Int) := by omega
        obtain ⟨b1, o1, k1, he1, c1⟩ := HI.out.cell (show k < zs.length by rw [HLEN.out]; exact hlk)
        rw [HLEN.out] at he1
        simp only [Value.slice.injEq] at he1
        obtain ⟨rfl, _, rfl⟩ := he1
        have ht := lg_take zs (show k < zs.length by rw [HLEN.out]; exact hlk)
        obtain ⟨x, hx⟩ : ∃ x, zs.getD k 0 = x := ⟨_, rfl⟩
        rw [hx] at c1 ht
        obtain ⟨m, hm⟩ : ∃ m, lg (zs.take k) = m := ⟨_, rfl⟩
        rw [hm] at ht ⊢
        by_cases hmx : m < x
        · rw [if_pos hmx] at ht
          have HT := Lib.hid ht
          clear ht hx hm
          go_wp2_with fail
          go_roundw
          case rel => exact ⟨k + 1, by go_num, by omega, by rw [HT.out], (by first | rfl | trivial)⟩
          case measure => simp [intOf]; omega
        · rw [if_neg hmx] at ht
          have HT := Lib.hid ht
          clear ht hx hm
          go_wp2_with fail
          go_roundw
          case rel => exact ⟨k + 1, by go_num, by omega, by rw [HT.out], (by first | rfl | trivial)⟩
          case measure => simp [intOf]; omega
      · have hki : ¬ (k : Int) < (llen : Int) := by omega
        have e : zs.take k = zs := List.take_of_length_le (by rw [HLEN.out]; omega)
        rw [e]
        clear e
        obtain ⟨G, hG⟩ : ∃ G, lg zs = G := ⟨_, rfl⟩
        rw [hG]
        have HLW := Lib.hid (HLG.out wr HI.out)
        rw [hG] at HLW
        have hgg : (G != G) = false := by simp
        clear hG
        by_cases h2 : 258 < llen
        · have h2b : 258 < (llen : Int) := by omega
          obtain ⟨rfl, rfl⟩ : n = 0 ∧ err = 1 := by
            rcases HP.out with ⟨_, h⟩ | ⟨h, _⟩
            · exact h
            · have := h.1; rw [HLEN.out] at this; omega
          go_wp2_with fail
          refine HLW.out.mono ?_
          rintro e w2 ⟨rfl, rfl⟩
          go_wp2_with fail
          refine (three_any _).mono ?_
          rintro e w' ⟨rfl, hb⟩
          have HB := Lib.hid hb
          clear hb
          go_wp2_with fail
          go_ret
          exact ⟨rfl, HB.out⟩
        · have h2b : decide (258 < (llen : Int)) = false := by simp only [decide_eq_false_iff_not]; omega
          by_cases hw : Within 0 20 zs
          · have HA := Lib.hid (may_any _ zs 0 20 true wr HI.out ⟨fun _ => hw, fun _ => rfl⟩ (by rw [HLEN.out]; omega))
            have HRS := Lib.hid (rShare_any _ zs wr HI.out (by rw [HLEN.out]; omega) hw)
            obtain ⟨rfl, rfl⟩ : n = (shr zs : Int) ∧ err = 0 := by
              rcases HP.out with ⟨h, _⟩ | ⟨_, h⟩
              · exact absurd ⟨by rw [HLEN.out]; omega, hw⟩ h
              · exact h
            clear hw
            generalize shr zs = T at *
            have htt : ((T : Int) == (T : Int)) = true := by simp
            go_wp2_with fail
            refine HLW.out.mono ?_
            rintro e w2 ⟨rfl, rfl⟩
            go_wp2_with fail
            refine HA.out.mono ?_
            rintro e w2' ⟨rfl, rfl⟩
            go_wp2_with fail
            refine HRS.out.mono ?_
            rintro e w3 ⟨rfl, rfl⟩
            go_wp2_with fail
            refine (three_any _).mono ?_
            rintro e w' ⟨rfl, hb⟩
            have HB := Lib.hid hb
            clear hb
            go_wp2_with fail
            go_ret
            exact ⟨rfl, HB.out⟩
          · have HA := Lib.hid (may_any _ zs 0 20 false wr HI.out ⟨fun h => (by cases h), fun h => absurd h hw⟩ (by rw [HLEN.out]; omega))
            obtain ⟨rfl, rfl⟩ : n = 0 ∧ err = 1 := by
              rcases HP.out with ⟨_, h⟩ | ⟨h, _⟩
              · exact h
              · exact absurd h.2 hw
            clear hw
            go_wp2_with fail
            refine HLW.out.mono ?_
            rintro e w2 ⟨rfl, rfl⟩
            go_wp2_with fail
            refine HA.out.mono ?_
            rintro e w2' ⟨rfl, rfl⟩
            go_wp2_with fail
            refine (three_any _).mono ?_
            rintro e w' ⟨rfl, hb⟩
            have HB := Lib.hid hb
            clear hb
            go_wp2_with fail
            go_ret
            exact ⟨rfl, HB.out⟩
end Go.Proofs.Ytclmnmfdajlddaa
