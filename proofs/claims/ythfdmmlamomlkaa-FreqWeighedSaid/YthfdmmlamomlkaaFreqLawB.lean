/-
  LAYER 8's STATEMENTS: FreqAdds, FreqWeighed.
-/
import Derived.Test.YthfdmmlamomlkaaFreqLawA
namespace Go.Proofs.Ythfdmmlamomlkaa
open Go.RowKit FreqM
set_option linter.unusedVariables false
set_option maxRecDepth 100000 in
set_option maxHeartbeats 2000000 in
theorem freqAdds.walk (a : Option Addr) (llen lcap : Nat) (lz : List Int) (b : Option Addr) (slen scap : Nat) (sz : List Int) (w : World) (hl : IsRow .i64 w a llen lcap lz) (hs : IsRow .i64 w b slen scap sz) :
    Calls Try.prog 13 #[.slice a llen lcap, .slice b slen scap] w fun e w' => e = .returned (.bool true) ∧ Below w.heap.size w w' := by
  obtain ⟨hI, hlen⟩ := ints_in hl
  obtain ⟨hJ, hlen2⟩ := ints_in hs
  have HI := Lib.hid hI
  have HJ := Lib.hid hJ
  clear hl hs hI hJ
  generalize lz.take llen = zs at *
  generalize sz.take slen = ys at *
  by_cases h1 : llen ≤ 300
  · have h1i : (llen : Int) ≤ 300 := by omega
    by_cases h2 : slen ≤ 300
    · have h2i : (slen : Int) ≤ 300 := by omega
      subst hlen hlen2
      have HA := Lib.hid (add_any _ _ zs ys w HI.out HJ.out (by omega) (by omega))
      have HT1 := Lib.hid (fun W (h : IsInts W (.slice a zs.length lcap) zs) => total_any _ zs W h (by omega))
      have HT2 := Lib.hid (fun W (h : IsInts W (.slice a zs.length lcap) zs) => rTotal_any _ zs W h (by omega))
      generalize tot zs = T at *
      by_cases hll : zs.length = ys.length
      · have hl1 : zs.length ≤ ys.length := Nat.le_of_eq hll
        have hl2 : ys.length ≤ zs.length := Nat.le_of_eq hll.symm
        have hlb : ((zs.length : Int) != (ys.length : Int)) = false := by rw [bne_eq_false_iff_eq]; omega
        have HL := Lib.hid hll
        clear hll
        by_cases hn1 : Nums zs
        · have HM1 := Lib.hid (fun W (h : IsInts W (.slice a zs.length lcap) zs) => rMay_any _ zs true W h (by omega) ⟨fun _ => hn1, fun _ => rfl⟩)
          by_cases hn2 : Nums ys
          · have HM2 := Lib.hid (fun W (h : IsInts W (.slice b ys.length scap) ys) => rMay_any _ ys true W h (by omega) ⟨fun _ => hn2, fun _ => rfl⟩)
            have HOK : Hid (AddOk zs ys) := Lib.hid ⟨HL.out, hn1, hn2⟩
            have HRA := Lib.hid (fun W (h : IsInts W (.slice a zs.length lcap) zs) (k : IsInts W (.slice b ys.length scap) ys) => rAdd_any _ _ zs ys W h k (by omega) HL.out hn1 hn2)
            have hal : (adds zs ys).length ≤ 300 := by rw [adds_len _ _ HL.out]; exact h1
            clear hn1 hn2
            go_enter Try.func13, Try.ntmps13
            go_wp2_with fail
            refine HA.out.mono ?_
            rintro e w1 ⟨v, rs, err, rfl, hI1, hB, hP⟩
            obtain ⟨rfl, rfl⟩ := hP.ok HOK.out
            have HI1 := Lib.hid hI1
            have HB := Lib.hid hB
            have HI2 := Lib.hid (HI.out.below HB.out)
            have HJ2 := Lib.hid (HJ.out.below HB.out)
            clear hI1 hB hP HA
            go_wp2_with fail
            refine (HT1.out _ HI2.out).mono ?_
            rintro e w' ⟨rfl, rfl⟩
            go_wp2_with fail
            refine (HT2.out _ HI2.out).mono ?_
            rintro e w' ⟨rfl, rfl⟩
            go_wp2_with fail
            refine (HM1.out _ HI2.out).mono ?_
            rintro e w' ⟨rfl, rfl⟩
            go_wp2_with fail
            refine (HM2.out _ HJ2.out).mono ?_
            rintro e w' ⟨rfl, rfl⟩
            go_wp2_with fail
            refine (HRA.out _ HI2.out HJ2.out).mono ?_
            rintro e w2 ⟨u, rfl, hI3, hB2⟩
            have HI3 := Lib.hid hI3
            have HI4 := Lib.hid (HI1.out.below hB2)
            have HB2 := Lib.hid (HB.out.trans (hB2.mono HB.out.size))
            clear hI3 hB2
            go_wp2_with fail
            refine (ints_any v u (adds zs ys) (adds zs ys) true w2 HI4.out HI3.out ⟨fun _ => rfl, fun _ => rfl⟩ (by omega) (by omega)).mono ?_
            rintro e w3 ⟨rfl, j, hj⟩
            have hb3 : Below w2.heap.size w2 w3 := by rw [hj]; exact below_drewN w2 j
            have HB3 := Lib.hid (HB2.out.trans (hb3.mono HB2.out.size))
            clear hj hb3
            go_wp2_with fail
            refine (three_any _).mono ?_
            rintro e w9 ⟨rfl, hb⟩
            have HB9 := Lib.hid (HB3.out.trans (hb.mono HB3.out.size))
            clear hb
            go_wp2_with fail
            go_ret
            exact ⟨rfl, HB9.out⟩
          · have HM2 := Lib.hid (fun W (h : IsInts W (.slice b ys.length scap) ys) => rMay_any _ ys false W h (by omega) ⟨fun e => (by cases e), fun e => absurd e hn2⟩)
            have HNO : Hid (¬ AddOk zs ys) := Lib.hid (fun h => hn2 h.2.2)
            clear hn1 hn2
            go_enter Try.func13, Try.ntmps13
            go_wp2_with fail
            refine HA.out.mono ?_
            rintro e w1 ⟨v, rs, err, rfl, hI1, hB, hP⟩
            obtain ⟨rfl, rfl⟩ := hP.no HNO.out
            obtain ⟨a1, cap1, rfl, _⟩ := hI1
            have HB := Lib.hid hB
            have HI2 := Lib.hid (HI.out.below HB.out)
            have HJ2 := Lib.hid (HJ.out.below HB.out)
            clear hB hP HA
            go_wp2_with fail
            refine (HT1.out _ HI2.out).mono ?_
            rintro e w' ⟨rfl, rfl⟩
            go_wp2_with fail
            refine (HT2.out _ HI2.out).mono ?_
            rintro e w' ⟨rfl, rfl⟩
            go_wp2_with fail
            refine (HM1.out _ HI2.out).mono ?_
            rintro e w' ⟨rfl, rfl⟩
            go_wp2_with fail
            refine (HM2.out _ HJ2.out).mono ?_
            rintro e w' ⟨rfl, rfl⟩
            go_wp2_with fail
            refine (three_any _).mono ?_
            rintro e w9 ⟨rfl, hb⟩
            have HB9 := Lib.hid (HB.out.trans (hb.mono HB.out.size))
            clear hb
            go_wp2_with fail
            go_ret
            exact ⟨rfl, HB9.out⟩
        · have HM1 := Lib.hid (fun W (h : IsInts W (.slice a zs.length lcap) zs) => rMay_any _ zs false W h (by omega) ⟨fun e => (by cases e), fun e => absurd e hn1⟩)
          have HNO : Hid (¬ AddOk zs ys) := Lib.hid (fun h => hn1 h.2.1)
          clear hn1
          go_enter Try.func13, Try.ntmps13
          go_wp2_with fail
          refine HA.out.mono ?_
          rintro e w1 ⟨v, rs, err, rfl, hI1, hB, hP⟩
          obtain ⟨rfl, rfl⟩ := hP.no HNO.out
          obtain ⟨a1, cap1, rfl, _⟩ := hI1
          have HB := Lib.hid hB
          have HI2 := Lib.hid (HI.out.below HB.out)
          have HJ2 := Lib.hid (HJ.out.below HB.out)
          clear hB hP HA
          go_wp2_with fail
          refine (HT1.out _ HI2.out).mono ?_
          rintro e w' ⟨rfl, rfl⟩
          go_wp2_with fail
          refine (HT2.out _ HI2.out).mono ?_
          rintro e w' ⟨rfl, rfl⟩
          go_wp2_with fail
          refine (HM1.out _ HI2.out).mono ?_
          rintro e w' ⟨rfl, rfl⟩
          go_wp2_with fail
          refine (three_any _).mono ?_
          rintro e w9 ⟨rfl, hb⟩
          have HB9 := Lib.hid (HB.out.trans (hb.mono HB.out.size))
          clear hb
          go_wp2_with fail
          go_ret
          exact ⟨rfl, HB9.out⟩
      · have hlb : ((zs.length : Int) != (ys.length : Int)) = true := by rw [bne_iff_ne]; omega
        have HNO : Hid (¬ AddOk zs ys) := Lib.hid (fun h => hll h.1)
        clear hll
        go_enter Try.func13, Try.ntmps13
        go_wp2_with fail
        refine HA.out.mono ?_
        rintro e w1 ⟨v, rs, err, rfl, hI1, hB, hP⟩
        obtain ⟨rfl, rfl⟩ := hP.no HNO.out
        obtain ⟨a1, cap1, rfl, _⟩ := hI1
        have HB := Lib.hid hB
        have HI2 := Lib.hid (HI.out.below HB.out)
        have HJ2 := Lib.hid (HJ.out.below HB.out)
        clear hB hP HA
        go_wp2_with fail
        refine (HT1.out _ HI2.out).mono ?_
        rintro e w' ⟨rfl, rfl⟩
        go_wp2_with fail
        refine (HT2.out _ HI2.out).mono ?_
        rintro e w' ⟨rfl, rfl⟩
        go_wp2_with fail
        refine (three_any _).mono ?_
        rintro e w9 ⟨rfl, hb⟩
        have HB9 := Lib.hid (HB.out.trans (hb.mono HB.out.size))
        clear hb
        go_wp2_with fail
        go_ret
        exact ⟨rfl, HB9.out⟩
    · have h2i : (300 : Int) < (slen : Int) := by omega
      go_enter Try.func13, Try.ntmps13
      go_wp2_with fail
      refine (three_any _).mono ?_
      rintro e w4 ⟨rfl, hb⟩
      have HB4 := Lib.hid hb
      clear hb
      go_wp2_with fail
      go_ret
      exact ⟨rfl, HB4.out⟩
  · have h1i : (300 : Int) < (llen : Int) := by omega
    go_enter Try.func13, Try.ntmps13
    go_wp2_with fail
    refine (three_any _).mono ?_
    rintro e w4 ⟨rfl, hb⟩
    have HB4 := Lib.hid hb
    clear hb
    go_wp2_with fail
    go_ret
    exact ⟨rfl, HB4.out⟩
set_option maxRecDepth 100000 in
set_option maxHeartbeats 2000000 in
theorem freqWeighed.walk (l : Option Addr) (llen lcap : Nat) (lz : List Int) (lens : Option Addr) (slen scap : Nat) (sz : List Int) (w : World) (hl : IsRow .i64 w l llen lcap lz) (hs : IsRow .i64 w lens slen scap sz) :
    Calls Try.prog 15 #[.slice l llen lcap, .slice lens slen scap] w fun e w' => e = .returned (.bool true) ∧ Below w.heap.size w w' := by
  have hcapS : (slen : Int) ≤ 9223372036854775807 := by
    have := isRow_len hs
    omega
  obtain ⟨hI, hlen⟩ := ints_in hl
  obtain ⟨hJ, hlen2⟩ := ints_in hs
  have HI := Lib.hid hI
  have HJ := Lib.hid hJ
  clear hl hs hI hJ
  generalize lz.take llen = zs at *
  generalize sz.take slen = ys at *
  by_cases h1 : llen ≤ 300
  · have h1i : (llen : Int) ≤ 300 := by omega
    by_cases hsz : 3 ≤ slen ∧ slen ≤ 258
    · subst hlen hlen2
      have HS := Lib.hid (fun W => rSize_any (ys.length : Int) true W ⟨fun _ => ⟨by omega, by omega⟩, fun _ => rfl⟩)
      have hs2 := hsz.2
      have hs2i : (ys.length : Int) ≤ 258 := by omega
      by_cases hy : Syms zs (ys.length : Int)
      · have HO := Lib.hid (rOf_any _ zs (ys.length : Int) true w HI.out (by omega) ⟨fun _ => hy, fun _ => rfl⟩)
        have HOK : Hid (CntOk zs (ys.length : Int)) := Lib.hid ⟨by omega, by omega, hy⟩
        have HWA := Lib.hid (wgh_all zs ys hy)
        have HSY := Lib.hid hy
        have HC := Lib.hid (cost_any _ _ zs ys w HI.out HJ.out (by omega) (by omega))
        have HN := Lib.hid (counts_any _ zs (ys.length : Int) w HI.out (by omega))
        clear hsz hy
        go_enter Try.func15, Try.ntmps15
        go_wp2_with fail
        refine (HS.out _).mono ?_
        rintro e w' ⟨rfl, rfl⟩
        go_wp2_with fail
        refine HO.out.mono ?_
        rintro e w' ⟨rfl, rfl⟩
        go_wp2_with fail
        refine HC.out.mono ?_
        rintro e w' ⟨n, err, rfl, rfl, hP⟩
        have HP := Lib.hid hP
        clear hP HC
        go_wp2_with fail
        refine HN.out.mono ?_
        rintro e w1 ⟨v, cs, err2, rfl, hI1, hB, hP2⟩
        obtain ⟨rfl, rfl⟩ := hP2.ok HOK.out
        simp only [Int.toNat_natCast] at hI1
        have HI1 := Lib.hid hI1
        have HB := Lib.hid hB
        have HJ2 := Lib.hid (HJ.out.below HB.out)
        obtain ⟨a1, cap1, rfl, _⟩ := hI1
        have hcl := counts_len zs ys.length
        have hclb : (((counts zs ys.length).length : Int) != (ys.length : Int)) = false := by rw [bne_eq_false_iff_eq]; omega
        have hclb2 : ((ys.length : Int) != (ys.length : Int)) = false := by simp
        clear hB hP2 HN HO HS
        go_wp2_with fail
        go_loop [9, 53] (fun c i => ∃ k : Nat, k ≤ ys.length ∧ i = .int .i64 k ∧ c = .int .i64 (wgh zs ys k) ∧ 0 ≤ wgh zs ys k ∧ wgh zs ys k ≤ 300000 * (k : Int) ∧ ∀ j, j < k → 0 ≤ ys.getD j 0 ∧ ys.getD j 0 ≤ 1000) (fun _ i => ys.length - (intOf i).toNat)
        case atStart => exact ⟨0, by omega, rfl, rfl, Int.le_refl _, by simp [wgh, sumF], fun j hj => by omega⟩
        case round =>
          obtain ⟨k, hk, rfl, rfl, hw0, hw1, hA⟩ := hrel
          have HA := Lib.hid hA
          clear hA
          by_cases hlk : k < ys.length
          · have hki : (k : Int) < (ys.length : Int) := by omega
            obtain ⟨b1, o1, k1, he1, c1⟩ := HJ2.out.cell hlk
            simp only [Value.slice.injEq] at he1
            obtain ⟨rfl, _, rfl⟩ := he1
            obtain ⟨b2, o2, k2, he2, c2⟩ := HI1.out.cell (show k < (counts zs ys.length).length by omega)
            simp only [Value.slice.injEq] at he2
            obtain ⟨rfl, _, rfl⟩ := he2
            rw [counts_get zs ys.length k hlk] at c2
            have hki2 : (k : Int) < ((counts zs ys.length).length : Int) := by omega
            have HWS := Lib.hid (wgh_succ zs ys k)
            have hcc := List.count_le_length (a := (k : Int)) (l := zs)
            generalize zs.count (k : Int) = c at *
            obtain ⟨y, hy⟩ : ∃ y, ys.getD k 0 = y := ⟨_, rfl⟩
            rw [hy] at c1 HWS
            have HY := Lib.hid hy
            clear hy
            generalize wgh zs ys k = A at *
            by_cases h0 : y < 0
            · go_wp2_with fail
              refine (three_any _).mono ?_
              rintro e w9 ⟨rfl, hb⟩
              have HB9 := Lib.hid (HB.out.trans (hb.mono HB.out.size))
              clear hb
              go_wp2_with fail
              go_ret
              exact ⟨rfl, HB9.out⟩
            · by_cases h5 : 1000 < y
              · go_wp2_with fail
                refine (three_any _).mono ?_
                rintro e w9 ⟨rfl, hb⟩
                have HB9 := Lib.hid (HB.out.trans (hb.mono HB.out.size))
                clear hb
                go_wp2_with fail
                go_ret
                exact ⟨rfl, HB9.out⟩
              · have hm0 : 0 ≤ y * (c : Int) := Int.mul_nonneg (by omega) (by omega)
                have hm1 : y * (c : Int) ≤ 1000 * 300 := Int.mul_le_mul (by omega) (by omega) (by omega) (by omega)
                have v1 : IntKind.i64.wrap (y * (c : Int)) = y * (c : Int) := IntWalk.i64_in _ (by omega)
                have v2 : IntKind.i64.wrap (A + y * (c : Int)) = A + y * (c : Int) := IntWalk.i64_in _ (by omega)
                have HA2 : Hid (∀ j, j < k + 1 → 0 ≤ ys.getD j 0 ∧ ys.getD j 0 ≤ 1000) := Lib.hid (fun j hj => by
                  by_cases e : j = k
                  · subst e; rw [HY.out]; omega
                  · exact HA.out j (by omega))
                go_wp2_with fail
                go_round
                case rel => exact ⟨k + 1, by omega, by go_num, by rw [HWS.out], by rw [HWS.out]; omega, by rw [HWS.out]; omega, HA2.out⟩
                case measure => simp [intOf]; omega
          · obtain rfl : k = ys.length := by omega
            have hnu : Nums ys := fun p hp => by
              obtain ⟨i, hi, rfl⟩ := List.getElem_of_mem hp
              have := HA.out i hi
              rw [List.getD_eq_getElem?_getD, List.getElem?_eq_getElem hi] at this
              simp only [Option.getD_some] at this
              omega
            obtain ⟨hn, rfl⟩ := HP.out.ok ⟨HSY.out, hnu⟩
            rw [← HWA.out, cap_id _ (by omega)] at hn
            subst hn
            generalize wgh zs ys ys.length = A at *
            go_wp2_with fail
            refine (three_any _).mono ?_
            rintro e w9 ⟨rfl, hb⟩
            have HB9 := Lib.hid (HB.out.trans (hb.mono HB.out.size))
            clear hb
            go_wp2_with fail
            go_ret
            exact ⟨rfl, HB9.out⟩
      · have HO := Lib.hid (rOf_any _ zs (ys.length : Int) false w HI.out (by omega) ⟨fun e => (by cases e), fun e => absurd e hy⟩)
        clear hsz hy
        go_enter Try.func15, Try.ntmps15
        go_wp2_with fail
        refine (HS.out _).mono ?_
        rintro e w' ⟨rfl, rfl⟩
        go_wp2_with fail
        refine HO.out.mono ?_
        rintro e w' ⟨rfl, rfl⟩
        go_wp2_with fail
        refine (three_any _).mono ?_
        rintro e w4 ⟨rfl, hb⟩
        have HB4 := Lib.hid hb
        clear hb
        go_wp2_with fail
        go_ret
        exact ⟨rfl, HB4.out⟩
    · have HS := Lib.hid (fun W => rSize_any (slen : Int) false W ⟨fun e => (by cases e), fun e => absurd (show 3 ≤ slen ∧ slen ≤ 258 from ⟨by omega, by omega⟩) hsz⟩)
      clear hsz
      go_enter Try.func15, Try.ntmps15
      go_wp2_with fail
      refine (HS.out _).mono ?_
      rintro e w' ⟨rfl, rfl⟩
      go_wp2_with fail
      refine (three_any _).mono ?_
      rintro e w4 ⟨rfl, hb⟩
      have HB4 := Lib.hid hb
      clear hb
      go_wp2_with fail
      go_ret
      exact ⟨rfl, HB4.out⟩
  · have h1i : (300 : Int) < (llen : Int) := by omega
    go_enter Try.func15, Try.ntmps15
    go_wp2_with fail
    refine (three_any _).mono ?_
    rintro e w4 ⟨rfl, hb⟩
    have HB4 := Lib.hid hb
    clear hb
    go_wp2_with fail
    go_ret
    exact ⟨rfl, HB4.out⟩
end Go.Proofs.Ythfdmmlamomlkaa
