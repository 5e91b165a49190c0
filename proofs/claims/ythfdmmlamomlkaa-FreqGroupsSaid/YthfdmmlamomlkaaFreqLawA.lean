/-
  LAYER 8's STATEMENTS: the three symbols that each of them tries; FreqCounts, FreqCosts.
-/
import Derived.Test.YthfdmmlamomlkaaFreqD
namespace Go.Proofs.Ythfdmmlamomlkaa
open Go.RowKit FreqM
set_option linter.unusedVariables false
theorem CntP.ok {l : List Int} {n : Int} {zs : List Int} {err : Nat} (h : CntP l n zs err) (hk : CntOk l n) : zs = counts l n.toNat ∧ err = 0 := by
  rcases h with ⟨h1, _⟩ | ⟨_, h1, h2⟩
  · exact absurd hk h1
  · exact ⟨h1, h2⟩
theorem CntP.no {l : List Int} {n : Int} {zs : List Int} {err : Nat} (h : CntP l n zs err) (hk : ¬ CntOk l n) : zs = [] ∧ err = 1 := by
  rcases h with ⟨_, h1, h2⟩ | ⟨h1, _⟩
  · exact ⟨h1, h2⟩
  · exact absurd h1 hk
theorem CostP.ok {l ls : List Int} {n : Int} {err : Nat} (h : CostP l ls n err) (hk : CostOk l ls) : n = FreqM.cap (costS l ls) ∧ err = 0 := by
  rcases h with ⟨h1, _⟩ | ⟨_, h1, h2⟩
  · exact absurd hk h1
  · exact ⟨h1, h2⟩
theorem CostP.no {l ls : List Int} {n : Int} {err : Nat} (h : CostP l ls n err) (hk : ¬ CostOk l ls) : n = 0 ∧ err = 1 := by
  rcases h with ⟨_, h1, h2⟩ | ⟨h1, _⟩
  · exact ⟨h1, h2⟩
  · exact absurd h1 hk
theorem AddP.ok {a b : List Int} {zs : List Int} {err : Nat} (h : AddP a b zs err) (hk : AddOk a b) : zs = adds a b ∧ err = 0 := by
  rcases h with ⟨h1, _⟩ | ⟨_, h1, h2⟩
  · exact absurd hk h1
  · exact ⟨h1, h2⟩
theorem AddP.no {a b : List Int} {zs : List Int} {err : Nat} (h : AddP a b zs err) (hk : ¬ AddOk a b) : zs = [] ∧ err = 1 := by
  rcases h with ⟨_, h1, h2⟩ | ⟨h1, _⟩
  · exact ⟨h1, h2⟩
  · exact absurd h1 hk
theorem ints_at8 (w : World) (zs : List Int) (N : Nat) (hN : N = zs.length) : IsInts (w.alloc (.cells (zs.map iv64).toArray 3)) (.slice (some ⟨w.heap.size, 0, none⟩) N N) zs :=
  ints_of_row (rest := []) (by rw [List.append_nil]; exact heap_alloc_new w _) hN
theorem ints_two (w : World) : IsInts ((w.alloc (.cells (([0, 2, 2] : List Int).map iv64).toArray 3)).alloc (.cells (([5, 1, 2] : List Int).map iv64).toArray 3)) (.slice (some ⟨w.heap.size + 1, 0, none⟩) 3 3) [5, 1, 2] := by
  have h := ints_at8 (w.alloc (.cells (([0, 2, 2] : List Int).map iv64).toArray 3)) [5, 1, 2] 3 rfl
  rw [show (w.alloc (.cells (([0, 2, 2] : List Int).map iv64).toArray 3)).heap.size = w.heap.size + 1 from by simp] at h
  exact h
theorem cnt_three {zs : List Int} {err : Nat} (h : CntP [0, 2, 2] 3 zs err) : zs = [1, 0, 2] ∧ err = 0 := by
  have hk : CntOk [0, 2, 2] 3 := ⟨by decide, by decide, by unfold Syms; decide⟩
  obtain ⟨h1, h2⟩ := h.ok hk
  exact ⟨h1.trans (by decide), h2⟩
theorem cost_three {n : Int} {err : Nat} (h : CostP [0, 2, 2] [5, 1, 2] n err) : n = 9 ∧ err = 0 := by
  have hk : CostOk [0, 2, 2] [5, 1, 2] := ⟨by unfold Syms; decide, by unfold Nums; decide⟩
  obtain ⟨h1, h2⟩ := h.ok hk
  exact ⟨h1.trans (by decide), h2⟩
theorem tot_three : tot [3, -1, 4] = 7 := by decide
theorem gn_51 : gn 51 = 2 := by decide
set_option maxRecDepth 100000 in
set_option maxHeartbeats 2000000 in
theorem three_any (w : World) : Calls Try.prog 31 #[] w fun e w' => e = .returned (.bool true) ∧ Below w.heap.size w w' := by
  go_enter Try.func31, Try.ntmps31
  go_wp2_with fail
  refine (counts_any _ [0, 2, 2] 3 _ (by exact ints_at8 w [0, 2, 2] 3 rfl) (by decide)).mono ?_
  rintro e w1 ⟨v, zs, err, rfl, hI, hB, hP⟩
  obtain ⟨rfl, rfl⟩ := cnt_three hP
  have HI := Lib.hid hI
  have HB := Lib.hid (((Below.refl w.heap.size w).alloc (Nat.le_refl _) _).trans (hB.mono (by simp)))
  clear hI hB hP
  go_wp2_with fail
  refine (cost_any _ _ [0, 2, 2] [5, 1, 2] _ (by exact (ints_at8 w1 [0, 2, 2] 3 rfl).alloc _) (by exact ints_two w1) (by decide) (by decide)).mono ?_
  rintro e w2 ⟨n, err, rfl, rfl, hP⟩
  obtain ⟨rfl, rfl⟩ := cost_three hP
  have hb12 : Below w1.heap.size w1 ((w1.alloc (.cells (([0, 2, 2] : List Int).map iv64).toArray 3)).alloc (.cells (([5, 1, 2] : List Int).map iv64).toArray 3)) := ((Below.refl w1.heap.size w1).alloc (Nat.le_refl _) _).alloc (by simp) _
  have HI2 := Lib.hid (HI.out.below hb12)
  have HB2 := Lib.hid (HB.out.trans (hb12.mono HB.out.size))
  clear hP hb12
  change Hid (IsInts ((w1.alloc (.cells #[.int .i64 0, .int .i64 2, .int .i64 2] 3)).alloc (.cells #[.int .i64 5, .int .i64 1, .int .i64 2] 3)) v [1, 0, 2]) at HI2
  change Hid (Below w.heap.size w ((w1.alloc (.cells #[.int .i64 0, .int .i64 2, .int .i64 2] 3)).alloc (.cells #[.int .i64 5, .int .i64 1, .int .i64 2] 3))) at HB2
  generalize (w1.alloc (.cells #[.int .i64 0, .int .i64 2, .int .i64 2] 3)).alloc (.cells #[.int .i64 5, .int .i64 1, .int .i64 2] 3) = w2 at *
  go_wp2_with fail
  refine (ints_any v _ [1, 0, 2] [1, 0, 2] true _ (by exact HI2.out.alloc _) (by exact ints_at8 w2 [1, 0, 2] 3 rfl) ⟨fun _ => rfl, fun _ => rfl⟩ (by decide) (by decide)).mono ?_
  rintro e w4 ⟨rfl, k, hk⟩
  have hb34 : Below w2.heap.size w2 w4 := by
    rw [hk]
    exact ((Below.refl w2.heap.size w2).alloc (Nat.le_refl _) _).trans ((below_drewN _ k).mono (by simp))
  have HB4 := Lib.hid (HB2.out.trans (hb34.mono HB2.out.size))
  clear hk hb34
  go_wp2_with fail
  refine (groups_any 51 w4 (by decide) (by decide)).mono ?_
  rintro e w' ⟨rfl, rfl⟩
  rw [gn_51]
  go_wp2_with fail
  refine (total_any _ [3, -1, 4] _ (by exact ints_at8 w4 [3, -1, 4] 3 rfl) (by decide)).mono ?_
  rintro e w' ⟨rfl, rfl⟩
  rw [tot_three]
  go_wp2_with fail
  go_ret
  exact ⟨rfl, HB4.out.alloc HB4.out.size _⟩
set_option maxRecDepth 100000 in
set_option maxHeartbeats 2000000 in
theorem freqCounts.walk (l : Option Addr) (llen lcap : Nat) (lz : List Int) (n : Int) (w : World) (hl : IsRow .i64 w l llen lcap lz) (_ : (Lit.int .i64 n).wf = true) :
    Calls Try.prog 10 #[.slice l llen lcap, .int .i64 n] w fun e w' => e = .returned (.bool true) ∧ Below w.heap.size w w' := by
  obtain ⟨hI, hlen⟩ := ints_in hl
  have HI := Lib.hid hI
  clear hl hI
  generalize lz.take llen = zs at *
  by_cases h1 : llen ≤ 300
  · have h1i : (llen : Int) ≤ 300 := by omega
    have HC := Lib.hid (counts_any _ zs n w HI.out (by omega))
    by_cases hs : 3 ≤ n ∧ n ≤ 258
    · have HS := Lib.hid (fun W => rSize_any n true W ⟨fun _ => hs, fun _ => rfl⟩)
      obtain ⟨N, rfl⟩ : ∃ N : Nat, n = (N : Int) := ⟨n.toNat, by omega⟩
      by_cases hy : Syms zs (N : Int)
      · have HO := Lib.hid (fun W (h : IsInts W (.slice l llen lcap) zs) => rOf_any _ zs (N : Int) true W h (by omega) ⟨fun _ => hy, fun _ => rfl⟩)
        have HOK : Hid (CntOk zs (N : Int)) := Lib.hid ⟨hs.1, hs.2, hy⟩
        have hN : N ≤ 1000 := by omega
        clear hs hy
        go_enter Try.func10, Try.ntmps10
        go_wp2_with fail
        refine HC.out.mono ?_
        rintro e w1 ⟨v, ys, err, rfl, hI1, hB, hP⟩
        obtain ⟨rfl, rfl⟩ := hP.ok HOK.out
        simp only [Int.toNat_natCast] at hI1
        have HI1 := Lib.hid hI1
        have HB := Lib.hid hB
        have HI2 := Lib.hid (HI.out.below HB.out)
        clear hI1 hB hP HC
        go_wp2_with fail
        refine (HS.out _).mono ?_
        rintro e w' ⟨rfl, rfl⟩
        go_wp2_with fail
        refine (HO.out _ HI2.out).mono ?_
        rintro e w' ⟨rfl, rfl⟩
        go_wp2_with fail
        refine (rCounts_any _ zs N w1 HI2.out (by omega) hN).mono ?_
        rintro e w2 ⟨u, rfl, hI3, hB2⟩
        have HI3 := Lib.hid hI3
        have HI4 := Lib.hid (HI1.out.below hB2)
        have HB2 := Lib.hid (HB.out.trans (hB2.mono HB.out.size))
        clear hI3 hB2
        go_wp2_with fail
        refine (ints_any v u (counts zs N) (counts zs N) true w2 HI4.out HI3.out ⟨fun _ => rfl, fun _ => rfl⟩ (by rw [counts_len]; omega) (by rw [counts_len]; omega)).mono ?_
        rintro e w3 ⟨rfl, j, hj⟩
        have hb3 : Below w2.heap.size w2 w3 := by rw [hj]; exact below_drewN w2 j
        have HB3 := Lib.hid (HB2.out.trans (hb3.mono HB2.out.size))
        clear hj hb3
        go_wp2_with fail
        refine (three_any _).mono ?_
        rintro e w9 ⟨rfl, hb⟩
        have HB9 := Lib.hid (HB3.out.trans (hb.mono HB3.out.size))
        clear hb
        go_wp2_with fail
        go_ret
        exact ⟨rfl, HB9.out⟩
      · have HO := Lib.hid (fun W (h : IsInts W (.slice l llen lcap) zs) => rOf_any _ zs (N : Int) false W h (by omega) ⟨fun e => (by cases e), fun e => absurd e hy⟩)
        have HNO : Hid (¬ CntOk zs (N : Int)) := Lib.hid (fun h => hy h.2.2)
        clear hs hy
        go_enter Try.func10, Try.ntmps10
        go_wp2_with fail
        refine HC.out.mono ?_
        rintro e w1 ⟨v, ys, err, rfl, hI1, hB, hP⟩
        obtain ⟨rfl, rfl⟩ := hP.no HNO.out
        obtain ⟨a1, cap1, rfl, _⟩ := hI1
        have HB := Lib.hid hB
        have HI2 := Lib.hid (HI.out.below HB.out)
        clear hB hP HC
        go_wp2_with fail
        refine (HS.out _).mono ?_
        rintro e w' ⟨rfl, rfl⟩
        go_wp2_with fail
        refine (HO.out _ HI2.out).mono ?_
        rintro e w' ⟨rfl, rfl⟩
        go_wp2_with fail
        refine (three_any _).mono ?_
        rintro e w9 ⟨rfl, hb⟩
        have HB9 := Lib.hid (HB.out.trans (hb.mono HB.out.size))
        clear hb
        go_wp2_with fail
        go_ret
        exact ⟨rfl, HB9.out⟩
    · have HS := Lib.hid (fun W => rSize_any n false W ⟨fun e => (by cases e), fun e => absurd e hs⟩)
      have HNO : Hid (¬ CntOk zs n) := Lib.hid (fun h => hs ⟨h.1, h.2.1⟩)
      clear hs
      go_enter Try.func10, Try.ntmps10
      go_wp2_with fail
      refine HC.out.mono ?_
      rintro e w1 ⟨v, ys, err, rfl, hI1, hB, hP⟩
      obtain ⟨rfl, rfl⟩ := hP.no HNO.out
      obtain ⟨a1, cap1, rfl, _⟩ := hI1
      have HB := Lib.hid hB
      clear hB hP HC
      go_wp2_with fail
      refine (HS.out _).mono ?_
      rintro e w' ⟨rfl, rfl⟩
      go_wp2_with fail
      refine (three_any _).mono ?_
      rintro e w9 ⟨rfl, hb⟩
      have HB9 := Lib.hid (HB.out.trans (hb.mono HB.out.size))
      clear hb
      go_wp2_with fail
      go_ret
      exact ⟨rfl, HB9.out⟩
  · have h1i : (300 : Int) < (llen : Int) := by omega
    go_enter Try.func10, Try.ntmps10
    go_wp2_with fail
    refine (three_any _).mono ?_
    rintro e w4 ⟨rfl, hb⟩
    have HB4 := Lib.hid hb
    clear hb
    go_wp2_with fail
    go_ret
    exact ⟨rfl, HB4.out⟩
set_option maxRecDepth 100000 in
set_option maxHeartbeats 2000000 in
theorem freqCosts.walk (l : Option Addr) (llen lcap : Nat) (lz : List Int) (lens : Option Addr) (slen scap : Nat) (sz : List Int) (w : World) (hl : IsRow .i64 w l llen lcap lz) (hs : IsRow .i64 w lens slen scap sz) :
    Calls Try.prog 12 #[.slice l llen lcap, .slice lens slen scap] w fun e w' => e = .returned (.bool true) ∧ Below w.heap.size w w' := by
  obtain ⟨hI, hlen⟩ := ints_in hl
  obtain ⟨hJ, hlen2⟩ := ints_in hs
  have HI := Lib.hid hI
  have HJ := Lib.hid hJ
  clear hl hs hI hJ
  generalize lz.take llen = zs at *
  generalize sz.take slen = ys at *
  by_cases h1 : llen ≤ 100
  · have h1i : (llen : Int) ≤ 100 := by omega
    by_cases h2 : slen ≤ 100
    · have h2i : (slen : Int) ≤ 100 := by omega
      subst hlen hlen2
      have HC := Lib.hid (cost_any _ _ zs ys w HI.out HJ.out (by omega) (by omega))
      by_cases hy : Syms zs (ys.length : Int)
      · have HO := Lib.hid (rOf_any _ zs (ys.length : Int) true w HI.out (by omega) ⟨fun _ => hy, fun _ => rfl⟩)
        by_cases hn : Nums ys
        · have HM := Lib.hid (rMay_any _ ys true w HJ.out (by omega) ⟨fun _ => hn, fun _ => rfl⟩)
          have HOK : Hid (CostOk zs ys) := Lib.hid ⟨hy, hn⟩
          have HRC := Lib.hid (rCost_any _ _ zs ys w HI.out HJ.out (by omega) (by omega) ⟨hy, hn⟩)
          clear hy hn
          go_enter Try.func12, Try.ntmps12
          go_wp2_with fail
          refine HC.out.mono ?_
          rintro e w1 ⟨n, err, rfl, rfl, hP⟩
          obtain ⟨rfl, rfl⟩ := hP.ok HOK.out
          clear hP HC
          go_wp2_with fail
          refine HO.out.mono ?_
          rintro e w' ⟨rfl, rfl⟩
          go_wp2_with fail
          refine HM.out.mono ?_
          rintro e w' ⟨rfl, rfl⟩
          go_wp2_with fail
          refine HRC.out.mono ?_
          rintro e w' ⟨rfl, rfl⟩
          go_wp2_with fail
          refine (three_any _).mono ?_
          rintro e w4 ⟨rfl, hb⟩
          have HB4 := Lib.hid hb
          clear hb
          go_wp2_with fail
          go_ret
          exact ⟨rfl, HB4.out⟩
        · have HM := Lib.hid (rMay_any _ ys false w HJ.out (by omega) ⟨fun e => (by cases e), fun e => absurd e hn⟩)
          have HNO : Hid (¬ CostOk zs ys) := Lib.hid (fun h => hn h.2)
          clear hy hn
          go_enter Try.func12, Try.ntmps12
          go_wp2_with fail
          refine HC.out.mono ?_
          rintro e w1 ⟨n, err, rfl, rfl, hP⟩
          obtain ⟨rfl, rfl⟩ := hP.no HNO.out
          clear hP HC
          go_wp2_with fail
          refine HO.out.mono ?_
          rintro e w' ⟨rfl, rfl⟩
          go_wp2_with fail
          refine HM.out.mono ?_
          rintro e w' ⟨rfl, rfl⟩
          go_wp2_with fail
          refine (three_any _).mono ?_
          rintro e w4 ⟨rfl, hb⟩
          have HB4 := Lib.hid hb
          clear hb
          go_wp2_with fail
          go_ret
          exact ⟨rfl, HB4.out⟩
      · have HO := Lib.hid (rOf_any _ zs (ys.length : Int) false w HI.out (by omega) ⟨fun e => (by cases e), fun e => absurd e hy⟩)
        have HNO : Hid (¬ CostOk zs ys) := Lib.hid (fun h => hy h.1)
        clear hy
        go_enter Try.func12, Try.ntmps12
        go_wp2_with fail
        refine HC.out.mono ?_
        rintro e w1 ⟨n, err, rfl, rfl, hP⟩
        obtain ⟨rfl, rfl⟩ := hP.no HNO.out
        clear hP HC
        go_wp2_with fail
        refine HO.out.mono ?_
        rintro e w' ⟨rfl, rfl⟩
        go_wp2_with fail
        refine (three_any _).mono ?_
        rintro e w4 ⟨rfl, hb⟩
        have HB4 := Lib.hid hb
        clear hb
        go_wp2_with fail
        go_ret
        exact ⟨rfl, HB4.out⟩
    · have h2i : (100 : Int) < (slen : Int) := by omega
      go_enter Try.func12, Try.ntmps12
      go_wp2_with fail
      refine (three_any _).mono ?_
      rintro e w4 ⟨rfl, hb⟩
      have HB4 := Lib.hid hb
      clear hb
      go_wp2_with fail
      go_ret
      exact ⟨rfl, HB4.out⟩
  · have h1i : (100 : Int) < (llen : Int) := by omega
    go_enter Try.func12, Try.ntmps12
    go_wp2_with fail
    refine (three_any _).mono ?_
    rintro e w4 ⟨rfl, hb⟩
    have HB4 := Lib.hid hb
    clear hb
    go_wp2_with fail
    go_ret
    exact ⟨rfl, HB4.out⟩
end Go.Proofs.Ythfdmmlamomlkaa
