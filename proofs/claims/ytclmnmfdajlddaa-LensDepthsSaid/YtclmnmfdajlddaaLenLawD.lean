/-
  LAYER 9 (lens): LensDepths, LensOf.
-/
import Derived.Test.YtclmnmfdajlddaaLenLawA
import Derived.Test.YtclmnmfdajlddaaLenRefC
namespace Go.Proofs.Ytclmnmfdajlddaa
open Go.RowKit HufM
set_option linter.unusedVariables false
theorem wf_i64 {n : Int} (h : (Lit.int .i64 n).wf = true) : -9223372036854775808 ≤ n ∧ n ≤ 9223372036854775807 := by
  simp [Lit.wf, IntKind.min, IntKind.max, IntKind.signed, IntKind.bits] at h
  omega
theorem IsRow.small {w : World} {a : Option Addr} {len cap : Nat} {zs : List Int} (h : IsRow .i64 w a len cap zs) : ∀ z ∈ zs.take len, z ≤ 9223372036854775807 := fun z hz => by
  rcases h with ⟨rfl, rfl, rfl, rfl⟩ | ⟨x, rfl, _, _, _, _, hw⟩
  · simp at hz
  · have := hw z (List.mem_of_mem_take hz)
    have := wf_i64 this
    omega
set_option maxRecDepth 100000 in
set_option maxHeartbeats 4000000 in
theorem lensOf.walk (l : Option Addr) (llen lcap : Nat) (lz : List Int) (w : World) (hl : IsRow .i64 w l llen lcap lz) :
    Calls Try.prog 4 #[.slice l llen lcap] w fun e w' => e = .returned (.bool true) ∧ Below w.heap.size w w' := by
  have hsm := IsRow.small hl
  obtain ⟨hI, hlen⟩ := ints_in hl
  obtain ⟨hl1, hl2⟩ := isRow_len hl
  have HI := Lib.hid hI
  clear hl hI
  generalize lz.take llen = zs at *
  have HLEN := Lib.hid hlen
  have HSM := Lib.hid hsm
  clear hlen hsm
  by_cases h0 : 40 < llen ∧ llen ≤ 258
  · obtain ⟨h0a, h0b⟩ := h0
    have h0c : 40 < (llen : Int) := by omega
    have h0d : (llen : Int) ≤ 258 := by omega
    go_enter Try.func4, Try.ntmps4
    go_wp2_with fail
    refine (three_any _).mono ?_
    rintro e w' ⟨rfl, hb⟩
    have HBF := Lib.hid (hb)
    clear hb
    go_wp2_with fail
    go_ret
    exact ⟨rfl, HBF.out⟩
  · have HOF := Lib.hid (of_any _ zs w HI.out (by rw [HLEN.out]; omega))
    have hg : Hid ((decide (40 < (llen : Int)) = false) ∨ (40 < (llen : Int) ∧ decide ((llen : Int) ≤ 258) = false)) := Lib.hid (by
      by_cases h : 40 < llen
      · exact Or.inr ⟨by omega, by simp only [decide_eq_false_iff_not]; omega⟩
      · exact Or.inl (by simp only [decide_eq_false_iff_not]; omega))
    by_cases h1 : llen < 3
    · have h1b : (llen : Int) < 3 := by omega
      have h40 : decide (40 < (llen : Int)) = false := by simp only [decide_eq_false_iff_not]; omega
      go_enter Try.func4, Try.ntmps4
      go_wp2_with fail
      refine HOF.out.mono ?_
      rintro e w2 ⟨r, rs, err, rfl, hI2, hP, hB⟩
      obtain ⟨rfl, rfl⟩ : rs = [] ∧ err = 1 := by
        rcases hP with ⟨_, h⟩ | ⟨h, _⟩
        · exact h
        · have := h.1; rw [HLEN.out] at this; omega
      have HB := Lib.hid hB
      obtain ⟨a2, cap2, rfl, _⟩ := hI2
      clear hP hB
      go_wp2_with fail
      refine (three_any _).mono ?_
      rintro e w' ⟨rfl, hb⟩
      have HBF := Lib.hid (HB.out.trans (hb.mono HB.out.size))
      clear hb
      go_wp2_with fail
      go_ret
      exact ⟨rfl, HBF.out⟩
    · have h1b : decide ((llen : Int) < 3) = false := by simp only [decide_eq_false_iff_not]; omega
      by_cases h2 : 258 < llen
      · have h2b : 258 < (llen : Int) := by omega
        have h40 : 40 < (llen : Int) := by omega
        have h258 : decide ((llen : Int) ≤ 258) = false := by simp only [decide_eq_false_iff_not]; omega
        go_enter Try.func4, Try.ntmps4
        go_wp2_with fail
        refine HOF.out.mono ?_
        rintro e w2 ⟨r, rs, err, rfl, hI2, hP, hB⟩
        obtain ⟨rfl, rfl⟩ : rs = [] ∧ err = 1 := by
          rcases hP with ⟨_, h⟩ | ⟨h, _⟩
          · exact h
          · have := h.2.1; rw [HLEN.out] at this; omega
        have HB := Lib.hid hB
        obtain ⟨a2, cap2, rfl, _⟩ := hI2
        clear hP hB
        go_wp2_with fail
        refine (three_any _).mono ?_
        rintro e w' ⟨rfl, hb⟩
        have HBF := Lib.hid (HB.out.trans (hb.mono HB.out.size))
        clear hb
        go_wp2_with fail
        go_ret
        exact ⟨rfl, HBF.out⟩
      · have h2b : decide (258 < (llen : Int)) = false := by simp only [decide_eq_false_iff_not]; omega
        have h40 : decide (40 < (llen : Int)) = false := by simp only [decide_eq_false_iff_not]; omega
        by_cases hw : Within 0 1099511627776 zs
        · have HW := Lib.hid hw
          have HMAY := Lib.hid (fun W (h : IsInts W (.slice l llen lcap) zs) => may_any _ zs 0 1099511627776 true W h ⟨fun _ => hw, fun _ => rfl⟩ (by rw [HLEN.out]; omega))
          clear hw
          go_enter Try.func4, Try.ntmps4
          go_wp2_with fail
          refine HOF.out.mono ?_
          rintro e w2 ⟨r, rs, err, rfl, hI2, hP, hB⟩
          obtain ⟨rfl, m0, hm0, hof⟩ : err = 0 ∧ ∃ n, n ≤ 40 ∧ OfR n (ups zs) rs := by
            rcases hP with ⟨h, _⟩ | ⟨_, h, e⟩
            · exact absurd ⟨by rw [HLEN.out]; omega, by rw [HLEN.out]; omega, HW.out⟩ h
            · exact ⟨e, h⟩
          have HB := Lib.hid hB
          have HI2 := Lib.hid hI2
          have HZ2 := Lib.hid (HI.out.below hB)
          have hrl : rs.length ≤ 258 := by
            have := (hof.whole (by rw [ups_len, HLEN.out]; omega)).1
            rw [ups_len, HLEN.out] at this
            omega
          have HR := Lib.hid (rOf9_any _ zs rs m0 w2 HZ2.out (by rw [HLEN.out]; omega) (by rw [HLEN.out]; omega) HW.out hm0 hof)
          obtain ⟨a2, cap2, rfl, _⟩ := hI2
          clear hP hB hof
          go_wp2_with fail
          refine (HMAY.out w2 HZ2.out).mono ?_
          rintro e w3 ⟨rfl, rfl⟩
          go_wp2_with fail
          refine HR.out.mono ?_
          rintro e w4 ⟨r4, rfl, hi4, hb4⟩
          have HI4 := Lib.hid hi4
          have HI24 := Lib.hid (HI2.out.below hb4)
          have HB4 := Lib.hid (HB.out.trans (hb4.mono HB.out.size))
          obtain ⟨a4, cap4, rfl, _⟩ := hi4
          clear hb4
          go_wp2_with fail
          refine (ints_any _ _ rs rs true w4 HI24.out HI4.out ⟨fun _ => rfl, fun _ => rfl⟩ (by omega) (by omega)).mono ?_
          rintro e w5 ⟨rfl, k, hk⟩
          have HB5 : Hid (Below w.heap.size w w5) := Lib.hid (by rw [hk]; exact HB4.out.trans ((below_drewN _ k).mono HB4.out.size))
          clear hk
          go_wp2_with fail
          refine (three_any _).mono ?_
          rintro e w' ⟨rfl, hb⟩
          have HBF := Lib.hid (HB5.out.trans (hb.mono HB5.out.size))
          clear hb
          go_wp2_with fail
          go_ret
          exact ⟨rfl, HBF.out⟩
        · have HW := Lib.hid hw
          have HMAY := Lib.hid (fun W (h : IsInts W (.slice l llen lcap) zs) => may_any _ zs 0 1099511627776 false W h ⟨fun h => (by cases h), fun h => absurd h hw⟩ (by rw [HLEN.out]; omega))
          clear hw
          go_enter Try.func4, Try.ntmps4
          go_wp2_with fail
          refine HOF.out.mono ?_
          rintro e w2 ⟨r, rs, err, rfl, hI2, hP, hB⟩
          obtain ⟨rfl, rfl⟩ : rs = [] ∧ err = 1 := by
            rcases hP with ⟨_, h⟩ | ⟨h, _⟩
            · exact h
            · exact absurd h.2.2 HW.out
          have HB := Lib.hid hB
          have HZ2 := Lib.hid (HI.out.below hB)
          obtain ⟨a2, cap2, rfl, _⟩ := hI2
          clear hP hB
          go_wp2_with fail
          refine (HMAY.out w2 HZ2.out).mono ?_
          rintro e w3 ⟨rfl, rfl⟩
          go_wp2_with fail
          refine (three_any _).mono ?_
          rintro e w' ⟨rfl, hb⟩
          have HBF := Lib.hid (HB.out.trans (hb.mono HB.out.size))
          clear hb
          go_wp2_with fail
          go_ret
          exact ⟨rfl, HBF.out⟩
set_option maxRecDepth 100000 in
set_option maxHeartbeats 4000000 in
theorem lensDepths.walk (l : Option Addr) (llen lcap : Nat) (lz : List Int) (w : World) (hl : IsRow .i64 w l llen lcap lz) :
    Calls Try.prog 3 #[.slice l llen lcap] w fun e w' => e = .returned (.bool true) ∧ Below w.heap.size w w' := by
  have hsm := IsRow.small hl
  obtain ⟨hI, hlen⟩ := ints_in hl
  obtain ⟨hl1, hl2⟩ := isRow_len hl
  have HI := Lib.hid hI
  clear hl hI
  generalize lz.take llen = zs at *
  have HLEN := Lib.hid hlen
  have HSM := Lib.hid hsm
  clear hlen hsm
  by_cases h0 : 40 < llen ∧ llen ≤ 258
  · obtain ⟨h0a, h0b⟩ := h0
    have h0c : 40 < (llen : Int) := by omega
    have h0d : (llen : Int) ≤ 258 := by omega
    go_enter Try.func3, Try.ntmps3
    go_wp2_with fail
    refine (three_any _).mono ?_
    rintro e w' ⟨rfl, hb⟩
    have HBF := Lib.hid (hb)
    clear hb
    go_wp2_with fail
    go_ret
    exact ⟨rfl, HBF.out⟩
  · have HDT := Lib.hid (depthsTop_any _ zs w HI.out (by rw [HLEN.out]; omega))
    by_cases h1 : llen < 2
    · have h1b : (llen : Int) < 2 := by omega
      have h40 : decide (40 < (llen : Int)) = false := by simp only [decide_eq_false_iff_not]; omega
      have h40b : (llen : Int) ≤ 40 := by omega
      go_enter Try.func3, Try.ntmps3
      go_wp2_with fail
      refine HDT.out.mono ?_
      rintro e w2 ⟨r, rs, err, rfl, hI2, hP, hB⟩
      obtain ⟨rfl, rfl⟩ : rs = [] ∧ err = 1 := by
        rcases hP with ⟨_, h⟩ | ⟨h, _⟩
        · exact h
        · have := h.1; rw [HLEN.out] at this; omega
      have HB := Lib.hid hB
      have HZ2 := Lib.hid (HI.out.below hB)
      obtain ⟨a2, cap2, rfl, _⟩ := hI2
      clear hP hB
      go_wp2_with fail
      refine (halved_any _ zs w2 HZ2.out (by rw [HLEN.out]; omega) HSM.out).mono ?_
      rintro e w3 ⟨r3, rfl, hi3, hb3⟩
      have HI3 := Lib.hid hi3
      have HZ3 := Lib.hid (HZ2.out.below hb3)
      have HB3 := Lib.hid (HB.out.trans (hb3.mono HB.out.size))
      clear hi3 hb3
      go_wp2_with fail
      refine (rHalved_any _ zs w3 HZ3.out (by rw [HLEN.out]; omega) HSM.out).mono ?_
      rintro e w4 ⟨r4, rfl, hi4, hb4⟩
      have HI4 := Lib.hid hi4
      have HI34 := Lib.hid (HI3.out.below hb4)
      have HZ4 := Lib.hid (HZ3.out.below hb4)
      have HB4 := Lib.hid (HB3.out.trans (hb4.mono HB3.out.size))
      have h24 : Hid (Below w2.heap.size w2 w4 ∨ True) := Lib.hid (Or.inr trivial)
      have HBW4 := Lib.hid hb4
      clear hi4 hb4
      go_wp2_with fail
      refine (ints_any _ _ (hvs zs) (hvs zs) true w4 HI34.out HI4.out ⟨fun _ => rfl, fun _ => rfl⟩ (by rw [hvs_len, HLEN.out]; omega) (by rw [hvs_len, HLEN.out]; omega)).mono ?_
      rintro e w5 ⟨rfl, k, hk⟩
      have HZ5 : Hid (IsInts w5 (.slice l llen lcap) zs) := Lib.hid (by rw [hk]; exact HZ4.out.below (below_drewN _ _))
      have HB5 : Hid (Below w.heap.size w w5) := Lib.hid (by rw [hk]; exact HB4.out.trans ((below_drewN _ k).mono HB4.out.size))
      have HK5 := Lib.hid hk
      clear hk
      go_wp2_with fail
      refine (three_any _).mono ?_
      rintro e w' ⟨rfl, hb⟩
      have HBF := Lib.hid (HB5.out.trans (hb.mono HB5.out.size))
      clear hb
      go_wp2_with fail
      go_ret
      exact ⟨rfl, HBF.out⟩
    · have h1b : decide ((llen : Int) < 2) = false := by simp only [decide_eq_false_iff_not]; omega
      by_cases h2 : 258 < llen
      · have h2b : 258 < (llen : Int) := by omega
        have h40 : 40 < (llen : Int) := by omega
        have h258 : decide ((llen : Int) ≤ 258) = false := by simp only [decide_eq_false_iff_not]; omega
        have h40b : decide ((llen : Int) ≤ 40) = false := by simp only [decide_eq_false_iff_not]; omega
        go_enter Try.func3, Try.ntmps3
        go_wp2_with fail
        refine HDT.out.mono ?_
        rintro e w2 ⟨r, rs, err, rfl, hI2, hP, hB⟩
        obtain ⟨rfl, rfl⟩ : rs = [] ∧ err = 1 := by
          rcases hP with ⟨_, h⟩ | ⟨h, _⟩
          · exact h
          · have := h.2.1; rw [HLEN.out] at this; omega
        have HB := Lib.hid hB
        have HZ2 := Lib.hid (HI.out.below hB)
        obtain ⟨a2, cap2, rfl, _⟩ := hI2
        clear hP hB
        go_wp2_with fail
        refine (three_any _).mono ?_
        rintro e w' ⟨rfl, hb⟩
        have HBF := Lib.hid (HB.out.trans (hb.mono HB.out.size))
        clear hb
        go_wp2_with fail
        go_ret
        exact ⟨rfl, HBF.out⟩
      · have h2b : decide (258 < (llen : Int)) = false := by simp only [decide_eq_false_iff_not]; omega
        have h40 : decide (40 < (llen : Int)) = false := by simp only [decide_eq_false_iff_not]; omega
        have h40b : (llen : Int) ≤ 40 := by omega
        by_cases hw : Within 1 1099511627776 zs
        · have HW := Lib.hid hw
          have HMAY := Lib.hid (fun W (h : IsInts W (.slice l llen lcap) zs) => may_any _ zs 1 1099511627776 true W h ⟨fun _ => hw, fun _ => rfl⟩ (by rw [HLEN.out]; omega))
          clear hw
          go_enter Try.func3, Try.ntmps3
          go_wp2_with fail
          refine HDT.out.mono ?_
          rintro e w2 ⟨r, rs, err, rfl, hI2, hP, hB⟩
          obtain ⟨rfl, hdp⟩ : err = 0 ∧ DepP zs rs := by
            rcases hP with ⟨h, _⟩ | ⟨_, h, e⟩
            · exact absurd ⟨by rw [HLEN.out]; omega, by rw [HLEN.out]; omega, HW.out⟩ h
            · exact ⟨e, h⟩
          have HDP := Lib.hid hdp
          have HB := Lib.hid hB
          have HI2 := Lib.hid hI2
          have HZ2 := Lib.hid (HI.out.below hB)
          have hrl : rs.length = llen := by rw [hdp.len, HLEN.out]
          have HRL := Lib.hid hrl
          obtain ⟨a2, cap2, rfl, _⟩ := hI2
          rw [hrl] at HI2 ⊢
          clear hP hB hdp hrl
          go_wp2_with fail
          refine (halved_any _ zs w2 HZ2.out (by rw [HLEN.out]; omega) HSM.out).mono ?_
          rintro e w3 ⟨r3, rfl, hi3, hb3⟩
          have HI3 := Lib.hid hi3
          have HZ3 := Lib.hid (HZ2.out.below hb3)
          have HB23 := Lib.hid hb3
          have HB3 := Lib.hid (HB.out.trans (hb3.mono HB.out.size))
          clear hi3 hb3
          go_wp2_with fail
          refine (rHalved_any _ zs w3 HZ3.out (by rw [HLEN.out]; omega) HSM.out).mono ?_
          rintro e w4 ⟨r4, rfl, hi4, hb4⟩
          have HI4 := Lib.hid hi4
          have HI34 := Lib.hid (HI3.out.below hb4)
          have HZ4 := Lib.hid (HZ3.out.below hb4)
          have HB4 := Lib.hid (HB3.out.trans (hb4.mono HB3.out.size))
          have h24 : Hid (Below w2.heap.size w2 w4 ∨ True) := Lib.hid (Or.inr trivial)
          have HI2B := Lib.hid ((HI2.out.below HB23.out).below hb4)
          clear hi4 hb4
          go_wp2_with fail
          refine (ints_any _ _ (hvs zs) (hvs zs) true w4 HI34.out HI4.out ⟨fun _ => rfl, fun _ => rfl⟩ (by rw [hvs_len, HLEN.out]; omega) (by rw [hvs_len, HLEN.out]; omega)).mono ?_
          rintro e w5 ⟨rfl, k, hk⟩
          have HZ5 : Hid (IsInts w5 (.slice l llen lcap) zs) := Lib.hid (by rw [hk]; exact HZ4.out.below (below_drewN _ _))
          have HB5 : Hid (Below w.heap.size w w5) := Lib.hid (by rw [hk]; exact HB4.out.trans ((below_drewN _ k).mono HB4.out.size))
          have HI5 : Hid (IsInts w5 (.slice a2 llen cap2) rs) := Lib.hid (by rw [hk]; exact HI2B.out.below (below_drewN _ _))
          clear hk
          go_wp2_with fail
          refine (HMAY.out w5 HZ5.out).mono ?_
          rintro e w6 ⟨rfl, rfl⟩
          go_wp2_with fail
          refine (rDepths_any _ zs w6 HZ5.out (by rw [HLEN.out]; omega) (by rw [HLEN.out]; omega) (fun z hz => by have := HW.out z hz; omega)).mono ?_
          rintro e w7 ⟨r7, ds, rfl, hi7, hd7, hb7⟩
          obtain rfl : rs = ds := HDP.out.same hd7
          have HI7 := Lib.hid hi7
          have HI57 := Lib.hid (HI5.out.below hb7)
          have HB7 := Lib.hid (HB5.out.trans (hb7.mono HB5.out.size))
          clear hi7 hd7 hb7
          go_wp2_with fail
          refine (ints_any _ _ rs rs true w7 HI57.out HI7.out ⟨fun _ => rfl, fun _ => rfl⟩ (by rw [HRL.out]; omega) (by rw [HRL.out]; omega)).mono ?_
          rintro e w8 ⟨rfl, k8, hk8⟩
          have HB8 : Hid (Below w.heap.size w w8) := Lib.hid (by rw [hk8]; exact HB7.out.trans ((below_drewN _ k8).mono HB7.out.size))
          clear hk8
          go_wp2_with fail
          refine (three_any _).mono ?_
          rintro e w' ⟨rfl, hb⟩
          have HBF := Lib.hid (HB8.out.trans (hb.mono HB8.out.size))
          clear hb
          go_wp2_with fail
          go_ret
          exact ⟨rfl, HBF.out⟩
        · have HW := Lib.hid hw
          have HMAY := Lib.hid (fun W (h : IsInts W (.slice l llen lcap) zs) => may_any _ zs 1 1099511627776 false W h ⟨fun h => (by cases h), fun h => absurd h hw⟩ (by rw [HLEN.out]; omega))
          clear hw
          go_enter Try.func3, Try.ntmps3
          go_wp2_with fail
          refine HDT.out.mono ?_
          rintro e w2 ⟨r, rs, err, rfl, hI2, hP, hB⟩
          obtain ⟨rfl, rfl⟩ : rs = [] ∧ err = 1 := by
            rcases hP with ⟨_, h⟩ | ⟨h, _⟩
            · exact h
            · exact absurd h.2.2 HW.out
          have HB := Lib.hid hB
          have HZ2 := Lib.hid (HI.out.below hB)
          obtain ⟨a2, cap2, rfl, _⟩ := hI2
          clear hP hB
          go_wp2_with fail
          refine (halved_any _ zs w2 HZ2.out (by rw [HLEN.out]; omega) HSM.out).mono ?_
          rintro e w3 ⟨r3, rfl, hi3, hb3⟩
          have HI3 := Lib.hid hi3
          have HZ3 := Lib.hid (HZ2.out.below hb3)
          have HB3 := Lib.hid (HB.out.trans (hb3.mono HB.out.size))
          clear hi3 hb3
          go_wp2_with fail
          refine (rHalved_any _ zs w3 HZ3.out (by rw [HLEN.out]; omega) HSM.out).mono ?_
          rintro e w4 ⟨r4, rfl, hi4, hb4⟩
          have HI4 := Lib.hid hi4
          have HI34 := Lib.hid (HI3.out.below hb4)
          have HZ4 := Lib.hid (HZ3.out.below hb4)
          have HB4 := Lib.hid (HB3.out.trans (hb4.mono HB3.out.size))
          have h24 : Hid (Below w2.heap.size w2 w4 ∨ True) := Lib.hid (Or.inr trivial)
          have HBW4 := Lib.hid hb4
          clear hi4 hb4
          go_wp2_with fail
          refine (ints_any _ _ (hvs zs) (hvs zs) true w4 HI34.out HI4.out ⟨fun _ => rfl, fun _ => rfl⟩ (by rw [hvs_len, HLEN.out]; omega) (by rw [hvs_len, HLEN.out]; omega)).mono ?_
          rintro e w5 ⟨rfl, k, hk⟩
          have HZ5 : Hid (IsInts w5 (.slice l llen lcap) zs) := Lib.hid (by rw [hk]; exact HZ4.out.below (below_drewN _ _))
          have HB5 : Hid (Below w.heap.size w w5) := Lib.hid (by rw [hk]; exact HB4.out.trans ((below_drewN _ k).mono HB4.out.size))
          have HK5 := Lib.hid hk
          clear hk
          go_wp2_with fail
          refine (HMAY.out w5 HZ5.out).mono ?_
          rintro e w6 ⟨rfl, rfl⟩
          go_wp2_with fail
          refine (three_any _).mono ?_
          rintro e w' ⟨rfl, hb⟩
          have HBF := Lib.hid (HB5.out.trans (hb.mono HB5.out.size))
          clear hb
          go_wp2_with fail
          go_ret
          exact ⟨rfl, HBF.out⟩
end Go.Proofs.Ytclmnmfdajlddaa
