/-
  THE WALKS OF THE LIBRARY's STABLE SORT (package slices), AT ROWS OF int: two parts side by side become one, cut in the middle (the middle lies in the second part).
-/
import Derived.Test.YtmlcdfimcabgkaaDoorSortD
namespace Go.Proofs.YtmlcdfimcabgkaaDoor
open Go.RowKit SymM
set_option linter.unusedVariables false
section
variable {F : FuncId} {caps : Array Value} {g n : Nat} {wt : Int → Int} {I : World → Prop}
set_option maxRecDepth 100000 in
set_option maxHeartbeats 8000000 in
theorem sym_lo (hC : CmpF F caps g n wt I) (hn : n ≤ 1000000) (K : Nat) (ih : ∀ (a m b : Nat) (d : Row) (w : World), b ≤ a + K → a < m → m < b → b ≤ n → MerP wt g n I d a m b w →
    Calls Tryd.prog 74 #[.slice (some ⟨g, 0, none⟩) n n, .int .i64 (a : Int), .int .i64 (m : Int), .int .i64 (b : Int), .func (.func F) #[] caps] w fun e w' =>
      e = .returned (.tuple #[]) ∧ SrtP wt g n d a b w w')
    (a m b : Nat) (d : Row) (w : World) (hK : b ≤ a + (K + 1)) (ham : a < m) (hmb : m < b) (hbn : b ≤ n) (hP : MerP wt g n I d a m b w) (hf : ¬ m = a + 1) (hl : ¬ b = m + 1) (hc : ¬ (a + b) / 2 < m) :
    Calls Tryd.prog 74 #[.slice (some ⟨g, 0, none⟩) n n, .int .i64 (a : Int), .int .i64 (m : Int), .int .i64 (b : Int), .func (.func F) #[] caps] w fun e w' =>
      e = .returned (.tuple #[]) ∧ SrtP wt g n d a b w w' := by
    have he := hC.enter
    have HC := Lib.hid hC
    have HIH := Lib.hid ih
    have HP := Lib.hid hP
    have hone0 : ((m : Int) - (a : Int) == 1) = false := by rw [beq_eq_false_iff_ne]; omega
    have hone1 : ((b : Int) - (m : Int) == 1) = false := by rw [beq_eq_false_iff_ne]; omega
    obtain ⟨mid, hmid⟩ : ∃ mid, (a + b) / 2 = mid := ⟨_, rfl⟩
    obtain ⟨N, hN⟩ : ∃ N, mid + m = N := ⟨_, rfl⟩
    obtain ⟨p, hp⟩ : ∃ p, N - 1 = p := ⟨_, rfl⟩
    have hmid2 : ((a : Int) + (b : Int)) / 2 = (mid : Int) := by omega
    have hN2 : (mid : Int) + (m : Int) = (N : Int) := by omega
    have hp2 : (N : Int) - 1 = (p : Int) := by omega
    have hNb : N ≤ 2000000 := by omega
    have hpb : p ≤ 2000000 := by omega
    have ham2 : a < mid := by omega
    have hmb2 : mid < b := by omega
    have hmm : ¬ mid < m := by omega
    have HMID := Lib.hid hmid
    have HN := Lib.hid hN
    have HPP := Lib.hid hp
    clear hC ih hP hf hl hmid hN hp hc
    go_enter Tryd.func74, Tryd.ntmps74
    have hmm2 : ¬ (mid : Int) < (m : Int) := by omega
    have HLO : Hid (a = if mid < m then mid + m - b else a) := Lib.hid (by rw [if_neg hmm])
    have HR0 : Hid (m = if mid < m then mid else m) := Lib.hid (by rw [if_neg hmm])
    go_wp2_with fail
    go_loopw [20, 21] (fun vi vj wr => ∃ s r q : Nat, vi = .int .i64 s ∧ vj = .int .i64 r ∧ a ≤ s ∧ s ≤ r ∧ r ≤ m ∧ (s = a ∨ wt (d (s - 1)) ≤ wt (d (mid + m - 1 - (s - 1)))) ∧ (r = m ∨ wt (d (mid + m - 1 - r)) < wt (d r)) ∧ wr = w.drewN q) (fun vi vj _ => (intOf vj).toNat - (intOf vi).toNat)
    case atStart => exact ⟨a, m, 0, rfl, rfl, Nat.le_refl _, by omega, Nat.le_refl _, Or.inl rfl, Or.inl rfl, rfl⟩
    case round =>
      obtain ⟨s, r, q, rfl, rfl, hls, hsr, hrr, h1, h2, hw⟩ := hrel
      have HRW : Hid (RowD wr g n d) := Lib.hid (by rw [hw]; exact HP.out.row.drewN q)
      have HIW : Hid (I wr) := Lib.hid (by rw [hw]; exact HC.out.keep _ _ HP.out.inv (touch_drewN _ w q))
      have HT : Hid (Touch (· = g) w wr) := Lib.hid (by rw [hw]; exact touch_drewN _ w q)
      have HW := Lib.hid hw
      have H1 := Lib.hid h1
      have H2 := Lib.hid h2
      clear hw h1 h2
      by_cases hlt : s < r
      · have hlt2 : (s : Int) < (r : Int) := by omega
        obtain ⟨c, hc⟩ : ∃ c, (s + r) / 2 = c := ⟨_, rfl⟩
        have hcI : ((s : Int) + (r : Int)) / 2 = (c : Int) := by omega
        have hci : s ≤ c := by omega
        have hcj : c < r := by omega
        have hcn : c < n := by omega
        have hcn2 : (c : Int) < (n : Int) := by omega
        obtain ⟨u, hu⟩ : ∃ u, p - c = u := ⟨_, rfl⟩
        have hu2 : (p : Int) - (c : Int) = (u : Int) := by have := HN.out; have := HPP.out; omega
        have hun : u < n := by have := HN.out; have := HPP.out; have := HMID.out; omega
        have hun2 : (u : Int) < (n : Int) := by omega
        have HU : Hid (mid + m - 1 - c = u) := Lib.hid (by have := HN.out; have := HPP.out; omega)
        obtain ⟨c1, f1⟩ := HRW.out.cell hcn
        obtain ⟨c2, f2⟩ := HRW.out.cell hun
        obtain ⟨x, hx⟩ : ∃ x, d u = x := ⟨_, rfl⟩
        obtain ⟨y, hy⟩ : ∃ y, d c = y := ⟨_, rfl⟩
        rw [hy] at c1
        rw [hx] at c2
        obtain ⟨z, hz, hz1, hz2, hcall⟩ := HC.out.at HIW.out HP.out.rng hun hcn x y hx hy
        have HX := Lib.hid hx
        have HY := Lib.hid hy
        have HCALL := Lib.hid hcall
        have HZ := Lib.hid hz
        clear hx hy hcall hz hc hu
        by_cases hz0 : z < 0
        · have hz3 : (!decide (z < 0)) = false := by simp; omega
          go_wp2_with fail
          go_quiet ((exact Calls.quiet_of (HCALL.out _)))
          go_wp2_with fail
          go_roundw
          case rel => exact ⟨s, c, _, rfl, by go_num, hls, hci, by omega, H1.out, Or.inr (by rw [HU.out, HX.out, HY.out]; have := HZ.out; omega), by rw [HW.out]; exact World.drewN_drewN ..⟩
          case measure => simp [intOf]; omega
        · have hz3 : (!decide (z < 0)) = true := by simp; omega
          go_wp2_with fail
          go_quiet ((exact Calls.quiet_of (HCALL.out _)))
          go_wp2_with fail
          go_roundw
          case rel => exact ⟨c + 1, r, _, by go_num, rfl, by omega, by omega, hrr, Or.inr (by rw [Nat.add_sub_cancel, HU.out, HX.out, HY.out]; have := HZ.out; omega), H2.out, by rw [HW.out]; exact World.drewN_drewN ..⟩
          case measure => simp [intOf]; omega
      · have hlt2 : ¬ (s : Int) < (r : Int) := by omega
        obtain rfl : r = s := by omega
        have hsm : r ≤ m := by omega
        have hsd : r ≤ mid := by omega
        have has : a ≤ r := by have := HN.out; omega
        obtain ⟨E, hE⟩ : ∃ E, N - r = E := ⟨_, rfl⟩
        have hE2 : (N : Int) - (r : Int) = (E : Int) := by have := HN.out; omega
        have hEb : E ≤ b := by have := HN.out; have := HMID.out; omega
        have HCUT : Hid (Cut wt d a r m E b) := Lib.hid (by
          have := cut_mid (s := r) HP.out.sl HP.out.sr HP.out.low ham hmb HMID.out.symm HLO.out HR0.out hls hrr (by
            rcases H1.out with e | e
            · exact Or.inl e
            · exact Or.inr (by omega)) H2.out
          rw [HN.out, hE] at this
          exact this)
        have HM : Hid (r + (E - m) = mid) := Lib.hid (by have := HN.out; omega)
        have hmE : m ≤ E := by have := HN.out; omega
        have HE : Hid (E + r = mid + m) := Lib.hid (by have := HN.out; omega)
        clear hE H1 H2
        by_cases hA : r < m ∧ r < mid
        · obtain ⟨hA1, hA2⟩ := hA
          by_cases hL : a < r
          · by_cases hQ : E < b
            · have t1 : (r : Int) < (m : Int) := by have := HE.out; first | omega | (have := HB.out; omega)
              have t2 : (m : Int) < (E : Int) := by have := HE.out; first | omega | (have := HB.out; omega)
              have t3 : (a : Int) < (r : Int) := by have := HE.out; first | omega | (have := HB.out; omega)
              have t4 : (r : Int) < (mid : Int) := by have := HE.out; first | omega | (have := HB.out; omega)
              have t5 : (mid : Int) < (E : Int) := by have := HE.out; first | omega | (have := HB.out; omega)
              have t6 : (E : Int) < (b : Int) := by have := HE.out; first | omega | (have := HB.out; omega)
              go_wp2_with fail
              refine (rot_any g n r m E d wr _ HRW.out (by omega) (by omega) (by omega) hn).mono ?_
              rintro e w1 ⟨rfl, hR1, hT1⟩
              have HR1 := Lib.hid hR1
              have HT1 : Hid (Touch (· = g) w w1) := Lib.hid (HT.out.trans hT1 (fun i hi => Or.inl hi))
              have HI1 : Hid (I w1) := Lib.hid (HC.out.keep _ _ HIW.out hT1)
              clear hR1 hT1
              go_wp2_with fail
              refine (HIH.out a r mid (rot d r m E) w1 (by omega) (by omega) (by omega) (by omega) (by rw [← HM.out]; exact left_ok HC.out HCUT.out HP.out.rng hbn HR1.out HI1.out)).mono ?_
              rintro e w2 ⟨rfl, hS2⟩
              have HT2 : Hid (Touch (· = g) w w2) := Lib.hid (HT1.out.trans hS2.2 (fun i hi => Or.inl hi))
              have HI2 : Hid (I w2) := Lib.hid (HC.out.keep _ _ HI1.out hS2.2)
              have HS2 : Hid (LeftP wt g n d a r m E w w2) := Lib.hid (by rw [← HM.out] at hS2; exact ⟨hS2.1, HT2.out⟩)
              clear hS2
              go_wp2_with fail
              obtain ⟨⟨D, hRD, hPD, hSD⟩, _⟩ := HS2.out
              have HPD := Lib.hid hPD
              have HSD := Lib.hid hSD
              have HRD := Lib.hid hRD
              clear hPD hSD hRD
              refine (HIH.out mid E b D w2 (by omega) (by omega) (by omega) (by omega) (by rw [← HM.out]; exact right_ok HC.out HCUT.out HP.out.rng hbn HPD.out HRD.out HI2.out)).mono ?_
              rintro e w3 ⟨rfl, hS3⟩
              have HS3 := Lib.hid hS3
              clear hS3
              go_wp2_with fail
              go_end0
              refine ⟨rfl, right_end HCUT.out HPD.out HSD.out HT2.out ?_⟩
              rw [HM.out]
              exact HS3.out
            · have t1 : (r : Int) < (m : Int) := by have := HE.out; first | omega | (have := HB.out; omega)
              have t2 : (m : Int) < (E : Int) := by have := HE.out; first | omega | (have := HB.out; omega)
              have t3 : (a : Int) < (r : Int) := by have := HE.out; first | omega | (have := HB.out; omega)
              have t4 : (r : Int) < (mid : Int) := by have := HE.out; first | omega | (have := HB.out; omega)
              have t5 : (mid : Int) < (E : Int) := by have := HE.out; first | omega | (have := HB.out; omega)
              have t6 : ¬ (E : Int) < (b : Int) := by have := HE.out; first | omega | (have := HB.out; omega)
              go_wp2_with fail
              refine (rot_any g n r m E d wr _ HRW.out (by omega) (by omega) (by omega) hn).mono ?_
              rintro e w1 ⟨rfl, hR1, hT1⟩
              have HR1 := Lib.hid hR1
              have HT1 : Hid (Touch (· = g) w w1) := Lib.hid (HT.out.trans hT1 (fun i hi => Or.inl hi))
              have HI1 : Hid (I w1) := Lib.hid (HC.out.keep _ _ HIW.out hT1)
              clear hR1 hT1
              go_wp2_with fail
              refine (HIH.out a r mid (rot d r m E) w1 (by omega) (by omega) (by omega) (by omega) (by rw [← HM.out]; exact left_ok HC.out HCUT.out HP.out.rng hbn HR1.out HI1.out)).mono ?_
              rintro e w2 ⟨rfl, hS2⟩
              have HT2 : Hid (Touch (· = g) w w2) := Lib.hid (HT1.out.trans hS2.2 (fun i hi => Or.inl hi))
              have HI2 : Hid (I w2) := Lib.hid (HC.out.keep _ _ HI1.out hS2.2)
              have HS2 : Hid (LeftP wt g n d a r m E w w2) := Lib.hid (by rw [← HM.out] at hS2; exact ⟨hS2.1, HT2.out⟩)
              clear hS2
              go_wp2_with fail
              go_end0
              exact ⟨rfl, left_end HCUT.out HS2.out (by have := HM.out; have := HE.out; omega)⟩
          · by_cases hQ : E < b
            · have t1 : (r : Int) < (m : Int) := by have := HE.out; first | omega | (have := HB.out; omega)
              have t2 : (m : Int) < (E : Int) := by have := HE.out; first | omega | (have := HB.out; omega)
              have t3 : ¬ (a : Int) < (r : Int) := by have := HE.out; first | omega | (have := HB.out; omega)
              have t4 : (r : Int) < (mid : Int) := by have := HE.out; first | omega | (have := HB.out; omega)
              have t5 : (mid : Int) < (E : Int) := by have := HE.out; first | omega | (have := HB.out; omega)
              have t6 : (E : Int) < (b : Int) := by have := HE.out; first | omega | (have := HB.out; omega)
              go_wp2_with fail
              refine (rot_any g n r m E d wr _ HRW.out (by omega) (by omega) (by omega) hn).mono ?_
              rintro e w1 ⟨rfl, hR1, hT1⟩
              have HR1 := Lib.hid hR1
              have HT1 : Hid (Touch (· = g) w w1) := Lib.hid (HT.out.trans hT1 (fun i hi => Or.inl hi))
              have HI1 : Hid (I w1) := Lib.hid (HC.out.keep _ _ HIW.out hT1)
              clear hR1 hT1
              go_wp2_with fail
              have HT2 := HT1
              have HI2 := HI1
              have HS2 : Hid (LeftP wt g n d a r m E w w1) := Lib.hid ⟨⟨_, HR1.out, Pm.refl _ _ _, sym_left HCUT.out (by have := HM.out; have := HE.out; omega)⟩, HT1.out⟩
              obtain ⟨⟨D, hRD, hPD, hSD⟩, _⟩ := HS2.out
              have HPD := Lib.hid hPD
              have HSD := Lib.hid hSD
              have HRD := Lib.hid hRD
              clear hPD hSD hRD
              refine (HIH.out mid E b D w1 (by omega) (by omega) (by omega) (by omega) (by rw [← HM.out]; exact right_ok HC.out HCUT.out HP.out.rng hbn HPD.out HRD.out HI2.out)).mono ?_
              rintro e w3 ⟨rfl, hS3⟩
              have HS3 := Lib.hid hS3
              clear hS3
              go_wp2_with fail
              go_end0
              refine ⟨rfl, right_end HCUT.out HPD.out HSD.out HT2.out ?_⟩
              rw [HM.out]
              exact HS3.out
            · have t1 : (r : Int) < (m : Int) := by have := HE.out; first | omega | (have := HB.out; omega)
              have t2 : (m : Int) < (E : Int) := by have := HE.out; first | omega | (have := HB.out; omega)
              have t3 : ¬ (a : Int) < (r : Int) := by have := HE.out; first | omega | (have := HB.out; omega)
              have t4 : (r : Int) < (mid : Int) := by have := HE.out; first | omega | (have := HB.out; omega)
              have t5 : (mid : Int) < (E : Int) := by have := HE.out; first | omega | (have := HB.out; omega)
              have t6 : ¬ (E : Int) < (b : Int) := by have := HE.out; first | omega | (have := HB.out; omega)
              go_wp2_with fail
              refine (rot_any g n r m E d wr _ HRW.out (by omega) (by omega) (by omega) hn).mono ?_
              rintro e w1 ⟨rfl, hR1, hT1⟩
              have HR1 := Lib.hid hR1
              have HT1 : Hid (Touch (· = g) w w1) := Lib.hid (HT.out.trans hT1 (fun i hi => Or.inl hi))
              have HI1 : Hid (I w1) := Lib.hid (HC.out.keep _ _ HIW.out hT1)
              clear hR1 hT1
              go_wp2_with fail
              have HT2 := HT1
              have HI2 := HI1
              have HS2 : Hid (LeftP wt g n d a r m E w w1) := Lib.hid ⟨⟨_, HR1.out, Pm.refl _ _ _, sym_left HCUT.out (by have := HM.out; have := HE.out; omega)⟩, HT1.out⟩
              go_end0
              exact ⟨rfl, left_end HCUT.out HS2.out (by have := HM.out; have := HE.out; omega)⟩
        · have HB : Hid (r = m) := Lib.hid (by omega)
          by_cases hL : r < mid
          · have t1 : ¬ (r : Int) < (m : Int) := by have := HE.out; first | omega | (have := HB.out; omega)
            have t3 : (a : Int) < (r : Int) := by have := HE.out; first | omega | (have := HB.out; omega)
            have t4 : (r : Int) < (mid : Int) := by have := HE.out; first | omega | (have := HB.out; omega)
            have t5 : ¬ (mid : Int) < (E : Int) := by have := HE.out; first | omega | (have := HB.out; omega)
            go_wp2_with fail
            have HR1 : Hid (RowD wr g n (rot d r m E)) := Lib.hid (by rw [HB.out, rot_none']; exact HRW.out)
            have HT1 := HT
            have HI1 := HIW
            refine (HIH.out a r mid (rot d r m E) wr (by omega) (by omega) (by omega) (by omega) (by rw [← HM.out]; exact left_ok HC.out HCUT.out HP.out.rng hbn HR1.out HI1.out)).mono ?_
            rintro e w2 ⟨rfl, hS2⟩
            have HT2 : Hid (Touch (· = g) w w2) := Lib.hid (HT1.out.trans hS2.2 (fun i hi => Or.inl hi))
            have HI2 : Hid (I w2) := Lib.hid (HC.out.keep _ _ HI1.out hS2.2)
            have HS2 : Hid (LeftP wt g n d a r m E w w2) := Lib.hid (by rw [← HM.out] at hS2; exact ⟨hS2.1, HT2.out⟩)
            clear hS2
            go_wp2_with fail
            go_end0
            exact ⟨rfl, left_end HCUT.out HS2.out (by have := HM.out; have := HE.out; omega)⟩
          · have t1 : ¬ (r : Int) < (m : Int) := by have := HE.out; first | omega | (have := HB.out; omega)
            have t3 : (a : Int) < (r : Int) := by have := HE.out; first | omega | (have := HB.out; omega)
            have t4 : ¬ (r : Int) < (mid : Int) := by have := HE.out; first | omega | (have := HB.out; omega)
            have t5 : ¬ (mid : Int) < (E : Int) := by have := HE.out; first | omega | (have := HB.out; omega)
            go_wp2_with fail
            have HR1 : Hid (RowD wr g n (rot d r m E)) := Lib.hid (by rw [HB.out, rot_none']; exact HRW.out)
            have HT1 := HT
            have HI1 := HIW
            have HT2 := HT1
            have HI2 := HI1
            have HS2 : Hid (LeftP wt g n d a r m E w wr) := Lib.hid ⟨⟨_, HR1.out, Pm.refl _ _ _, sym_left HCUT.out (by have := HM.out; have := HE.out; omega)⟩, HT1.out⟩
            go_end0
            exact ⟨rfl, left_end HCUT.out HS2.out (by have := HM.out; have := HE.out; omega)⟩
end
end Go.Proofs.YtmlcdfimcabgkaaDoor
