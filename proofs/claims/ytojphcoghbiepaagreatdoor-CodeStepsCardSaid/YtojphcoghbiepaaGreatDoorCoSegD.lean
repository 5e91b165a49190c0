/-
  MERGED by seg.py out of: SortE SortF SortG LenA LenB LenC JoinMath LenD LenE LenH TabMath CodMath CodMathB CodMathC.
-/
import Derived.Test.YtojphcoghbiepaaGreatDoorCoSegC
import Derived.Shelf.Abstract
import Derived.Laws.CopyRow
import Derived.Deep.Cut
import Derived.Lib.SliceRun
import Derived.Deep.LoopGhost
namespace Go.Proofs.YtojphcoghbiepaaGreatDoor
open Go.RowKit SymM
set_option linter.unusedVariables false
section
variable {F : FuncId} {caps : Array Value} {g n : Nat} {wt : Int → Int} {I : World → Prop}
set_option maxRecDepth 100000 in
set_option maxHeartbeats 8000000 in
theorem sym_hi (hC : CmpF F caps g n wt I) (hn : n ≤ 1000000) (K : Nat) (ih : ∀ (a m b : Nat) (d : Row) (w : World), b ≤ a + K → a < m → m < b → b ≤ n → MerP wt g n I d a m b w →
    Calls Tryz.prog 292 #[.slice (some ⟨g, 0, none⟩) n n, .int .i64 (a : Int), .int .i64 (m : Int), .int .i64 (b : Int), .func (.func F) #[] caps] w fun e w' =>
      e = .returned (.tuple #[]) ∧ SrtP wt g n d a b w w')
    (a m b : Nat) (d : Row) (w : World) (hK : b ≤ a + (K + 1)) (ham : a < m) (hmb : m < b) (hbn : b ≤ n) (hP : MerP wt g n I d a m b w) (hf : ¬ m = a + 1) (hl : ¬ b = m + 1) (hc : (a + b) / 2 < m) :
    Calls Tryz.prog 292 #[.slice (some ⟨g, 0, none⟩) n n, .int .i64 (a : Int), .int .i64 (m : Int), .int .i64 (b : Int), .func (.func F) #[] caps] w fun e w' =>
      e = .returned (.tuple #[]) ∧ SrtP wt g n d a b w w' := by
    have he := hC.enter
    have HC := Lib.hid hC
    have HIH := Lib.hid ih
    have HP := Lib.hid hP
    have hone0 : ((m : Int) - (a : Int) == 1) = false := by rw [beq_eq_false_iff_ne]; omega
    have hone1 : ((b : Int) - (m : Int) == 1) = false := by rw [beq_eq_false_iff_ne]; omega
    obtain ⟨mid, hmid⟩ : ∃ mid, (a + b) / 2 = mid := ⟨_, rfl⟩
    obtain ⟨N, hN⟩ : ∃ N, mid + m = N := ⟨_, rfl⟩
    obtain ⟨p, hp⟩ : ∃ p, N - 1 = p := ⟨_, rfl⟩
    have hmid2 : ((a : Int) + (b : Int)) / 2 = (mid : Int) := by omega
    have hN2 : (mid : Int) + (m : Int) = (N : Int) := by omega
    have hp2 : (N : Int) - 1 = (p : Int) := by omega
    have hNb : N ≤ 2000000 := by omega
    have hpb : p ≤ 2000000 := by omega
    have ham2 : a < mid := by omega
    have hmb2 : mid < b := by omega
    have hmm : mid < m := by omega
    have HMID := Lib.hid hmid
    have HN := Lib.hid hN
    have HPP := Lib.hid hp
    clear hC ih hP hf hl hmid hN hp hc
    go_enter Tryz.func292, Tryz.ntmps292
    have hmm2 : (mid : Int) < (m : Int) := by omega
    obtain ⟨lo, hlo⟩ : ∃ lo, N - b = lo := ⟨_, rfl⟩
    have hlo2 : (N : Int) - (b : Int) = (lo : Int) := by have := HN.out; omega
    have hlo3 : lo ≤ mid := by have := HN.out; omega
    have HLO : Hid (lo = if mid < m then mid + m - b else a) := Lib.hid (by rw [if_pos hmm]; have := HN.out; omega)
    have HR0 : Hid (mid = if mid < m then mid else m) := Lib.hid (by rw [if_pos hmm])
    clear hlo
    go_wp2_with fail
    go_loopw [20, 21] (fun vi vj wr => ∃ s r q : Nat, vi = .int .i64 s ∧ vj = .int .i64 r ∧ lo ≤ s ∧ s ≤ r ∧ r ≤ mid ∧ (s = lo ∨ wt (d (s - 1)) ≤ wt (d (mid + m - 1 - (s - 1)))) ∧ (r = mid ∨ wt (d (mid + m - 1 - r)) < wt (d r)) ∧ wr = w.drewN q) (fun vi vj _ => (intOf vj).toNat - (intOf vi).toNat)
    case atStart => exact ⟨lo, mid, 0, rfl, rfl, Nat.le_refl _, by omega, Nat.le_refl _, Or.inl rfl, Or.inl rfl, rfl⟩
    case round =>
      obtain ⟨s, r, q, rfl, rfl, hls, hsr, hrr, h1, h2, hw⟩ := hrel
      have HRW : Hid (RowD wr g n d) := Lib.hid (by rw [hw]; exact HP.out.row.drewN q)
      have HIW : Hid (I wr) := Lib.hid (by rw [hw]; exact HC.out.keep _ _ HP.out.inv (touch_drewN _ w q))
      have HT : Hid (Touch (· = g) w wr) := Lib.hid (by rw [hw]; exact touch_drewN _ w q)
      have HW := Lib.hid hw
      have H1 := Lib.hid h1
      have H2 := Lib.hid h2
      clear hw h1 h2
      by_cases hlt : s < r
      · have hlt2 : (s : Int) < (r : Int) := by omega
        obtain ⟨c, hc⟩ : ∃ c, (s + r) / 2 = c := ⟨_, rfl⟩
        have hcI : ((s : Int) + (r : Int)) / 2 = (c : Int) := by omega
        have hci : s ≤ c := by omega
        have hcj : c < r := by omega
        have hcn : c < n := by omega
        have hcn2 : (c : Int) < (n : Int) := by omega
        obtain ⟨u, hu⟩ : ∃ u, p - c = u := ⟨_, rfl⟩
        have hu2 : (p : Int) - (c : Int) = (u : Int) := by have := HN.out; have := HPP.out; omega
        have hun : u < n := by have := HN.out; have := HPP.out; have := HMID.out; omega
        have hun2 : (u : Int) < (n : Int) := by omega
        have HU : Hid (mid + m - 1 - c = u) := Lib.hid (by have := HN.out; have := HPP.out; omega)
        obtain ⟨c1, f1⟩ := HRW.out.cell hcn
        obtain ⟨c2, f2⟩ := HRW.out.cell hun
        obtain ⟨x, hx⟩ : ∃ x, d u = x := ⟨_, rfl⟩
        obtain ⟨y, hy⟩ : ∃ y, d c = y := ⟨_, rfl⟩
        rw [hy] at c1
        rw [hx] at c2
        obtain ⟨z, hz, hz1, hz2, hcall⟩ := HC.out.at HIW.out HP.out.rng hun hcn x y hx hy
        have HX := Lib.hid hx
        have HY := Lib.hid hy
        have HCALL := Lib.hid hcall
        have HZ := Lib.hid hz
        clear hx hy hcall hz hc hu
        by_cases hz0 : z < 0
        · have hz3 : (!decide (z < 0)) = false := by simp; omega
          go_wp2_with fail
          go_quiet ((exact Calls.quiet_of (HCALL.out _)))
          go_wp2_with fail
          go_roundw
          case rel => exact ⟨s, c, _, rfl, by go_num, hls, hci, by omega, H1.out, Or.inr (by rw [HU.out, HX.out, HY.out]; have := HZ.out; omega), by rw [HW.out]; exact World.drewN_drewN ..⟩
          case measure => simp [intOf]; omega
        · have hz3 : (!decide (z < 0)) = true := by simp; omega
          go_wp2_with fail
          go_quiet ((exact Calls.quiet_of (HCALL.out _)))
          go_wp2_with fail
          go_roundw
          case rel => exact ⟨c + 1, r, _, by go_num, rfl, by omega, by omega, hrr, Or.inr (by rw [Nat.add_sub_cancel, HU.out, HX.out, HY.out]; have := HZ.out; omega), H2.out, by rw [HW.out]; exact World.drewN_drewN ..⟩
          case measure => simp [intOf]; omega
      · have hlt2 : ¬ (s : Int) < (r : Int) := by omega
        obtain rfl : r = s := by omega
        have hsm : r ≤ m := by omega
        have hsd : r ≤ mid := by omega
        have has : a ≤ r := by have := HN.out; omega
        obtain ⟨E, hE⟩ : ∃ E, N - r = E := ⟨_, rfl⟩
        have hE2 : (N : Int) - (r : Int) = (E : Int) := by have := HN.out; omega
        have hEb : E ≤ b := by have := HN.out; have := HMID.out; omega
        have HCUT : Hid (Cut wt d a r m E b) := Lib.hid (by
          have := cut_mid (s := r) HP.out.sl HP.out.sr HP.out.low ham hmb HMID.out.symm HLO.out HR0.out hls hrr (by
            rcases H1.out with e | e
            · exact Or.inl e
            · exact Or.inr (by omega)) H2.out
          rw [HN.out, hE] at this
          exact this)
        have HM : Hid (r + (E - m) = mid) := Lib.hid (by have := HN.out; omega)
        have hmE : m ≤ E := by have := HN.out; omega
        have HE : Hid (E + r = mid + m) := Lib.hid (by have := HN.out; omega)
        clear hE H1 H2
        by_cases hA : r < m ∧ r < mid
        · obtain ⟨hA1, hA2⟩ := hA
          by_cases hL : a < r
          · by_cases hQ : E < b
            · have t1 : (r : Int) < (m : Int) := by have := HE.out; first | omega | (have := HB.out; omega)
              have t2 : (m : Int) < (E : Int) := by have := HE.out; first | omega | (have := HB.out; omega)
              have t3 : (a : Int) < (r : Int) := by have := HE.out; first | omega | (have := HB.out; omega)
              have t4 : (r : Int) < (mid : Int) := by have := HE.out; first | omega | (have := HB.out; omega)
              have t5 : (mid : Int) < (E : Int) := by have := HE.out; first | omega | (have := HB.out; omega)
              have t6 : (E : Int) < (b : Int) := by have := HE.out; first | omega | (have := HB.out; omega)
              go_wp2_with fail
              refine (rot_any g n r m E d wr _ HRW.out (by omega) (by omega) (by omega) hn).mono ?_
              rintro e w1 ⟨rfl, hR1, hT1⟩
              have HR1 := Lib.hid hR1
              have HT1 : Hid (Touch (· = g) w w1) := Lib.hid (HT.out.trans hT1 (fun i hi => Or.inl hi))
              have HI1 : Hid (I w1) := Lib.hid (HC.out.keep _ _ HIW.out hT1)
              clear hR1 hT1
              go_wp2_with fail
              refine (HIH.out a r mid (rot d r m E) w1 (by omega) (by omega) (by omega) (by omega) (by rw [← HM.out]; exact left_ok HC.out HCUT.out HP.out.rng hbn HR1.out HI1.out)).mono ?_
              rintro e w2 ⟨rfl, hS2⟩
              have HT2 : Hid (Touch (· = g) w w2) := Lib.hid (HT1.out.trans hS2.2 (fun i hi => Or.inl hi))
              have HI2 : Hid (I w2) := Lib.hid (HC.out.keep _ _ HI1.out hS2.2)
              have HS2 : Hid (LeftP wt g n d a r m E w w2) := Lib.hid (by rw [← HM.out] at hS2; exact ⟨hS2.1, HT2.out⟩)
              clear hS2
              go_wp2_with fail
              obtain ⟨⟨D, hRD, hPD, hSD⟩, _⟩ := HS2.out
              have HPD := Lib.hid hPD
              have HSD := Lib.hid hSD
              have HRD := Lib.hid hRD
              clear hPD hSD hRD
              refine (HIH.out mid E b D w2 (by omega) (by omega) (by omega) (by omega) (by rw [← HM.out]; exact right_ok HC.out HCUT.out HP.out.rng hbn HPD.out HRD.out HI2.out)).mono ?_
              rintro e w3 ⟨rfl, hS3⟩
              have HS3 := Lib.hid hS3
              clear hS3
              go_wp2_with fail
              go_end0
              refine ⟨rfl, right_end HCUT.out HPD.out HSD.out HT2.out ?_⟩
              rw [HM.out]
              exact HS3.out
            · have t1 : (r : Int) < (m : Int) := by have := HE.out; first | omega | (have := HB.out; omega)
              have t2 : (m : Int) < (E : Int) := by have := HE.out; first | omega | (have := HB.out; omega)
              have t3 : (a : Int) < (r : Int) := by have := HE.out; first | omega | (have := HB.out; omega)
              have t4 : (r : Int) < (mid : Int) := by have := HE.out; first | omega | (have := HB.out; omega)
              have t5 : (mid : Int) < (E : Int) := by have := HE.out; first | omega | (have := HB.out; omega)
              have t6 : ¬ (E : Int) < (b : Int) := by have := HE.out; first | omega | (have := HB.out; omega)
              go_wp2_with fail
              refine (rot_any g n r m E d wr _ HRW.out (by omega) (by omega) (by omega) hn).mono ?_
              rintro e w1 ⟨rfl, hR1, hT1⟩
              have HR1 := Lib.hid hR1
              have HT1 : Hid (Touch (· = g) w w1) := Lib.hid (HT.out.trans hT1 (fun i hi => Or.inl hi))
              have HI1 : Hid (I w1) := Lib.hid (HC.out.keep _ _ HIW.out hT1)
              clear hR1 hT1
              go_wp2_with fail
              refine (HIH.out a r mid (rot d r m E) w1 (by omega) (by omega) (by omega) (by omega) (by rw [← HM.out]; exact left_ok HC.out HCUT.out HP.out.rng hbn HR1.out HI1.out)).mono ?_
              rintro e w2 ⟨rfl, hS2⟩
              have HT2 : Hid (Touch (· = g) w w2) := Lib.hid (HT1.out.trans hS2.2 (fun i hi => Or.inl hi))
              have HI2 : Hid (I w2) := Lib.hid (HC.out.keep _ _ HI1.out hS2.2)
              have HS2 : Hid (LeftP wt g n d a r m E w w2) := Lib.hid (by rw [← HM.out] at hS2; exact ⟨hS2.1, HT2.out⟩)
              clear hS2
              go_wp2_with fail
              go_end0
              exact ⟨rfl, left_end HCUT.out HS2.out (by have := HM.out; have := HE.out; omega)⟩
          · by_cases hQ : E < b
            · have t1 : (r : Int) < (m : Int) := by have := HE.out; first | omega | (have := HB.out; omega)
              have t2 : (m : Int) < (E : Int) := by have := HE.out; first | omega | (have := HB.out; omega)
              have t3 : ¬ (a : Int) < (r : Int) := by have := HE.out; first | omega | (have := HB.out; omega)
              have t4 : (r : Int) < (mid : Int) := by have := HE.out; first | omega | (have := HB.out; omega)
              have t5 : (mid : Int) < (E : Int) := by have := HE.out; first | omega | (have := HB.out; omega)
              have t6 : (E : Int) < (b : Int) := by have := HE.out; first | omega | (have := HB.out; omega)
              go_wp2_with fail
              refine (rot_any g n r m E d wr _ HRW.out (by omega) (by omega) (by omega) hn).mono ?_
              rintro e w1 ⟨rfl, hR1, hT1⟩
              have HR1 := Lib.hid hR1
              have HT1 : Hid (Touch (· = g) w w1) := Lib.hid (HT.out.trans hT1 (fun i hi => Or.inl hi))
              have HI1 : Hid (I w1) := Lib.hid (HC.out.keep _ _ HIW.out hT1)
              clear hR1 hT1
              go_wp2_with fail
              have HT2 := HT1
              have HI2 := HI1
              have HS2 : Hid (LeftP wt g n d a r m E w w1) := Lib.hid ⟨⟨_, HR1.out, Pm.refl _ _ _, sym_left HCUT.out (by have := HM.out; have := HE.out; omega)⟩, HT1.out⟩
              obtain ⟨⟨D, hRD, hPD, hSD⟩, _⟩ := HS2.out
              have HPD := Lib.hid hPD
              have HSD := Lib.hid hSD
              have HRD := Lib.hid hRD
              clear hPD hSD hRD
              refine (HIH.out mid E b D w1 (by omega) (by omega) (by omega) (by omega) (by rw [← HM.out]; exact right_ok HC.out HCUT.out HP.out.rng hbn HPD.out HRD.out HI2.out)).mono ?_
              rintro e w3 ⟨rfl, hS3⟩
              have HS3 := Lib.hid hS3
              clear hS3
              go_wp2_with fail
              go_end0
              refine ⟨rfl, right_end HCUT.out HPD.out HSD.out HT2.out ?_⟩
              rw [HM.out]
              exact HS3.out
            · have t1 : (r : Int) < (m : Int) := by have := HE.out; first | omega | (have := HB.out; omega)
              have t2 : (m : Int) < (E : Int) := by have := HE.out; first | omega | (have := HB.out; omega)
              have t3 : ¬ (a : Int) < (r : Int) := by have := HE.out; first | omega | (have := HB.out; omega)
              have t4 : (r : Int) < (mid : Int) := by have := HE.out; first | omega | (have := HB.out; omega)
              have t5 : (mid : Int) < (E : Int) := by have := HE.out; first | omega | (have := HB.out; omega)
              have t6 : ¬ (E : Int) < (b : Int) := by have := HE.out; first | omega | (have := HB.out; omega)
              go_wp2_with fail
              refine (rot_any g n r m E d wr _ HRW.out (by omega) (by omega) (by omega) hn).mono ?_
              rintro e w1 ⟨rfl, hR1, hT1⟩
              have HR1 := Lib.hid hR1
              have HT1 : Hid (Touch (· = g) w w1) := Lib.hid (HT.out.trans hT1 (fun i hi => Or.inl hi))
              have HI1 : Hid (I w1) := Lib.hid (HC.out.keep _ _ HIW.out hT1)
              clear hR1 hT1
              go_wp2_with fail
              have HT2 := HT1
              have HI2 := HI1
              have HS2 : Hid (LeftP wt g n d a r m E w w1) := Lib.hid ⟨⟨_, HR1.out, Pm.refl _ _ _, sym_left HCUT.out (by have := HM.out; have := HE.out; omega)⟩, HT1.out⟩
              go_end0
              exact ⟨rfl, left_end HCUT.out HS2.out (by have := HM.out; have := HE.out; omega)⟩
        · have HB : Hid (r = mid) := Lib.hid (by omega)
          have HEM : Hid (E = m) := Lib.hid (by have := HE.out; have := HB.out; omega)
          have t1 : (r : Int) < (m : Int) := by have := HE.out; first | omega | (have := HB.out; omega)
          have t2 : ¬ (m : Int) < (E : Int) := by have := HE.out; first | omega | (have := HB.out; omega)
          have t3 : (a : Int) < (r : Int) := by have := HE.out; first | omega | (have := HB.out; omega)
          have t4 : ¬ (r : Int) < (mid : Int) := by have := HE.out; first | omega | (have := HB.out; omega)
          have t5 : (mid : Int) < (E : Int) := by have := HE.out; first | omega | (have := HB.out; omega)
          have t6 : (E : Int) < (b : Int) := by have := HE.out; first | omega | (have := HB.out; omega)
          go_wp2_with fail
          have HR1 : Hid (RowD wr g n (rot d r m E)) := Lib.hid (by rw [HEM.out, rot_none]; exact HRW.out)
          have HT1 := HT
          have HI1 := HIW
          have HT2 := HT1
          have HI2 := HI1
          have HS2 : Hid (LeftP wt g n d a r m E w wr) := Lib.hid ⟨⟨_, HR1.out, Pm.refl _ _ _, sym_left HCUT.out (by have := HM.out; have := HE.out; omega)⟩, HT1.out⟩
          obtain ⟨⟨D, hRD, hPD, hSD⟩, _⟩ := HS2.out
          have HPD := Lib.hid hPD
          have HSD := Lib.hid hSD
          have HRD := Lib.hid hRD
          clear hPD hSD hRD
          refine (HIH.out mid E b D wr (by omega) (by omega) (by omega) (by omega) (by rw [← HM.out]; exact right_ok HC.out HCUT.out HP.out.rng hbn HPD.out HRD.out HI2.out)).mono ?_
          rintro e w3 ⟨rfl, hS3⟩
          have HS3 := Lib.hid hS3
          clear hS3
          go_wp2_with fail
          go_end0
          refine ⟨rfl, right_end HCUT.out HPD.out HSD.out HT2.out ?_⟩
          rw [HM.out]
          exact HS3.out
end
end Go.Proofs.YtojphcoghbiepaaGreatDoor
namespace Go.Proofs.YtojphcoghbiepaaGreatDoor
open Go.RowKit SymM
set_option linter.unusedVariables false
section
variable {F : FuncId} {caps : Array Value} {g n : Nat} {wt : Int → Int} {I : World → Prop}
set_option maxRecDepth 100000 in
set_option maxHeartbeats 8000000 in
theorem sym_lo (hC : CmpF F caps g n wt I) (hn : n ≤ 1000000) (K : Nat) (ih : ∀ (a m b : Nat) (d : Row) (w : World), b ≤ a + K → a < m → m < b → b ≤ n → MerP wt g n I d a m b w →
    Calls Tryz.prog 292 #[.slice (some ⟨g, 0, none⟩) n n, .int .i64 (a : Int), .int .i64 (m : Int), .int .i64 (b : Int), .func (.func F) #[] caps] w fun e w' =>
      e = .returned (.tuple #[]) ∧ SrtP wt g n d a b w w')
    (a m b : Nat) (d : Row) (w : World) (hK : b ≤ a + (K + 1)) (ham : a < m) (hmb : m < b) (hbn : b ≤ n) (hP : MerP wt g n I d a m b w) (hf : ¬ m = a + 1) (hl : ¬ b = m + 1) (hc : ¬ (a + b) / 2 < m) :
    Calls Tryz.prog 292 #[.slice (some ⟨g, 0, none⟩) n n, .int .i64 (a : Int), .int .i64 (m : Int), .int .i64 (b : Int), .func (.func F) #[] caps] w fun e w' =>
      e = .returned (.tuple #[]) ∧ SrtP wt g n d a b w w' := by
    have he := hC.enter
    have HC := Lib.hid hC
    have HIH := Lib.hid ih
    have HP := Lib.hid hP
    have hone0 : ((m : Int) - (a : Int) == 1) = false := by rw [beq_eq_false_iff_ne]; omega
    have hone1 : ((b : Int) - (m : Int) == 1) = false := by rw [beq_eq_false_iff_ne]; omega
    obtain ⟨mid, hmid⟩ : ∃ mid, (a + b) / 2 = mid := ⟨_, rfl⟩
    obtain ⟨N, hN⟩ : ∃ N, mid + m = N := ⟨_, rfl⟩
    obtain ⟨p, hp⟩ : ∃ p, N - 1 = p := ⟨_, rfl⟩
    have hmid2 : ((a : Int) + (b : Int)) / 2 = (mid : Int) := by omega
    have hN2 : (mid : Int) + (m : Int) = (N : Int) := by omega
    have hp2 : (N : Int) - 1 = (p : Int) := by omega
    have hNb : N ≤ 2000000 := by omega
    have hpb : p ≤ 2000000 := by omega
    have ham2 : a < mid := by omega
    have hmb2 : mid < b := by omega
    have hmm : ¬ mid < m := by omega
    have HMID := Lib.hid hmid
    have HN := Lib.hid hN
    have HPP := Lib.hid hp
    clear hC ih hP hf hl hmid hN hp hc
    go_enter Tryz.func292, Tryz.ntmps292
    have hmm2 : ¬ (mid : Int) < (m : Int) := by omega
    have HLO : Hid (a = if mid < m then mid + m - b else a) := Lib.hid (by rw [if_neg hmm])
    have HR0 : Hid (m = if mid < m then mid else m) := Lib.hid (by rw [if_neg hmm])
    go_wp2_with fail
    go_loopw [20, 21] (fun vi vj wr => ∃ s r q : Nat, vi = .int .i64 s ∧ vj = .int .i64 r ∧ a ≤ s ∧ s ≤ r ∧ r ≤ m ∧ (s = a ∨ wt (d (s - 1)) ≤ wt (d (mid + m - 1 - (s - 1)))) ∧ (r = m ∨ wt (d (mid + m - 1 - r)) < wt (d r)) ∧ wr = w.drewN q) (fun vi vj _ => (intOf vj).toNat - (intOf vi).toNat)
    case atStart => exact ⟨a, m, 0, rfl, rfl, Nat.le_refl _, by omega, Nat.le_refl _, Or.inl rfl, Or.inl rfl, rfl⟩
    case round =>
      obtain ⟨s, r, q, rfl, rfl, hls, hsr, hrr, h1, h2, hw⟩ := hrel
      have HRW : Hid (RowD wr g n d) := Lib.hid (by rw [hw]; exact HP.out.row.drewN q)
      have HIW : Hid (I wr) := Lib.hid (by rw [hw]; exact HC.out.keep _ _ HP.out.inv (touch_drewN _ w q))
      have HT : Hid (Touch (· = g) w wr) := Lib.hid (by rw [hw]; exact touch_drewN _ w q)
      have HW := Lib.hid hw
      have H1 := Lib.hid h1
      have H2 := Lib.hid h2
      clear hw h1 h2
      by_cases hlt : s < r
      · have hlt2 : (s : Int) < (r : Int) := by omega
        obtain ⟨c, hc⟩ : ∃ c, (s + r) / 2 = c := ⟨_, rfl⟩
        have hcI : ((s : Int) + (r : Int)) / 2 = (c : Int) := by omega
        have hci : s ≤ c := by omega
        have hcj : c < r := by omega
        have hcn : c < n := by omega
        have hcn2 : (c : Int) < (n : Int) := by omega
        obtain ⟨u, hu⟩ : ∃ u, p - c = u := ⟨_, rfl⟩
        have hu2 : (p : Int) - (c : Int) = (u : Int) := by have := HN.out; have := HPP.out; omega
        have hun : u < n := by have := HN.out; have := HPP.out; have := HMID.out; omega
        have hun2 : (u : Int) < (n : Int) := by omega
        have HU : Hid (mid + m - 1 - c = u) := Lib.hid (by have := HN.out; have := HPP.out; omega)
        obtain ⟨c1, f1⟩ := HRW.out.cell hcn
        obtain ⟨c2, f2⟩ := HRW.out.cell hun
        obtain ⟨x, hx⟩ : ∃ x, d u = x := ⟨_, rfl⟩
        obtain ⟨y, hy⟩ : ∃ y, d c = y := ⟨_, rfl⟩
        rw [hy] at c1
        rw [hx] at c2
        obtain ⟨z, hz, hz1, hz2, hcall⟩ := HC.out.at HIW.out HP.out.rng hun hcn x y hx hy
        have HX := Lib.hid hx
        have HY := Lib.hid hy
        have HCALL := Lib.hid hcall
        have HZ := Lib.hid hz
        clear hx hy hcall hz hc hu
        by_cases hz0 : z < 0
        · have hz3 : (!decide (z < 0)) = false := by simp; omega
          go_wp2_with fail
          go_quiet ((exact Calls.quiet_of (HCALL.out _)))
          go_wp2_with fail
          go_roundw
          case rel => exact ⟨s, c, _, rfl, by go_num, hls, hci, by omega, H1.out, Or.inr (by rw [HU.out, HX.out, HY.out]; have := HZ.out; omega), by rw [HW.out]; exact World.drewN_drewN ..⟩
          case measure => simp [intOf]; omega
        · have hz3 : (!decide (z < 0)) = true := by simp; omega
          go_wp2_with fail
          go_quiet ((exact Calls.quiet_of (HCALL.out _)))
          go_wp2_with fail
          go_roundw
          case rel => exact ⟨c + 1, r, _, by go_num, rfl, by omega, by omega, hrr, Or.inr (by rw [Nat.add_sub_cancel, HU.out, HX.out, HY.out]; have := HZ.out; omega), H2.out, by rw [HW.out]; exact World.drewN_drewN ..⟩
          case measure => simp [intOf]; omega
      · have hlt2 : ¬ (s : Int) < (r : Int) := by omega
        obtain rfl : r = s := by omega
        have hsm : r ≤ m := by omega
        have hsd : r ≤ mid := by omega
        have has : a ≤ r := by have := HN.out; omega
        obtain ⟨E, hE⟩ : ∃ E, N - r = E := ⟨_, rfl⟩
        have hE2 : (N : Int) - (r : Int) = (E : Int) := by have := HN.out; omega
        have hEb : E ≤ b := by have := HN.out; have := HMID.out; omega
        have HCUT : Hid (Cut wt d a r m E b) := Lib.hid (by
          have := cut_mid (s := r) HP.out.sl HP.out.sr HP.out.low ham hmb HMID.out.symm HLO.out HR0.out hls hrr (by
            rcases H1.out with e | e
            · exact Or.inl e
            · exact Or.inr (by omega)) H2.out
          rw [HN.out, hE] at this
          exact this)
        have HM : Hid (r + (E - m) = mid) := Lib.hid (by have := HN.out; omega)
        have hmE : m ≤ E := by have := HN.out; omega
        have HE : Hid (E + r = mid + m) := Lib.hid (by have := HN.out; omega)
        clear hE H1 H2
        by_cases hA : r < m ∧ r < mid
        · obtain ⟨hA1, hA2⟩ := hA
          by_cases hL : a < r
          · by_cases hQ : E < b
            · have t1 : (r : Int) < (m : Int) := by have := HE.out; first | omega | (have := HB.out; omega)
              have t2 : (m : Int) < (E : Int) := by have := HE.out; first | omega | (have := HB.out; omega)
              have t3 : (a : Int) < (r : Int) := by have := HE.out; first | omega | (have := HB.out; omega)
              have t4 : (r : Int) < (mid : Int) := by have := HE.out; first | omega | (have := HB.out; omega)
              have t5 : (mid : Int) < (E : Int) := by have := HE.out; first | omega | (have := HB.out; omega)
              have t6 : (E : Int) < (b : Int) := by have := HE.out; first | omega | (have := HB.out; omega)
              go_wp2_with fail
              refine (rot_any g n r m E d wr _ HRW.out (by omega) (by omega) (by omega) hn).mono ?_
              rintro e w1 ⟨rfl, hR1, hT1⟩
              have HR1 := Lib.hid hR1
              have HT1 : Hid (Touch (· = g) w w1) := Lib.hid (HT.out.trans hT1 (fun i hi => Or.inl hi))
              have HI1 : Hid (I w1) := Lib.hid (HC.out.keep _ _ HIW.out hT1)
              clear hR1 hT1
              go_wp2_with fail
              refine (HIH.out a r mid (rot d r m E) w1 (by omega) (by omega) (by omega) (by omega) (by rw [← HM.out]; exact left_ok HC.out HCUT.out HP.out.rng hbn HR1.out HI1.out)).mono ?_
              rintro e w2 ⟨rfl, hS2⟩
              have HT2 : Hid (Touch (· = g) w w2) := Lib.hid (HT1.out.trans hS2.2 (fun i hi => Or.inl hi))
              have HI2 : Hid (I w2) := Lib.hid (HC.out.keep _ _ HI1.out hS2.2)
              have HS2 : Hid (LeftP wt g n d a r m E w w2) := Lib.hid (by rw [← HM.out] at hS2; exact ⟨hS2.1, HT2.out⟩)
              clear hS2
              go_wp2_with fail
              obtain ⟨⟨D, hRD, hPD, hSD⟩, _⟩ := HS2.out
              have HPD := Lib.hid hPD
              have HSD := Lib.hid hSD
              have HRD := Lib.hid hRD
              clear hPD hSD hRD
              refine (HIH.out mid E b D w2 (by omega) (by omega) (by omega) (by omega) (by rw [← HM.out]; exact right_ok HC.out HCUT.out HP.out.rng hbn HPD.out HRD.out HI2.out)).mono ?_
              rintro e w3 ⟨rfl, hS3⟩
              have HS3 := Lib.hid hS3
              clear hS3
              go_wp2_with fail
              go_end0
              refine ⟨rfl, right_end HCUT.out HPD.out HSD.out HT2.out ?_⟩
              rw [HM.out]
              exact HS3.out
            · have t1 : (r : Int) < (m : Int) := by have := HE.out; first | omega | (have := HB.out; omega)
              have t2 : (m : Int) < (E : Int) := by have := HE.out; first | omega | (have := HB.out; omega)
              have t3 : (a : Int) < (r : Int) := by have := HE.out; first | omega | (have := HB.out; omega)
              have t4 : (r : Int) < (mid : Int) := by have := HE.out; first | omega | (have := HB.out; omega)
              have t5 : (mid : Int) < (E : Int) := by have := HE.out; first | omega | (have := HB.out; omega)
              have t6 : ¬ (E : Int) < (b : Int) := by have := HE.out; first | omega | (have := HB.out; omega)
              go_wp2_with fail
              refine (rot_any g n r m E d wr _ HRW.out (by omega) (by omega) (by omega) hn).mono ?_
              rintro e w1 ⟨rfl, hR1, hT1⟩
              have HR1 := Lib.hid hR1
              have HT1 : Hid (Touch (· = g) w w1) := Lib.hid (HT.out.trans hT1 (fun i hi => Or.inl hi))
              have HI1 : Hid (I w1) := Lib.hid (HC.out.keep _ _ HIW.out hT1)
              clear hR1 hT1
              go_wp2_with fail
              refine (HIH.out a r mid (rot d r m E) w1 (by omega) (by omega) (by omega) (by omega) (by rw [← HM.out]; exact left_ok HC.out HCUT.out HP.out.rng hbn HR1.out HI1.out)).mono ?_
              rintro e w2 ⟨rfl, hS2⟩
              have HT2 : Hid (Touch (· = g) w w2) := Lib.hid (HT1.out.trans hS2.2 (fun i hi => Or.inl hi))
              have HI2 : Hid (I w2) := Lib.hid (HC.out.keep _ _ HI1.out hS2.2)
              have HS2 : Hid (LeftP wt g n d a r m E w w2) := Lib.hid (by rw [← HM.out] at hS2; exact ⟨hS2.1, HT2.out⟩)
              clear hS2
              go_wp2_with fail
              go_end0
              exact ⟨rfl, left_end HCUT.out HS2.out (by have := HM.out; have := HE.out; omega)⟩
          · by_cases hQ : E < b
            · have t1 : (r : Int) < (m : Int) := by have := HE.out; first | omega | (have := HB.out; omega)
              have t2 : (m : Int) < (E : Int) := by have := HE.out; first | omega | (have := HB.out; omega)
              have t3 : ¬ (a : Int) < (r : Int) := by have := HE.out; first | omega | (have := HB.out; omega)
              have t4 : (r : Int) < (mid : Int) := by have := HE.out; first | omega | (have := HB.out; omega)
              have t5 : (mid : Int) < (E : Int) := by have := HE.out; first | omega | (have := HB.out; omega)
              have t6 : (E : Int) < (b : Int) := by have := HE.out; first | omega | (have := HB.out; omega)
              go_wp2_with fail
              refine (rot_any g n r m E d wr _ HRW.out (by omega) (by omega) (by omega) hn).mono ?_
              rintro e w1 ⟨rfl, hR1, hT1⟩
              have HR1 := Lib.hid hR1
              have HT1 : Hid (Touch (· = g) w w1) := Lib.hid (HT.out.trans hT1 (fun i hi => Or.inl hi))
              have HI1 : Hid (I w1) := Lib.hid (HC.out.keep _ _ HIW.out hT1)
              clear hR1 hT1
              go_wp2_with fail
              have HT2 := HT1
              have HI2 := HI1
              have HS2 : Hid (LeftP wt g n d a r m E w w1) := Lib.hid ⟨⟨_, HR1.out, Pm.refl _ _ _, sym_left HCUT.out (by have := HM.out; have := HE.out; omega)⟩, HT1.out⟩
              obtain ⟨⟨D, hRD, hPD, hSD⟩, _⟩ := HS2.out
              have HPD := Lib.hid hPD
              have HSD := Lib.hid hSD
              have HRD := Lib.hid hRD
              clear hPD hSD hRD
              refine (HIH.out mid E b D w1 (by omega) (by omega) (by omega) (by omega) (by rw [← HM.out]; exact right_ok HC.out HCUT.out HP.out.rng hbn HPD.out HRD.out HI2.out)).mono ?_
              rintro e w3 ⟨rfl, hS3⟩
              have HS3 := Lib.hid hS3
              clear hS3
              go_wp2_with fail
              go_end0
              refine ⟨rfl, right_end HCUT.out HPD.out HSD.out HT2.out ?_⟩
              rw [HM.out]
              exact HS3.out
            · have t1 : (r : Int) < (m : Int) := by have := HE.out; first | omega | (have := HB.out; omega)
              have t2 : (m : Int) < (E : Int) := by have := HE.out; first | omega | (have := HB.out; omega)
              have t3 : ¬ (a : Int) < (r : Int) := by have := HE.out; first | omega | (have := HB.out; omega)
              have t4 : (r : Int) < (mid : Int) := by have := HE.out; first | omega | (have := HB.out; omega)
              have t5 : (mid : Int) < (E : Int) := by have := HE.out; first | omega | (have := HB.out; omega)
              have t6 : ¬ (E : Int) < (b : Int) := by have := HE.out; first | omega | (have := HB.out; omega)
              go_wp2_with fail
              refine (rot_any g n r m E d wr _ HRW.out (by omega) (by omega) (by omega) hn).mono ?_
              rintro e w1 ⟨rfl, hR1, hT1⟩
              have HR1 := Lib.hid hR1
              have HT1 : Hid (Touch (· = g) w w1) := Lib.hid (HT.out.trans hT1 (fun i hi => Or.inl hi))
              have HI1 : Hid (I w1) := Lib.hid (HC.out.keep _ _ HIW.out hT1)
              clear hR1 hT1
              go_wp2_with fail
              have HT2 := HT1
              have HI2 := HI1
              have HS2 : Hid (LeftP wt g n d a r m E w w1) := Lib.hid ⟨⟨_, HR1.out, Pm.refl _ _ _, sym_left HCUT.out (by have := HM.out; have := HE.out; omega)⟩, HT1.out⟩
              go_end0
              exact ⟨rfl, left_end HCUT.out HS2.out (by have := HM.out; have := HE.out; omega)⟩
        · have HB : Hid (r = m) := Lib.hid (by omega)
          by_cases hL : r < mid
          · have t1 : ¬ (r : Int) < (m : Int) := by have := HE.out; first | omega | (have := HB.out; omega)
            have t3 : (a : Int) < (r : Int) := by have := HE.out; first | omega | (have := HB.out; omega)
            have t4 : (r : Int) < (mid : Int) := by have := HE.out; first | omega | (have := HB.out; omega)
            have t5 : ¬ (mid : Int) < (E : Int) := by have := HE.out; first | omega | (have := HB.out; omega)
            go_wp2_with fail
            have HR1 : Hid (RowD wr g n (rot d r m E)) := Lib.hid (by rw [HB.out, rot_none']; exact HRW.out)
            have HT1 := HT
            have HI1 := HIW
            refine (HIH.out a r mid (rot d r m E) wr (by omega) (by omega) (by omega) (by omega) (by rw [← HM.out]; exact left_ok HC.out HCUT.out HP.out.rng hbn HR1.out HI1.out)).mono ?_
            rintro e w2 ⟨rfl, hS2⟩
            have HT2 : Hid (Touch (· = g) w w2) := Lib.hid (HT1.out.trans hS2.2 (fun i hi => Or.inl hi))
            have HI2 : Hid (I w2) := Lib.hid (HC.out.keep _ _ HI1.out hS2.2)
            have HS2 : Hid (LeftP wt g n d a r m E w w2) := Lib.hid (by rw [← HM.out] at hS2; exact ⟨hS2.1, HT2.out⟩)
            clear hS2
            go_wp2_with fail
            go_end0
            exact ⟨rfl, left_end HCUT.out HS2.out (by have := HM.out; have := HE.out; omega)⟩
          · have t1 : ¬ (r : Int) < (m : Int) := by have := HE.out; first | omega | (have := HB.out; omega)
            have t3 : (a : Int) < (r : Int) := by have := HE.out; first | omega | (have := HB.out; omega)
            have t4 : ¬ (r : Int) < (mid : Int) := by have := HE.out; first | omega | (have := HB.out; omega)
            have t5 : ¬ (mid : Int) < (E : Int) := by have := HE.out; first | omega | (have := HB.out; omega)
            go_wp2_with fail
            have HR1 : Hid (RowD wr g n (rot d r m E)) := Lib.hid (by rw [HB.out, rot_none']; exact HRW.out)
            have HT1 := HT
            have HI1 := HIW
            have HT2 := HT1
            have HI2 := HI1
            have HS2 : Hid (LeftP wt g n d a r m E w wr) := Lib.hid ⟨⟨_, HR1.out, Pm.refl _ _ _, sym_left HCUT.out (by have := HM.out; have := HE.out; omega)⟩, HT1.out⟩
            go_end0
            exact ⟨rfl, left_end HCUT.out HS2.out (by have := HM.out; have := HE.out; omega)⟩
end
end Go.Proofs.YtojphcoghbiepaaGreatDoor
namespace Go.Proofs.YtojphcoghbiepaaGreatDoor
open Go.RowKit SymM
set_option linter.unusedVariables false
namespace SymM
theorem Half.mer {w : Int → Int} {n B t a b : Nat} {d : Row} (h : Half w n B t d) (ha : a = 2 * B * t) (hb : b = min (a + 2 * B) n) (hab : a + B ≤ b) : Srt w d a (a + B) ∧ Srt w d (a + B) b ∧ Low d a (a + B) b := by
  obtain ⟨h1, h2⟩ := h
  have hB : B * (2 * t) = 2 * B * t := by rw [Nat.mul_comm 2 B, Nat.mul_assoc]
  have hB1 : B * (2 * t + 1) = 2 * B * t + B := by rw [Nat.mul_add, Nat.mul_one, hB]
  have k1 := h2 (2 * t) (by omega)
  have k2 := h2 (2 * t + 1) (by omega)
  rw [hB, ← ha] at k1
  rw [hB1, ← ha] at k2
  have e1 : min (a + B) n = a + B := by omega
  have e2 : min (a + B + B) n = b := by omega
  rw [e1] at k1
  rw [e2] at k2
  exact ⟨k1.srt, k2.srt, k1.low k2⟩
end SymM
section
variable {F : FuncId} {caps : Array Value} {g n : Nat} {wt : Int → Int} {I : World → Prop}
theorem sym_any (hC : CmpF F caps g n wt I) (hn : n ≤ 1000000) : ∀ (K a m b : Nat) (d : Row) (w : World), b ≤ a + K → a < m → m < b → b ≤ n → MerP wt g n I d a m b w →
    Calls Tryz.prog 292 #[.slice (some ⟨g, 0, none⟩) n n, .int .i64 (a : Int), .int .i64 (m : Int), .int .i64 (b : Int), .func (.func F) #[] caps] w fun e w' =>
      e = .returned (.tuple #[]) ∧ SrtP wt g n d a b w w' := by
  intro K
  induction K with
  | zero => intro a m b d w h1 h2 h3; omega
  | succ K ih =>
    intro a m b d w hK ham hmb hbn hP
    by_cases hf : m = a + 1
    · have h2 := hP.low
      have h3 := hP.sr
      subst hf
      exact sym_first hC a b d w hP.row hP.inv (by omega) hbn hn hP.rng h3 h2 _ rfl
    · by_cases hl : b = m + 1
      · have h2 := hP.low
        subst hl
        exact sym_last hC a m d w hP.row hP.inv (by omega) hbn hn hP.rng hP.sl h2 _ rfl
      · by_cases hc : (a + b) / 2 < m
        · exact sym_hi hC hn K ih a m b d w hK ham hmb hbn hP hf hl hc
        · exact sym_lo hC hn K ih a m b d w hK ham hmb hbn hP hf hl hc
set_option maxRecDepth 100000 in
set_option maxHeartbeats 4000000 in
theorem stable_any (hC : CmpF F caps g n wt I) (hn : n ≤ 100000) (w : World) (hR : RowD w g n (fun k => (k : Int))) (hI : I w) :
    Calls Tryz.prog 289 #[.slice (some ⟨g, 0, none⟩) n n, .int .i64 (n : Int), .func (.func F) #[] caps] w fun e w' =>
      e = .returned (.tuple #[]) ∧ (∃ D, RowD w' g n D ∧ Blk wt D 0 n) ∧ Touch (· = g) w w' := by
  have he := hC.enter
  have HR0 := Lib.hid hR
  have HI0 := Lib.hid hI
  have HC := Lib.hid hC
  have hr0 : Hid (Rng n (fun k => (k : Int))) := Lib.hid (fun k hk => ⟨Int.natCast_nonneg k, by show (k : Int) < (n : Int); omega⟩)
  clear hR hI hC
  go_enter Tryz.func289, Tryz.ntmps289
  go_wp2_with fail
  go_loopw [7, 8] (fun va vb wr => ∃ (t A B : Nat) (D : Row), va = .int .i64 A ∧ vb = .int .i64 B ∧ A = 20 * t ∧ B = A + 20 ∧ A ≤ n ∧ RowD wr g n D ∧ Ins wt n 20 t D ∧ Rng n D ∧ Touch (· = g) w wr) (fun va _ _ => n + 1 - (intOf va).toNat)
  case atStart => exact ⟨0, 0, 20, _, rfl, rfl, rfl, rfl, Nat.zero_le _, HR0.out, ⟨fun q hq => by omega, fun k _ => rfl⟩, hr0.out, Touch.refl _ w⟩
  case round =>
    obtain ⟨t, A, B, D, rfl, rfl, hA, hB, hAn, hR, hIns, hrn, hT⟩ := hrel
    have HR := Lib.hid hR
    have HIN := Lib.hid hIns
    have HRN := Lib.hid hrn
    have HT := Lib.hid hT
    have HAA := Lib.hid hA
    have HBB := Lib.hid hB
    have hB1 : B ≤ A + 20 := by omega
    have hB2 : A + 20 ≤ B := by omega
    have HIW : Hid (I wr) := Lib.hid (HC.out.keep _ _ HI0.out hT)
    clear hR hIns hrn hT hA hB
    by_cases hlt : B ≤ n
    · have hlt2 : (B : Int) ≤ (n : Int) := by omega
      go_wp2_with fail
      refine (ins_any HC.out A B D wr HR.out HIW.out (by omega) hlt (by omega) HRN.out (fun i j h1 h2 h3 => by
        have := HAA.out
        rw [HIN.out.2 i (by omega), HIN.out.2 j (by omega)]
        omega)).mono ?_
      rintro e w' ⟨rfl, ⟨D2, hR2, hP2, hS2⟩, hT2⟩
      have HR2 := Lib.hid hR2
      have HP2 := Lib.hid hP2
      have HS2 := Lib.hid hS2
      have HT2 := Lib.hid hT2
      clear hR2 hP2 hS2 hT2
      go_wp2_with fail
      go_roundw
      case rel => exact ⟨t + 1, B, B + 20, D2, rfl, by go_num, by have := HAA.out; omega, rfl, hlt, HR2.out, HIN.out.next HAA.out (by omega) HP2.out HS2.out, HRN.out.pm HP2.out hlt, HT.out.trans HT2.out (fun i hi => Or.inl hi)⟩
      case measure => simp [intOf]; omega
    · have hlt2 : ¬ (B : Int) ≤ (n : Int) := by omega
      go_wp2_with fail
      refine (ins_any HC.out A n D wr HR.out HIW.out hAn (Nat.le_refl _) (by omega) HRN.out (fun i j h1 h2 h3 => by
        have := HAA.out
        rw [HIN.out.2 i (by omega), HIN.out.2 j (by omega)]
        omega)).mono ?_
      rintro e w' ⟨rfl, ⟨D2, hR2, hP2, hS2⟩, hT2⟩
      have HR2 := Lib.hid hR2
      have HBL : Hid (Blks wt n 20 D2) := Lib.hid ((HIN.out.next HAA.out (show n = min (A + 20) n by omega) hP2 hS2).end_ (by have := HAA.out; omega))
      have HRN2 : Hid (Rng n D2) := Lib.hid (HRN.out.pm hP2 (Nat.le_refl _))
      have HT2 : Hid (Touch (· = g) w w') := Lib.hid (HT.out.trans hT2 (fun i hi => Or.inl hi))
      clear hR2 hP2 hS2 hT2
      go_wp2_with fail
      go_loopw [6, 7, 8, 9] (fun vs va vb vm wr => ∃ (S : Nat) (D : Row), vs = .int .i64 S ∧ 1 ≤ S ∧ S ≤ 200000 ∧ RowD wr g n D ∧ Blks wt n S D ∧ Rng n D ∧ Touch (· = g) w wr) (fun vs _ _ _ _ => n - (intOf vs).toNat)
      case atStart => exact ⟨20, D2, rfl, by omega, by omega, HR2.out, HBL.out, HRN2.out, HT2.out⟩
      case round =>
        obtain ⟨S, D3, rfl, hS1, hS2, hR3, hB3, hrn3, hT3⟩ := hrel
        have HR3 := Lib.hid hR3
        have HB3 := Lib.hid hB3
        have HRN3 := Lib.hid hrn3
        have HT3 := Lib.hid hT3
        clear hR3 hB3 hrn3 hT3
        by_cases hSn : S < n
        · have hSn2 : (S : Int) < (n : Int) := by omega
          go_wp2_with fail
          go_loopw [7, 8] (fun va vb w3 => ∃ (t A B : Nat) (D : Row), va = .int .i64 A ∧ vb = .int .i64 B ∧ A = 2 * S * t ∧ B ≤ A + 2 * S ∧ A + 2 * S ≤ B ∧ A ≤ n ∧ RowD w3 g n D ∧ Half wt n S t D ∧ Rng n D ∧ Touch (· = g) w w3) (fun va _ _ => n + 1 - (intOf va).toNat)
          case atStart => exact ⟨0, 0, 2 * S, D3, rfl, by go_num, rfl, by omega, by omega, Nat.zero_le _, HR3.out, Half.start HB3.out, HRN3.out, HT3.out⟩
          case round =>
            obtain ⟨t, A, B, D4, rfl, rfl, hA, hB1, hB2, hAn, hR4, hH4, hrn4, hT4⟩ := hrel
            have HR4 := Lib.hid hR4
            have HH4 := Lib.hid hH4
            have HRN4 := Lib.hid hrn4
            have HT4 := Lib.hid hT4
            have HAA := Lib.hid hA
            obtain ⟨M, hM⟩ : ∃ M, A + S = M := ⟨_, rfl⟩
            have hM2 : (A : Int) + (S : Int) = (M : Int) := by omega
            have HM := Lib.hid hM
            have hM3 : A < M := by omega
            have hM4 : M < B := by omega
            have HIW : Hid (I wr) := Lib.hid (HC.out.keep _ _ HI0.out hT4)
            clear hR4 hH4 hrn4 hT4 hA hM
            by_cases hlt : B ≤ n
            · have hlt2 : (B : Int) ≤ (n : Int) := by omega
              go_wp2_with fail
              refine (sym_any HC.out (by omega) B A M B D4 wr (by omega) hM3 hM4 hlt (by
                obtain ⟨q1, q2, q3⟩ := HH4.out.mer HAA.out (show B = min (A + 2 * S) n by omega) (by omega)
                rw [HM.out] at q1 q2 q3
                exact ⟨HR4.out, HIW.out, HRN4.out, q1, q2, q3⟩)).mono ?_
              rintro e w' ⟨rfl, ⟨D5, hR5, hP5, hS5⟩, hT5⟩
              have HR5 := Lib.hid hR5
              have HP5 := Lib.hid hP5
              have HS5 := Lib.hid hS5
              have HT5 := Lib.hid hT5
              clear hR5 hP5 hS5 hT5
              go_wp2_with fail
              go_roundw
              case rel => exact ⟨t + 1, B, B + 2 * S, D5, rfl, by go_num, by have := HAA.out; rw [Nat.mul_add, ← this]; omega, by omega, by omega, hlt, HR5.out, HH4.out.next HAA.out (by omega) (by omega) HP5.out HS5.out, HRN4.out.pm HP5.out hlt, HT4.out.trans HT5.out (fun i hi => Or.inl hi)⟩
              case measure => simp [intOf]; omega
            · have hlt2 : ¬ (B : Int) ≤ (n : Int) := by omega
              by_cases hMn : M < n
              · have hMn2 : (M : Int) < (n : Int) := by omega
                go_wp2_with fail
                refine (sym_any HC.out (by omega) n A M n D4 wr (by omega) hM3 hMn (Nat.le_refl _) (by
                  obtain ⟨q1, q2, q3⟩ := HH4.out.mer HAA.out (show n = min (A + 2 * S) n by omega) (by have := HM.out; omega)
                  rw [HM.out] at q1 q2 q3
                  exact ⟨HR4.out, HIW.out, HRN4.out, q1, q2, q3⟩)).mono ?_
                rintro e w' ⟨rfl, ⟨D5, hR5, hP5, hS5⟩, hT5⟩
                have HR5 := Lib.hid hR5
                have HB5 : Hid (Blks wt n (2 * S) D5) := Lib.hid ((HH4.out.next HAA.out (show n = min (A + 2 * S) n by omega) (by have := HM.out; omega) hP5 hS5).full (a := A + 2 * S) (by have := HAA.out; rw [Nat.mul_add, ← this]; omega) (by omega))
                have HRN5 : Hid (Rng n D5) := Lib.hid (HRN4.out.pm hP5 (Nat.le_refl _))
                have HT5 : Hid (Touch (· = g) w w') := Lib.hid (HT4.out.trans hT5 (fun i hi => Or.inl hi))
                clear hR5 hP5 hS5 hT5
                go_wp2_with fail
                go_roundw
                case rel => exact ⟨2 * S, D5, by go_num, by omega, by omega, HR5.out, HB5.out, HRN5.out, HT5.out⟩
                case measure => simp [intOf]; omega
              · have hMn2 : ¬ (M : Int) < (n : Int) := by omega
                have HB5 : Hid (Blks wt n (2 * S) D4) := Lib.hid (HH4.out.end_ HAA.out (by have := HM.out; omega))
                go_wp2_with fail
                go_roundw
                case rel => exact ⟨2 * S, D4, by go_num, by omega, by omega, HR4.out, HB5.out, HRN4.out, HT4.out⟩
                case measure => simp [intOf]; omega
        · have hSn2 : ¬ (S : Int) < (n : Int) := by omega
          go_wp2_with fail
          go_end0
          exact ⟨rfl, ⟨D3, HR3.out, HB3.out.all (by omega)⟩, HT3.out⟩
theorem sortStable_any (hC : CmpF F caps g n wt I) (hn : n ≤ 100000) (w : World) (hR : RowD w g n (fun k => (k : Int))) (hI : I w) :
    Calls Tryz.prog 286 #[.slice (some ⟨g, 0, none⟩) n n, .func (.func F) #[] caps] w fun e w' =>
      e = .returned (.tuple #[]) ∧ (∃ D, RowD w' g n D ∧ Blk wt D 0 n) ∧ Touch (· = g) w w' := by
  have HR := Lib.hid hR
  have HI := Lib.hid hI
  have HC := Lib.hid hC
  clear hR hI hC
  go_enter Tryz.func286, Tryz.ntmps286
  go_wp2_with fail
  refine (stable_any HC.out hn w HR.out HI.out).mono ?_
  rintro e w' ⟨rfl, h1, h2⟩
  have H1 := Lib.hid h1
  have H2 := Lib.hid h2
  clear h1 h2
  go_wp2_with fail
  go_end0
  exact ⟨rfl, H1.out, H2.out⟩
end
end Go.Proofs.YtojphcoghbiepaaGreatDoor
namespace Go.Proofs.YtojphcoghbiepaaGreatDoor
open Go.RowKit SymM HufM
set_option linter.unusedVariables false
theorem isNaN_any (x : Int) (w : World) : Calls Tryz.prog 290 #[.int .i64 x] w fun e w' => e = .returned (.bool false) ∧ w' = w := by
  have h : (x != x) = false := by simp
  go_enter Tryz.func290, Tryz.ntmps290
  go_wp2_with fail
  go_ret
  exact ⟨rfl, rfl⟩
set_option maxHeartbeats 1000000 in
theorem compare_any (x y : Int) (w : World) : Calls Tryz.prog 288 #[.int .i64 x, .int .i64 y] w fun e w' => e = .returned (.int .i64 (sgn x y)) ∧ w' = w := by
  unfold sgn
  by_cases h1 : x < y
  · rw [if_pos h1]
    go_enter Tryz.func288, Tryz.ntmps288
    go_wp2_with fail
    refine (isNaN_any x w).mono ?_
    rintro e w' ⟨rfl, rfl⟩
    go_wp2_with fail
    refine (isNaN_any y _).mono ?_
    rintro e w' ⟨rfl, rfl⟩
    go_wp2_with fail
    go_ret
    exact ⟨rfl, rfl⟩
  · rw [if_neg h1]
    by_cases h2 : y < x
    · rw [if_pos h2]
      go_enter Tryz.func288, Tryz.ntmps288
      go_wp2_with fail
      refine (isNaN_any x w).mono ?_
      rintro e w' ⟨rfl, rfl⟩
      go_wp2_with fail
      refine (isNaN_any y _).mono ?_
      rintro e w' ⟨rfl, rfl⟩
      go_wp2_with fail
      go_ret
      exact ⟨rfl, rfl⟩
    · rw [if_neg h2]
      go_enter Tryz.func288, Tryz.ntmps288
      go_wp2_with fail
      refine (isNaN_any x w).mono ?_
      rintro e w' ⟨rfl, rfl⟩
      go_wp2_with fail
      refine (isNaN_any y _).mono ?_
      rintro e w' ⟨rfl, rfl⟩
      go_wp2_with fail
      go_ret
      exact ⟨rfl, rfl⟩
/-- A symbol's weight. -/
def wtOf (zs : List Int) (x : Int) : Int := zs.getD x.toNat 0
set_option maxRecDepth 100000 in
set_option maxHeartbeats 1000000 in
theorem less_any (bx : Nat) (v : Value) (zs : List Int) (w : World) (x y : Int) (hc : w.cell? ⟨bx, 0, none⟩ = some v) (hv : IsInts w v zs) (hz : zs.length ≤ 100000) (hx0 : 0 ≤ x) (hx : x < zs.length) (hy0 : 0 ≤ y) (hy : y < zs.length) :
    Calls Tryz.prog 287 #[.int .i64 x, .int .i64 y, .pointer (some ⟨bx, 0, none⟩)] w fun e w' => e = .returned (.int .i64 (sgn (wtOf zs x) (wtOf zs y))) ∧ ∃ q, w' = w.drewN q := by
  obtain ⟨i, rfl⟩ := Int.eq_ofNat_of_zero_le hx0
  obtain ⟨j, rfl⟩ := Int.eq_ofNat_of_zero_le hy0
  have HV := Lib.hid hv
  obtain ⟨b1, o1, k1, he1, c1⟩ := HV.out.cell (show i < zs.length by omega)
  obtain ⟨b2, o2, k2, he2, c2⟩ := HV.out.cell (show j < zs.length by omega)
  subst he1
  simp only [Value.slice.injEq, Option.some.injEq, Addr.mk.injEq] at he2
  obtain ⟨⟨rfl, rfl, _⟩, _, rfl⟩ := he2
  obtain ⟨X, hX⟩ : ∃ X, zs.getD i 0 = X := ⟨_, rfl⟩
  obtain ⟨Y, hY⟩ : ∃ Y, zs.getD j 0 = Y := ⟨_, rfl⟩
  have e1 : wtOf zs (i : Int) = X := by unfold wtOf; rw [Int.toNat_natCast]; exact hX
  have e2 : wtOf zs (j : Int) = Y := by unfold wtOf; rw [Int.toNat_natCast]; exact hY
  rw [e1, e2]
  rw [hX] at c1
  rw [hY] at c2
  clear hX hY e1 e2 hx0 hy0
  go_enter Tryz.func287, Tryz.ntmps287
  go_wp2_with fail
  go_quiet ((go_at_call 288; exact Calls.quiet_of_same (compare_any X Y _)))
  go_wp2_with fail
  go_ret
  exact ⟨rfl, _, rfl⟩
theorem RowD.congr {w : World} {g n : Nat} {d e : Row} (h : RowD w g n d) (he : ∀ i, i < n → d i = e i) : RowD w g n e := by
  unfold RowD at *
  have : (List.range n).map d = (List.range n).map e := List.map_congr_left (fun i hi => he i (List.mem_range.1 hi))
  rw [← this]
  exact h
theorem RowD.made (w : World) (n : Nat) : RowD (w.alloc (.cells (madeCells #[Value.int .i64 0] n) 3)) w.heap.size n (fun _ => 0) := by
  have := RowI.made w n
  unfold RowD
  have e : List.replicate n (0 : Int) = (List.range n).map (fun _ => 0) := by
    apply List.ext_getElem
    · simp
    · intro j h1 h2; simp
  rw [← e]
  exact this
end Go.Proofs.YtojphcoghbiepaaGreatDoor
namespace Go.Proofs.YtojphcoghbiepaaGreatDoor
open Go.RowKit SymM HufM
set_option linter.unusedVariables false
/-- What the symbols by their weights are. -/
def ByP (zs : List Int) (v : Value) (w w' : World) : Prop := ∃ (g : Nat) (D : Row), v = .slice (some ⟨g, 0, none⟩) zs.length zs.length ∧ w.heap.size ≤ g ∧ RowD w' g zs.length D ∧ Blk (wtOf zs) D 0 zs.length ∧ Below w.heap.size w w'
set_option maxRecDepth 100000 in
set_option maxHeartbeats 2000000 in
theorem byWeight_any (v : Value) (zs : List Int) (w : World) (hv : IsInts w v zs) (hz : zs.length ≤ 100000) :
    Calls Tryz.prog 283 #[v] w fun e w' => ∃ r, e = .returned r ∧ ByP zs r w w' := by
  have HV0 := Lib.hid hv
  obtain ⟨a, cap, rfl, _⟩ := hv
  obtain ⟨n, hn⟩ : ∃ n, zs.length = n := ⟨_, rfl⟩
  have HN := Lib.hid hn
  obtain ⟨wA, hwA⟩ : ∃ wA, w.alloc (.cells #[.slice a n cap] 28) = wA := ⟨_, rfl⟩
  have hs1 : wA.heap.size = w.heap.size + 1 := by rw [← hwA]; simp
  have hbx : wA.cell? ⟨w.heap.size, 0, none⟩ = some (.slice a n cap) := by rw [← hwA]; simp
  have HVA : Hid (IsInts wA (.slice a n cap) zs) := Lib.hid (by rw [← hwA, ← hn]; exact HV0.out.below ((Below.refl _ w).alloc (Nat.le_refl _) _))
  have HB1 : Hid (Below w.heap.size w wA) := Lib.hid (by rw [← hwA]; exact (Below.refl _ w).alloc (Nat.le_refl _) _)
  have HWA := Lib.hid hwA
  obtain ⟨g, hg⟩ : ∃ g, w.heap.size + 1 = g := ⟨_, rfl⟩
  have hmk := make_ints n (by omega) (w.alloc (.cells #[.slice a n cap] 28))
  have hmade := RowD.made (w.alloc (.cells #[.slice a n cap] 28)) n
  have hs2 : (w.alloc (.cells #[.slice a n cap] 28)).heap.size = g := by rw [← hg]; simp
  rw [hs2] at hmk hmade
  have HR0 := Lib.hid hmade
  have HBX := Lib.hid hbx
  have HG : Hid (wA.heap.size = g) := Lib.hid (by rw [hs1]; exact hg)
  have HG2 : Hid (w.heap.size + 1 = g) := Lib.hid hg
  have hb0 : Hid (Below g wA ((w.alloc (.cells #[.slice a n cap] 28)).alloc (.cells (madeCells #[Value.int .i64 0] n) 3))) := Lib.hid (by rw [hwA, ← HG.out]; exact (Below.refl _ wA).alloc (Nat.le_refl _) _)
  rw [hn] at hz ⊢
  clear hwA hn hbx hmade hs1 hg
  go_enter Tryz.func283, Tryz.ntmps283
  go_wp2_with fail
  generalize (w.alloc (.cells #[.slice a n cap] 28)).alloc (.cells (madeCells #[Value.int .i64 0] n) 3) = w1 at *
  go_wp2_with fail
  go_loopw [10] (fun i wr => ∃ k : Nat, k ≤ n ∧ i = .int .i64 k ∧ RowD wr g n (fun j => if j < k then (j : Int) else 0) ∧ Below g wA wr) (fun i _ => n - (intOf i).toNat)
  case atStart => exact ⟨0, Nat.zero_le _, rfl, HR0.out.congr (fun j _ => by simp), hb0.out⟩
  case round =>
    obtain ⟨k, hk, rfl, hR, hB⟩ := hrel
    have HR := Lib.hid hR
    have HB := Lib.hid hB
    clear hR hB
    by_cases hlk : k < n
    · have hki : (k : Int) < (n : Int) := by omega
      obtain ⟨c1, f1⟩ := HR.out.cell hlk
      go_wp2_with fail
      go_roundw
      case rel => exact ⟨k + 1, by omega, by go_num, (HR.out.set hlk k).congr (fun j _ => by
        by_cases e : j = k
        · subst e; simp
        · have : (j < k + 1) = (j < k) := by apply propext; omega
          simp [e, this]), HB.out.setCell (p := ⟨g, k, none⟩) (Nat.le_refl _) _⟩
      case measure => simp [intOf]; omega
    · have hki : ¬ (k : Int) < (n : Int) := by omega
      obtain rfl : n = k := by omega
      have HRF : Hid (RowD wr g n (fun j => (j : Int))) := Lib.hid (HR.out.congr (fun j hj => by simp [hj]))
      have hcmp : Hid (CmpF 287 #[.pointer (some ⟨w.heap.size, 0, none⟩)] g n (wtOf zs) (Below g wA)) := Lib.hid ⟨enters_of Tryz.func287 (by kernel_rfl) rfl,
        fun W W' h ht => ⟨ht.os.trans h.os, ht.tape.trans h.tape, ht.output.trans h.output, Nat.le_trans h.size ht.size, fun i hi => (ht.block i (by have := h.size; have := HG.out; omega) (fun e => by have e' : i = g := e; omega)).trans (h.block i hi)⟩,
        fun W x y hI hx0 hx hy0 hy => by
          have hgw := HG.out
          have hIn : IsInts W (.slice a n cap) zs := HVA.out.below (by rw [hgw]; exact hI)
          have hcl : W.cell? ⟨w.heap.size, 0, none⟩ = some (.slice a n cap) := (hI.cell (p := ⟨w.heap.size, 0, none⟩) (by show w.heap.size < g; have := HG2.out; omega)).trans HBX.out
          exact less_any w.heap.size (.slice a n cap) zs W x y hcl hIn (by rw [HN.out]; exact hz) hx0 (by rw [HN.out]; exact hx) hy0 (by rw [HN.out]; exact hy)⟩
      go_wp2_with fail
      refine (sortStable_any hcmp.out hz wr HRF.out HB.out).mono ?_
      rintro e w' ⟨rfl, ⟨D, hD, hBlk⟩, hT⟩
      have HD := Lib.hid hD
      have HBL := Lib.hid hBlk
      have HT := Lib.hid hT
      clear hD hBlk hT
      go_wp2_with fail
      go_ret
      have hn := HN.out
      have hg2 := HG2.out
      refine ⟨.slice (some ⟨g, 0, none⟩) n n, rfl, g, D, by rw [hn], by omega, by rw [hn]; exact HD.out, by rw [hn]; exact HBL.out, ?_⟩
      exact (HB1.out.trans (HB.out.mono (by omega))).trans (HT.out.below (B := w.heap.size) (by have := HB.out.size; have := HG.out; omega) (fun i hi => by have e' : i = g := hi; omega))
end Go.Proofs.YtojphcoghbiepaaGreatDoor
namespace Go.Proofs.YtojphcoghbiepaaGreatDoor
open Go.RowKit SymM HufM
set_option linter.unusedVariables false
theorem ints_inj {k : IntKind} {a b : Int} (h : a = b) : Ending.returned (.int k a) = .returned (.int k b) := by rw [h]
/-- Block b is an array of the N numbers d, of type t. -/
def ArrD (t : TypeId) (w : World) (b N : Nat) (d : Row) : Prop := w.heap[b]? = some (.cells (((List.range N).map d).map iv64).toArray t (0, 0))
theorem ArrD.cell {t : TypeId} {w : World} {g n : Nat} {d : Row} (h : ArrD t w g n d) {i : Nat} (hi : i < n) : w.cell? ⟨g, i, none⟩ = some (.int .i64 (d i)) ∧ w.frozen? ⟨g, i, none⟩ = false := by
  refine ⟨?_, frozen_of_row _ _ _ _ _ h⟩
  rw [cell_of_row _ _ _ _ _ _ h, List.getElem?_toArray, List.getElem?_map, List.getElem?_map, List.getElem?_range hi]
  rfl
theorem ArrD.set {t : TypeId} {w : World} {g n : Nat} {d : Row} (h : ArrD t w g n d) {i : Nat} (hi : i < n) (x : Int) : ArrD t (w.setCell ⟨g, i, none⟩ (.int .i64 x)) g n (fun k => if k = i then x else d k) := by
  have := heap_setCell_same w g i _ _ (.int .i64 x) h
  unfold ArrD
  rw [this]
  congr 2
  apply Array.toList_inj.1
  rw [Array.toList_setIfInBounds]
  apply List.ext_getElem
  · simp
  · intro j h1 h2
    rw [List.getElem_set]
    by_cases e : i = j
    · subst e; simp [iv64]
    · rw [if_neg e]
      have : ¬ j = i := fun h => e h.symm
      simp [this]
theorem ArrD.other {t : TypeId} {w w' : World} {g n : Nat} {d : Row} (h : ArrD t w g n d) {S : Nat → Prop} (ht : Touch S w w') (hS : ¬ S g) : ArrD t w' g n d :=
  (ht.block g (Array.getElem?_eq_some_iff.1 h).1 hS).trans h
theorem ArrD.lt {t : TypeId} {w : World} {g n : Nat} {d : Row} (h : ArrD t w g n d) : g < w.heap.size := (Array.getElem?_eq_some_iff.1 h).1
/-- A variable that a closure shares: block b holds the one number x. -/
def Box (w : World) (b : Nat) (x : Int) : Prop := w.heap[b]? = some (.cells #[.int .i64 x] 3 (0, 0))
theorem Box.cell {w : World} {b : Nat} {x : Int} (h : Box w b x) : w.cell? ⟨b, 0, none⟩ = some (.int .i64 x) ∧ w.frozen? ⟨b, 0, none⟩ = false := ⟨by rw [cell_of_row _ _ _ _ _ _ h]; rfl, frozen_of_row _ _ _ _ _ h⟩
theorem Box.set {w : World} {b : Nat} {x : Int} (h : Box w b x) (y : Int) : Box (w.setCell ⟨b, 0, none⟩ (.int .i64 y)) b y := by
  have := heap_setCell_same w b 0 _ _ (.int .i64 y) h
  unfold Box
  rw [this]
  rfl
theorem Box.other {w w' : World} {b : Nat} {x : Int} (h : Box w b x) {S : Nat → Prop} (ht : Touch S w w') (hS : ¬ S b) : Box w' b x := (ht.block b (Array.getElem?_eq_some_iff.1 h).1 hS).trans h
/-- Where join's variables lie. -/
structure At where
  W : Nat
  A : Nat
  nb : Nat
  ob : Nat
  sb : Nat
  jb : Nat
  xb : Nat
  g : Nat
/-- All of them apart. -/
def At.Apart (p : At) : Prop := [p.W, p.A, p.nb, p.ob, p.sb, p.jb, p.xb, p.g].Pairwise (· ≠ ·)
/-- The trees that wait: symbols from place S of the order on, joined ones from J up to K. -/
structure Queue (p : At) (n : Nat) (D wf ab : Row) (S J K : Nat) (w : World) : Prop where
  hW : ArrD 305 w p.W 515 wf
  hA : ArrD 305 w p.A 515 ab
  hn : Box w p.nb n
  ho : w.heap[p.ob]? = some (.cells #[.slice (some ⟨p.g, 0, none⟩) n n] 28 (0, 0))
  hs : Box w p.sb S
  hj : Box w p.jb J
  hx : Box w p.xb K
  hg : RowD w p.g n D
  apart : p.Apart
/-- What the closure is bound to. -/
def At.caps (p : At) : Array Value := #[.pointer (some ⟨p.jb, 0, none⟩), .pointer (some ⟨p.xb, 0, none⟩), .pointer (some ⟨p.sb, 0, none⟩), .pointer (some ⟨p.nb, 0, none⟩), .pointer (some ⟨p.W, 0, none⟩), .pointer (some ⟨p.ob, 0, none⟩)]
section
variable {p : At} {n : Nat} {D wf ab : Row} {S J K : Nat} {w : World}
theorem Queue.touch {w' : World} (h : Queue p n D wf ab S J K w) (ht : Touch (fun _ => False) w w') : Queue p n D wf ab S J K w' :=
  ⟨h.hW.other ht (fun h => h), h.hA.other ht (fun h => h), h.hn.other ht (fun h => h), (ht.block _ (Array.getElem?_eq_some_iff.1 h.ho).1 (fun h => h)).trans h.ho, h.hs.other ht (fun h => h), h.hj.other ht (fun h => h), h.hx.other ht (fun h => h), RowD.other h.hg ht (fun h => h), h.apart⟩
theorem Queue.drewN (h : Queue p n D wf ab S J K w) (k : Nat) : Queue p n D wf ab S J K (w.drewN k) := h.touch (touch_drewN _ _ _)
/-- What is kept where only block b turns. -/
theorem Queue.keep {b : Nat} {w' : World} (h : Queue p n D wf ab S J K w) (ht : Touch (· = b) w w') :
    (p.W ≠ b → ArrD 305 w' p.W 515 wf) ∧ (p.A ≠ b → ArrD 305 w' p.A 515 ab) ∧ (p.nb ≠ b → Box w' p.nb n) ∧ (p.ob ≠ b → w'.heap[p.ob]? = some (.cells #[.slice (some ⟨p.g, 0, none⟩) n n] 28 (0, 0))) ∧
    (p.sb ≠ b → Box w' p.sb S) ∧ (p.jb ≠ b → Box w' p.jb J) ∧ (p.xb ≠ b → Box w' p.xb K) ∧ (p.g ≠ b → RowD w' p.g n D) := by
  obtain ⟨hW, hA, hn, ho, hs, hj, hx, hg, hap⟩ := h
  refine ⟨fun e => hW.other ht e, fun e => hA.other ht e, fun e => hn.other ht e, fun e => ?_, fun e => hs.other ht e, fun e => hj.other ht e, fun e => hx.other ht e, fun e => RowD.other hg ht e⟩
  exact (ht.block p.ob (Array.getElem?_eq_some_iff.1 ho).1 e).trans ho
theorem At.Apart.all (ha : p.Apart) : (p.W ≠ p.A ∧ p.W ≠ p.nb ∧ p.W ≠ p.ob ∧ p.W ≠ p.sb ∧ p.W ≠ p.jb ∧ p.W ≠ p.xb ∧ p.W ≠ p.g) ∧ (p.A ≠ p.nb ∧ p.A ≠ p.ob ∧ p.A ≠ p.sb ∧ p.A ≠ p.jb ∧ p.A ≠ p.xb ∧ p.A ≠ p.g) ∧
    (p.nb ≠ p.ob ∧ p.nb ≠ p.sb ∧ p.nb ≠ p.jb ∧ p.nb ≠ p.xb ∧ p.nb ≠ p.g) ∧ (p.ob ≠ p.sb ∧ p.ob ≠ p.jb ∧ p.ob ≠ p.xb ∧ p.ob ≠ p.g) ∧ (p.sb ≠ p.jb ∧ p.sb ≠ p.xb ∧ p.sb ≠ p.g) ∧ (p.jb ≠ p.xb ∧ p.jb ≠ p.g) ∧ p.xb ≠ p.g := by
  simp only [At.Apart, List.pairwise_cons, List.mem_cons, List.not_mem_nil, or_false, forall_eq_or_imp, forall_eq] at ha
  obtain ⟨a1, a2, a3, a4, a5, a6, a7, _⟩ := ha
  exact ⟨a1, a2, a3, a4, a5, a6, a7⟩
theorem Queue.single (h : Queue p n D wf ab S J K w) (x : Nat) : Queue p n D wf ab x J K (w.setCell ⟨p.sb, 0, none⟩ (.int .i64 x)) := by
  obtain ⟨⟨a1, a2, a3, a4, a5, a6, a7⟩, ⟨b2, b3, b4, b5, b6, b7⟩, ⟨c3, c4, c5, c6, c7⟩, ⟨d4, d5, d6, d7⟩, ⟨e5, e6, e7⟩, ⟨f6, f7⟩, g7⟩ := h.apart.all
  have ht : Touch (· = p.sb) w (w.setCell ⟨p.sb, 0, none⟩ (.int .i64 x)) := touch_cell (Touch.refl _ w)
  obtain ⟨kW, kA, kn, ko, ks, kj, kx, kg⟩ := h.keep ht
  exact ⟨kW a4, kA b4, kn c4, ko d4, h.hs.set x, kj (Ne.symm e5), kx (Ne.symm e6), kg (Ne.symm e7), h.apart⟩
theorem Queue.joined (h : Queue p n D wf ab S J K w) (x : Nat) : Queue p n D wf ab S x K (w.setCell ⟨p.jb, 0, none⟩ (.int .i64 x)) := by
  obtain ⟨⟨a1, a2, a3, a4, a5, a6, a7⟩, ⟨b2, b3, b4, b5, b6, b7⟩, ⟨c3, c4, c5, c6, c7⟩, ⟨d4, d5, d6, d7⟩, ⟨e5, e6, e7⟩, ⟨f6, f7⟩, g7⟩ := h.apart.all
  have ht : Touch (· = p.jb) w (w.setCell ⟨p.jb, 0, none⟩ (.int .i64 x)) := touch_cell (Touch.refl _ w)
  obtain ⟨kW, kA, kn, ko, ks, kj, kx, kg⟩ := h.keep ht
  exact ⟨kW a5, kA b5, kn c5, ko d5, ks e5, h.hj.set x, kx (Ne.symm f6), kg (Ne.symm f7), h.apart⟩
theorem Queue.next (h : Queue p n D wf ab S J K w) (x : Nat) : Queue p n D wf ab S J x (w.setCell ⟨p.xb, 0, none⟩ (.int .i64 x)) := by
  obtain ⟨⟨a1, a2, a3, a4, a5, a6, a7⟩, ⟨b2, b3, b4, b5, b6, b7⟩, ⟨c3, c4, c5, c6, c7⟩, ⟨d4, d5, d6, d7⟩, ⟨e5, e6, e7⟩, ⟨f6, f7⟩, g7⟩ := h.apart.all
  have ht : Touch (· = p.xb) w (w.setCell ⟨p.xb, 0, none⟩ (.int .i64 x)) := touch_cell (Touch.refl _ w)
  obtain ⟨kW, kA, kn, ko, ks, kj, kx, kg⟩ := h.keep ht
  exact ⟨kW a6, kA b6, kn c6, ko d6, ks e6, kj f6, h.hx.set x, kg (Ne.symm g7), h.apart⟩
theorem Queue.weight (h : Queue p n D wf ab S J K w) {i : Nat} (hi : i < 515) (x : Int) : Queue p n D (fun k => if k = i then x else wf k) ab S J K (w.setCell ⟨p.W, i, none⟩ (.int .i64 x)) := by
  obtain ⟨⟨a1, a2, a3, a4, a5, a6, a7⟩, ⟨b2, b3, b4, b5, b6, b7⟩, ⟨c3, c4, c5, c6, c7⟩, ⟨d4, d5, d6, d7⟩, ⟨e5, e6, e7⟩, ⟨f6, f7⟩, g7⟩ := h.apart.all
  have ht : Touch (· = p.W) w (w.setCell ⟨p.W, i, none⟩ (.int .i64 x)) := touch_cell (Touch.refl _ w)
  obtain ⟨kW, kA, kn, ko, ks, kj, kx, kg⟩ := h.keep ht
  exact ⟨h.hW.set hi x, kA (Ne.symm a1), kn (Ne.symm a2), ko (Ne.symm a3), ks (Ne.symm a4), kj (Ne.symm a5), kx (Ne.symm a6), kg (Ne.symm a7), h.apart⟩
theorem Queue.above (h : Queue p n D wf ab S J K w) {i : Nat} (hi : i < 515) (x : Int) : Queue p n D wf (fun k => if k = i then x else ab k) S J K (w.setCell ⟨p.A, i, none⟩ (.int .i64 x)) := by
  obtain ⟨⟨a1, a2, a3, a4, a5, a6, a7⟩, ⟨b2, b3, b4, b5, b6, b7⟩, ⟨c3, c4, c5, c6, c7⟩, ⟨d4, d5, d6, d7⟩, ⟨e5, e6, e7⟩, ⟨f6, f7⟩, g7⟩ := h.apart.all
  have ht : Touch (· = p.A) w (w.setCell ⟨p.A, i, none⟩ (.int .i64 x)) := touch_cell (Touch.refl _ w)
  obtain ⟨kW, kA, kn, ko, ks, kj, kx, kg⟩ := h.keep ht
  exact ⟨kW a1, h.hA.set hi x, kn (Ne.symm b2), ko (Ne.symm b3), ks (Ne.symm b4), kj (Ne.symm b5), kx (Ne.symm b6), kg (Ne.symm b7), h.apart⟩
/-- What was taken: the symbol that stands next, or the joined tree that does. -/
def Took (p : At) (n : Nat) (D wf ab : Row) (S J K : Nat) (w w' : World) (t : Int) : Prop :=
  (((J = K ∧ S < n) ∨ (S < n ∧ wf (D S).toNat ≤ wf J)) ∧ t = D S ∧ Queue p n D wf ab (S + 1) J K w' ∧ Touch (· = p.sb) w w') ∨
  (¬ J = K ∧ ¬ (S < n ∧ wf (D S).toNat ≤ wf J) ∧ t = (J : Int) ∧ Queue p n D wf ab S (J + 1) K w' ∧ Touch (· = p.jb) w w')
set_option maxRecDepth 100000 in
set_option maxHeartbeats 2000000 in
theorem least_any (h : Queue p n D wf ab S J K w) (hn : n ≤ 258) (hS : S ≤ n) (hJK : J ≤ K) (hK : K ≤ 515) (hD : Rng n D) (h0 : J = K → S < n) :
    Calls Tryz.prog 284 p.caps w fun e w' => ∃ t, e = .returned (.int .i64 t) ∧ Took p n D wf ab S J K w w' t := by
  have HQ := Lib.hid h
  obtain ⟨cj, fj⟩ := h.hj.cell
  obtain ⟨cx, fx⟩ := h.hx.cell
  obtain ⟨cs, fs⟩ := h.hs.cell
  obtain ⟨cn, fn⟩ := h.hn.cell
  have co : w.cell? ⟨p.ob, 0, none⟩ = some (.slice (some ⟨p.g, 0, none⟩) n n) := by rw [cell_of_row _ _ _ _ _ _ h.ho]; rfl
  have take_s : Hid (∀ s : Int, S < n → D S = s → ((J = K ∧ S < n) ∨ (S < n ∧ wf (D S).toNat ≤ wf J)) → ∀ q, Took p n D wf ab S J K w ((w.drewN q).setCell ⟨p.sb, 0, none⟩ (.int .i64 ((S + 1 : Nat) : Int))) s) := Lib.hid (fun s h1 h2 h3 q =>
    Or.inl ⟨h3, h2.symm, (HQ.out.drewN q).single (S + 1), touch_cell (touch_drewN _ _ q)⟩)
  have take_j : Hid (¬ J = K → ¬ (S < n ∧ wf (D S).toNat ≤ wf J) → ∀ q, Took p n D wf ab S J K w ((w.drewN q).setCell ⟨p.jb, 0, none⟩ (.int .i64 ((J + 1 : Nat) : Int))) (J : Int)) := Lib.hid (fun h1 h2 q =>
    Or.inr ⟨h1, h2, rfl, (HQ.out.drewN q).joined (J + 1), touch_cell (touch_drewN _ _ q)⟩)
  have hcs : Hid (∀ q (x : Int), ((w.drewN q).setCell ⟨p.sb, 0, none⟩ (.int .i64 x)).cell? ⟨p.ob, 0, none⟩ = some (.slice (some ⟨p.g, 0, none⟩) n n) ∧ ((w.drewN q).setCell ⟨p.sb, 0, none⟩ (.int .i64 x)).cell? ⟨p.sb, 0, none⟩ = some (.int .i64 x)) := Lib.hid (fun q x => by
    have hap := HQ.out.apart.all
    have ht : Touch (· = p.sb) w ((w.drewN q).setCell ⟨p.sb, 0, none⟩ (.int .i64 x)) := touch_cell (touch_drewN _ _ q)
    refine ⟨?_, ((HQ.out.drewN q).hs.set x).cell.1⟩
    rw [cell_of_row _ _ _ _ _ _ ((ht.block _ (Array.getElem?_eq_some_iff.1 HQ.out.ho).1 (fun e => by have e' : p.ob = p.sb := e; omega)).trans HQ.out.ho)]
    rfl)
  have hrow : S < n → ∃ s : Nat, D S = (s : Int) ∧ s < n ∧ w.cell? ⟨p.g, S, none⟩ = some (.int .i64 (s : Int)) ∧ w.cell? ⟨p.W, s, none⟩ = some (.int .i64 (wf s)) := fun hSn => by
    obtain ⟨h1, h2⟩ := hD S hSn
    obtain ⟨s, hs⟩ := Int.eq_ofNat_of_zero_le h1
    have h3 := (h.hg.cell hSn).1
    rw [hs] at h3 h2
    exact ⟨s, hs, by omega, h3, (h.hW.cell (show s < 515 by omega)).1⟩
  have HR := Lib.hid hrow
  have HWC : Hid (∀ i, i < 515 → w.cell? ⟨p.W, i, none⟩ = some (.int .i64 (wf i))) := Lib.hid (fun i hi => (h.hW.cell hi).1)
  have hgo : Hid (∀ q x, S < n → ∀ s : Int, D S = s → ((w.drewN q).setCell ⟨p.sb, 0, none⟩ (.int .i64 x)).cell? ⟨p.g, S, none⟩ = some (.int .i64 s)) := Lib.hid (fun q x hSn s hs => by
    have hap := HQ.out.apart.all
    have ht : Touch (· = p.sb) w ((w.drewN q).setCell ⟨p.sb, 0, none⟩ (.int .i64 x)) := touch_cell (touch_drewN _ _ q)
    rw [← hs]
    exact (RowD.cell (RowD.other HQ.out.hg ht (fun e => by have e' : p.g = p.sb := e; omega)) hSn).1)
  have hcj : Hid (∀ q (x : Int), ((w.drewN q).setCell ⟨p.jb, 0, none⟩ (.int .i64 x)).cell? ⟨p.jb, 0, none⟩ = some (.int .i64 x)) := Lib.hid (fun q x => ((HQ.out.drewN q).hj.set x).cell.1)
  have hS1 : (S : Int) + 1 = ((S + 1 : Nat) : Int) := by omega
  have hJ1 : (J : Int) + 1 = ((J + 1 : Nat) : Int) := by omega
  have HS1 := Lib.hid hS1
  have HJ1 := Lib.hid hJ1
  have HH0 := Lib.hid h0
  clear h hrow hD h0 hS1 hJ1
  unfold At.caps
  have hSI : (S : Int) + 1 - 1 = (S : Int) := by omega
  have hJI : (J : Int) + 1 - 1 = (J : Int) := by omega
  by_cases e : J = K
  · have hSn := HH0.out e
    obtain ⟨s, hs1, hs2, c1, c2⟩ := HR.out hSn
    have HS := Lib.hid hs1
    have HSN := Lib.hid hSn
    have hje : ((J : Int) == (K : Int)) = true := by rw [beq_iff_eq]; omega
    have HE := Lib.hid e
    have hSn2 : (S : Int) < (n : Int) := by omega
    clear e hs1
    go_enter Tryz.func284, Tryz.ntmps284
    go_wp2_with fail
    go_quiet (fail)
    have k1 := fun q x => (hcs.out q x).1
    have k2 := fun q x => (hcs.out q x).2
    have k3 := fun q x => hgo.out q x HSN.out _ HS.out
    go_wp2_with fail
    go_ret
    refine ⟨_, rfl, ?_⟩
    have := HS1.out
    rw [this]
    exact take_s.out _ HSN.out HS.out (Or.inl ⟨HE.out, HSN.out⟩) _
  · have hje : ((J : Int) == (K : Int)) = false := by rw [beq_eq_false_iff_ne]; omega
    have HE := Lib.hid e
    have hJ515 : J < 515 := by omega
    have hJ5 : (J : Int) < 515 := by omega
    have c3 := HWC.out J hJ515
    clear e
    by_cases hSn : S < n
    · obtain ⟨s, hs1, hs2, c1, c2⟩ := HR.out hSn
      have HS := Lib.hid hs1
      have HSN := Lib.hid hSn
      have hSn2 : (S : Int) < (n : Int) := by omega
      have hs5 : (s : Int) < 515 := by omega
      obtain ⟨X, hX⟩ : ∃ X, wf s = X := ⟨_, rfl⟩
      obtain ⟨Y, hY⟩ : ∃ Y, wf J = Y := ⟨_, rfl⟩
      rw [hX] at c2
      rw [hY] at c3
      have HX := Lib.hid hX
      have HY := Lib.hid hY
      have HW : Hid (wf (D S).toNat = X) := Lib.hid (by rw [hs1, Int.toNat_natCast]; exact hX)
      clear hs1 hX hY
      by_cases hle : X ≤ Y
      · have HLE := Lib.hid hle
        go_enter Tryz.func284, Tryz.ntmps284
        go_wp2_with fail
        go_quiet (fail)
        have k1 := fun q x => (hcs.out q x).1
        have k2 := fun q x => (hcs.out q x).2
        have k3 := fun q x => hgo.out q x HSN.out _ HS.out
        go_wp2_with fail
        go_ret
        refine ⟨_, rfl, ?_⟩
        have := HS1.out
        rw [this]
        exact take_s.out _ HSN.out HS.out (Or.inr ⟨HSN.out, by rw [HW.out, HY.out]; exact HLE.out⟩) _
      · have HLE := Lib.hid hle
        have hle2 : decide (X ≤ Y) = false := by simp only [decide_eq_false_iff_not]; exact hle
        go_enter Tryz.func284, Tryz.ntmps284
        go_wp2_with fail
        go_quiet (fail)
        have k1 := fun q x => hcj.out q x
        go_wp2_with fail
        go_ret
        refine ⟨_, ints_inj (show _ = (J : Int) by omega), ?_⟩
        have := HJ1.out
        rw [this]
        exact take_j.out HE.out (fun h => absurd h.2 (by rw [HW.out, HY.out]; have := HLE.out; omega)) _
    · have hSn2 : decide ((S : Int) < (n : Int)) = false := by simp only [decide_eq_false_iff_not]; omega
      have HSN := Lib.hid hSn
      go_enter Tryz.func284, Tryz.ntmps284
      go_wp2_with fail
      go_quiet (fail)
      have k1 := fun q x => hcj.out q x
      go_wp2_with fail
      go_ret
      refine ⟨_, ints_inj (show _ = (J : Int) by omega), ?_⟩
      have := HJ1.out
      rw [this]
      exact take_j.out HE.out (fun h => HSN.out h.1) _
end
end Go.Proofs.YtojphcoghbiepaaGreatDoor
namespace Go.Proofs.YtojphcoghbiepaaGreatDoor
namespace HufM
open Go.RowKit SymM
set_option linter.unusedVariables false
def tr (wf : Row) (t : Nat) : Tr := ((wf t).toNat, t)
/-- The symbols that wait, from place S of their order on. -/
def qA (wf D : Row) (n S : Nat) : List Tr := (List.range (n - S)).map fun i => tr wf (D (S + i)).toNat
/-- The joined trees that wait. -/
def qB (wf : Row) (K J : Nat) : List Tr := (List.range (K - J)).map fun i => tr wf (J + i)
theorem range_map_cons {α : Type} (f : Nat → α) (m : Nat) : (List.range (m + 1)).map f = f 0 :: (List.range m).map (fun i => f (i + 1)) := by
  rw [List.range_succ_eq_map, List.map_cons, List.map_map]; rfl
theorem qA_cons (wf D : Row) {n S : Nat} (h : S < n) : qA wf D n S = tr wf (D S).toNat :: qA wf D n (S + 1) := by
  unfold qA
  rw [show n - S = (n - (S + 1)) + 1 by omega, range_map_cons]
  congr 1
  apply List.map_congr_left
  intro i _
  rw [show S + (i + 1) = S + 1 + i by omega]
theorem qA_nil (wf D : Row) {n S : Nat} (h : n ≤ S) : qA wf D n S = [] := by
  unfold qA; rw [show n - S = 0 by omega]; rfl
theorem qB_cons (wf : Row) {K J : Nat} (h : J < K) : qB wf K J = tr wf J :: qB wf K (J + 1) := by
  unfold qB
  rw [show K - J = (K - (J + 1)) + 1 by omega, range_map_cons]
  congr 1
  apply List.map_congr_left
  intro i _
  rw [show J + (i + 1) = J + 1 + i by omega]
theorem qB_nil (wf : Row) {K J : Nat} (h : K ≤ J) : qB wf K J = [] := by
  unfold qB; rw [show K - J = 0 by omega]; rfl
theorem qB_snoc (wf : Row) {K J : Nat} (h : J ≤ K) : qB wf (K + 1) J = qB wf K J ++ [tr wf K] := by
  unfold qB
  rw [show K + 1 - J = (K - J) + 1 by omega, List.range_succ, List.map_append, List.map_cons, List.map_nil, show J + (K - J) = K by omega]
/-- Which tree is taken, and what waits then. -/
def TookM (n : Nat) (D wf : Row) (S J K : Nat) (t : Int) (S1 J1 : Nat) : Prop :=
  (((J = K ∧ S < n) ∨ (S < n ∧ wf (D S).toNat ≤ wf J)) ∧ t = D S ∧ S1 = S + 1 ∧ J1 = J) ∨
  (¬ J = K ∧ ¬ (S < n ∧ wf (D S).toNat ≤ wf J) ∧ t = (J : Int) ∧ S1 = S ∧ J1 = J + 1)
theorem pick_took {n : Nat} {D wf : Row} {S J K : Nat} {t : Int} {S1 J1 : Nat} (hS : S ≤ n) (hJK : J ≤ K) (h0 : J = K → S < n) (hD : ∀ k, k < n → 0 ≤ D k ∧ D k < (n : Int)) (hnJ : n ≤ J)
    (hpos : ∀ i, i < K → 0 ≤ wf i) (h : TookM n D wf S J K t S1 J1) :
    ∃ t', t = ((t' : Nat) : Int) ∧ t' < K ∧ pick (qA wf D n S) (qB wf K J) = some (tr wf t', qA wf D n S1, qB wf K J1) ∧ S1 ≤ n ∧ J1 ≤ K ∧ S ≤ S1 ∧ J ≤ J1 ∧ S1 + J1 = S + J + 1 ∧
      ((S1 = S + 1 ∧ J1 = J ∧ (D S).toNat = t' ∧ S < n) ∨ (S1 = S ∧ J1 = J + 1 ∧ t' = J ∧ J < K)) := by
  rcases h with ⟨hc, rfl, hs, hj⟩ | ⟨h1, h2, rfl, hs, hj⟩
  · obtain rfl := hs.symm
    obtain rfl := hj.symm
    have hSn : S < n := by rcases hc with h | h; exact h.2; exact h.1
    have hd := hD S hSn
    refine ⟨(D S).toNat, by omega, by omega, ?_, hSn, hJK, by omega, by omega, by omega, Or.inl ⟨rfl, rfl, rfl, hSn⟩⟩
    rw [qA_cons wf D hSn]
    by_cases e : J = K
    · rw [qB_nil wf (by omega)]; rfl
    · rw [qB_cons wf (show J < K by omega)]
      have hle : wf (D S).toNat ≤ wf J := by rcases hc with h | h; exact absurd h.1 e; exact h.2
      have := hpos (D S).toNat (by omega)
      simp only [pick]
      rw [if_pos (show (tr wf (D S).toNat).1 ≤ (tr wf J).1 by unfold tr; simp only; omega)]
  · obtain rfl := hs.symm
    obtain rfl := hj.symm
    refine ⟨J, rfl, by omega, ?_, hS, by omega, by omega, by omega, by omega, Or.inr ⟨rfl, rfl, rfl, by omega⟩⟩
    rw [qB_cons wf (show J < K by omega)]
    by_cases hSn : S < n
    · rw [qA_cons wf D hSn]
      have hd := hD S hSn
      have p1 := hpos (D S).toNat (by omega)
      have p2 := hpos J (by omega)
      have h3 : ¬ wf (D S).toNat ≤ wf J := fun h => h2 ⟨hSn, h⟩
      simp only [pick]
      rw [if_neg (show ¬ (tr wf (D S).toNat).1 ≤ (tr wf J).1 by unfold tr; simp only; omega)]
    · rw [qA_nil wf D (by omega)]; rfl
/-- How far the trees are joined: d are the depths. -/
structure JS (zs : List Int) (D wf ab : Row) (d : Nat → Nat) (S J K : Nat) : Prop where
  run0 : Run zs.length (ini zs) d
  rng : ∀ k, k < zs.length → 0 ≤ D k ∧ D k < (zs.length : Int)
  all : ∀ t, t < zs.length → ∃ i, i < zs.length ∧ D i = (t : Int)
  hS : S ≤ zs.length
  hJ : zs.length ≤ J
  hJK : J ≤ K
  hK : K + 1 ≤ 2 * zs.length
  cnt : 2 * K = zs.length + S + J
  pos : ∀ i, i < K → 0 ≤ wf i
  run : Run K (qA wf D zs.length S ++ qB wf K J) d
  two : Two zs.length K (qA wf D zs.length S) (qB wf K J)
  tot : sumN wt (qA wf D zs.length S ++ qB wf K J) = sumN wt (ini zs)
  doneA : ∀ i, i < S → ∃ u, ab (D i).toNat = ((u : Nat) : Int) ∧ (D i).toNat < u ∧ u < K ∧ d (D i).toNat = d u + 1
  doneB : ∀ t, zs.length ≤ t → t < J → ∃ u, ab t = ((u : Nat) : Int) ∧ t < u ∧ u < K ∧ d t = d u + 1
theorem qA_congr {wf wf' D : Row} {n S : Nat} (hD : ∀ k, k < n → 0 ≤ D k ∧ D k < (n : Int)) (h : ∀ i, i < n → wf' i = wf i) : qA wf' D n S = qA wf D n S := by
  unfold qA
  apply List.map_congr_left
  intro i hi
  have := List.mem_range.1 hi
  have hd := hD (S + i) (by omega)
  unfold tr
  rw [h _ (by omega)]
theorem qB_congr {wf wf' : Row} {K J : Nat} (h : ∀ i, i < K → wf' i = wf i) : qB wf' K J = qB wf K J := by
  unfold qB
  apply List.map_congr_left
  intro i hi
  have := List.mem_range.1 hi
  unfold tr
  rw [h _ (by omega)]
/-- Two trees are taken and joined. -/
theorem JS.step {zs : List Int} {D wf ab : Row} {d : Nat → Nat} {S J K S1 J1 S2 J2 : Nat} {a b : Int} (h : JS zs D wf ab d S J K) (hK : K + 1 < 2 * zs.length)
    (h1 : TookM zs.length D wf S J K a S1 J1) (h2 : TookM zs.length D wf S1 J1 K b S2 J2) :
    ∃ x y : Nat, a = x ∧ b = y ∧ x < K ∧ y < K ∧ x ≠ y ∧ (wf x).toNat + (wf y).toNat ≤ sumN wt (ini zs) ∧
      JS zs D (fun k => if k = K then wf x + wf y else wf k) (fun k => if k = y then (K : Int) else (fun k => if k = x then (K : Int) else ab k) k) d S2 J2 (K + 1) := by
  obtain ⟨run0, rng, all, hS, hJ, hJK, hK1, cnt, pos, run, two, tot, doneA, doneB⟩ := h
  obtain ⟨x, ex, hxK, p1, q1, q2, q3, q4, q5, q6⟩ := pick_took hS hJK (fun e => by omega) rng hJ pos h1
  obtain ⟨y, ey, hyK, p2, r1, r2, r3, r4, r5, r6⟩ := pick_took q1 q2 (fun e => by omega) rng (by omega) pos h2
  obtain ⟨t2, hp, hxy, hr⟩ := Two.join two (by omega) p1 p2
  obtain ⟨run', dx, dy⟩ := run.next hp hxy hr
  have hne : x ≠ y := fun e => by subst e; unfold lt tr at hxy; simp only at hxy; omega
  have hsum : sumN wt (qA wf D zs.length S ++ qB wf K J) = (wf x).toNat + ((wf y).toNat + sumN wt (qA wf D zs.length S2 ++ qB wf K J2)) := by
    rw [sumN_perm wt hp]; rfl
  have px := pos x hxK
  have py := pos y hyK
  have ew : (wf x + wf y).toNat = (wf x).toNat + (wf y).toNat := by omega
  have eA : qA (fun k => if k = K then wf x + wf y else wf k) D zs.length S2 = qA wf D zs.length S2 := qA_congr rng (fun i hi => if_neg (by omega))
  have eB : qB (fun k => if k = K then wf x + wf y else wf k) (K + 1) J2 = qB wf K J2 ++ [((wf x).toNat + (wf y).toNat, K)] := by
    rw [qB_snoc _ r2, qB_congr (wf := wf) (fun i hi => if_neg (by omega))]
    unfold tr
    simp only [if_true]
    rw [ew]
  have hdx : d x = d K + 1 := dx
  have hdy : d y = d K + 1 := dy
  refine ⟨x, y, ex, ey, hxK, hyK, hne, by omega, ⟨run0, rng, all, r1, by omega, by omega, by omega, by omega, fun i hi => ?_, ?_, ?_, ?_, fun i hi => ?_, fun t ht1 ht2 => ?_⟩⟩
  · show (0 : Int) ≤ if i = K then wf x + wf y else wf i
    split
    · omega
    · exact pos i (by omega)
  · rw [eA, eB, ← List.append_assoc]
    exact run'.perm (List.perm_append_singleton _ _).symm
  · rw [eA, eB]; exact t2
  · rw [eA, eB, ← List.append_assoc, sumN_append, ← tot, hsum]
    simp only [sumN, wt]
    omega
  · have hd := rng i (by omega)
    by_cases e1 : (D i).toNat = y
    · exact ⟨K, by simp only [e1, if_true], by omega, by omega, by rw [e1]; exact hdy⟩
    · by_cases e2 : (D i).toNat = x
      · exact ⟨K, by simp only [e2, if_true]; split <;> rfl, by omega, by omega, by rw [e2]; exact hdx⟩
      · have hi2 : i < S := by
          rcases Nat.lt_or_ge i S with g | g
          · exact g
          · exfalso
            rcases q6 with ⟨a1, a2, a3, a4⟩ | ⟨a1, a2, a3, a4⟩
            · rcases r6 with ⟨b1, b2, b3, b4⟩ | ⟨b1, b2, b3, b4⟩
              · rcases Nat.lt_or_ge i (S + 1) with g2 | g2
                · have : i = S := by omega
                  subst this; exact e2 a3
                · have : i = S1 := by omega
                  subst this; exact e1 b3
              · have : i = S := by omega
                subst this; exact e2 a3
            · rcases r6 with ⟨b1, b2, b3, b4⟩ | ⟨b1, b2, b3, b4⟩
              · have : i = S1 := by omega
                subst this; exact e1 b3
              · omega
        obtain ⟨u, u1, u2, u3, u4⟩ := doneA i hi2
        exact ⟨u, by simp only [e1, e2, if_false]; exact u1, u2, by omega, u4⟩
  · by_cases e1 : t = y
    · subst e1; exact ⟨K, by simp only [if_true], by omega, by omega, hdy⟩
    · by_cases e2 : t = x
      · subst e2; exact ⟨K, by simp only [if_true]; split <;> rfl, by omega, by omega, hdx⟩
      · have ht3 : t < J := by
          rcases Nat.lt_or_ge t J with g | g
          · exact g
          · exfalso
            rcases q6 with ⟨a1, a2, a3, a4⟩ | ⟨a1, a2, a3, a4⟩
            · rcases r6 with ⟨b1, b2, b3, b4⟩ | ⟨b1, b2, b3, b4⟩ <;> omega
            · rcases r6 with ⟨b1, b2, b3, b4⟩ | ⟨b1, b2, b3, b4⟩ <;> omega
        obtain ⟨u, u1, u2, u3, u4⟩ := doneB t ht1 ht3
        exact ⟨u, by simp only [e1, e2, if_false]; exact u1, u2, by omega, u4⟩
/-- What is told of each tree: which one it came to be a part of. -/
def JoinP (zs : List Int) (ab : Row) : Prop := ∃ d, Run zs.length (ini zs) d ∧ d (2 * zs.length - 2) = 0 ∧ ∀ t, t < 2 * zs.length - 2 → ∃ u : Nat, ab t = (u : Int) ∧ t < u ∧ u ≤ 2 * zs.length - 2 ∧ d t = d u + 1
theorem JS.end_ {zs : List Int} {D wf ab : Row} {d : Nat → Nat} {S J K : Nat} (h : JS zs D wf ab d S J K) (hn2 : 2 ≤ zs.length) (hK : 2 * zs.length ≤ K + 1) : JoinP zs ab := by
  obtain ⟨run0, rng, all, hS, hJ, hJK, hK1, cnt, pos, run, two, tot, doneA, doneB⟩ := h
  have hJ2 : J < K := by
    rcases Nat.lt_or_ge J K with g | g
    · exact g
    · exfalso
      rcases Nat.lt_or_ge (2 * zs.length - 2) zs.length with g2 | g2
      · omega
      · obtain ⟨u, u1, u2, u3, u4⟩ := doneB (2 * zs.length - 2) g2 (by omega)
        omega
  have hS2 : S = zs.length := by omega
  have e : qA wf D zs.length S ++ qB wf K J = [tr wf J] := by
    rw [qA_nil wf D (by omega), qB_cons wf hJ2, qB_nil wf (by omega)]; rfl
  rw [e] at run
  have h0 := run.end_
  refine ⟨d, run0, ?_, fun t ht => ?_⟩
  · have : 2 * zs.length - 2 = J := by omega
    rw [this]; exact h0
  · by_cases htn : t < zs.length
    · obtain ⟨i, hi, hd⟩ := all t htn
      obtain ⟨u, u1, u2, u3, u4⟩ := doneA i (by omega)
      rw [hd, Int.toNat_natCast] at u1 u2 u4
      exact ⟨u, u1, u2, by omega, u4⟩
    · obtain ⟨u, u1, u2, u3, u4⟩ := doneB t (by omega) (by omega)
      exact ⟨u, u1, u2, by omega, u4⟩
theorem JS.start {zs : List Int} {D wf ab : Row} (h2 : 2 ≤ zs.length) (hz : ∀ z ∈ zs, 0 ≤ z) (hB : Blk (wtOf zs) D 0 zs.length) (hwf : ∀ i, i < zs.length → wf i = zs.getD i 0) :
    ∃ d, JS zs D wf ab d 0 zs.length zs.length := by
  obtain ⟨d, hd⟩ := Run.exists (zs.length - 1) zs.length (ini zs) (by rw [ini_len]; omega) (ini_dis zs) (fun t ht => (ini_mem ht).1)
  have rng : ∀ k, k < zs.length → 0 ≤ D k ∧ D k < (zs.length : Int) := fun k hk => by have := hB.mem (Nat.zero_le k) hk; omega
  have hpos : ∀ i, i < zs.length → 0 ≤ wf i := fun i hi => by
    rw [hwf i hi, List.getD_eq_getElem?_getD, List.getElem?_eq_getElem hi]
    exact hz _ (List.getElem_mem hi)
  have eA : qA wf D zs.length 0 = (seg D 0 zs.length).map (fun x => ((zs.getD x.toNat 0).toNat, x.toNat)) := by
    unfold qA seg
    rw [List.map_map, Nat.sub_zero]
    apply List.map_congr_left
    intro i hi
    have hi := List.mem_range.1 hi
    have := rng (0 + i) (by omega)
    unfold tr
    rw [hwf _ (by omega)]
    rfl
  have eI : ini zs = (seg (fun k => (k : Int)) 0 zs.length).map (fun x => ((zs.getD x.toNat 0).toNat, x.toNat)) := by
    unfold ini seg
    rw [List.map_map]
    apply List.map_congr_left
    intro i _
    simp
  have hperm : (qA wf D zs.length 0).Perm (ini zs) := by
    rw [eA, eI]
    have := hB.perm
    rw [Nat.sub_zero] at this
    exact this.map _
  have hsrt : (qA wf D zs.length 0).Pairwise lt := by
    unfold qA
    rw [List.pairwise_map]
    refine List.pairwise_lt_range.imp_of_mem (fun {i j} hi hj hij => ?_)
    have hi := List.mem_range.1 hi
    have hj := List.mem_range.1 hj
    have h3 := hB.srt (0 + i) (0 + j) (by omega) (by omega) (by omega)
    have r1 := rng (0 + i) (by omega)
    have r2 := rng (0 + j) (by omega)
    have e1 := hwf (D (0 + i)).toNat (by omega)
    have e2 := hwf (D (0 + j)).toNat (by omega)
    have p1 := hpos (D (0 + i)).toNat (by omega)
    have p2 := hpos (D (0 + j)).toNat (by omega)
    unfold L wtOf at h3
    unfold lt tr
    simp only
    omega
  have eB : qB wf zs.length zs.length = [] := qB_nil wf (Nat.le_refl _)
  refine ⟨d, ⟨hd, rng, fun t ht => ?_, Nat.zero_le _, Nat.le_refl _, Nat.le_refl _, by omega, by omega, hpos, ?_, ?_, ?_, fun i hi => by omega, fun t h1 h2 => by omega⟩⟩
  · have h3 : (t : Int) ∈ seg D 0 (zs.length - 0) := hB.perm.mem_iff.2 (seg_mem.2 ⟨t, Nat.zero_le _, by omega, rfl⟩)
    obtain ⟨k, h4, h5, h6⟩ := seg_mem.1 h3
    exact ⟨k, by omega, h6⟩
  · rw [eB, List.append_nil]; exact hd.perm hperm.symm
  · rw [eB]
    exact Two.start hsrt (fun t ht => (ini_mem (hperm.mem_iff.1 ht)).1)
  · rw [eB, List.append_nil]; exact sumN_perm wt hperm
/-- Depths, read from the last tree down. -/
theorem JoinP.dep {zs : List Int} {ab : Row} (h : JoinP zs ab) : ∃ d : Nat → Nat, DepP zs ((List.range zs.length).map fun i => (d i : Int)) ∧ d (2 * zs.length - 2) = 0 ∧ (∀ t, t ≤ 2 * zs.length - 2 → d t ≤ 2 * zs.length) ∧
    ∀ t, t < 2 * zs.length - 2 → ∃ u : Nat, ab t = (u : Int) ∧ t < u ∧ u ≤ 2 * zs.length - 2 ∧ d t = d u + 1 := by
  obtain ⟨d, h1, h2, h3⟩ := h
  refine ⟨d, ⟨d, h1, rfl⟩, h2, ?_, h3⟩
  have key : ∀ e t, t + e = 2 * zs.length - 2 → d t ≤ e := by
    intro e
    induction e using Nat.strongRecOn with
    | _ e ih =>
      intro t ht
      by_cases e0 : e = 0
      · subst e0
        have : t = 2 * zs.length - 2 := by omega
        subst this; omega
      · obtain ⟨u, u1, u2, u3, u4⟩ := h3 t (by omega)
        have := ih (2 * zs.length - 2 - u) (by omega) u (by omega)
        omega
  intro t ht
  have := key (2 * zs.length - 2 - t) t (by omega)
  omega
end HufM
end Go.Proofs.YtojphcoghbiepaaGreatDoor
namespace Go.Proofs.YtojphcoghbiepaaGreatDoor
open Go.RowKit SymM HufM
set_option linter.unusedVariables false
theorem Took.math {p : At} {n : Nat} {D wf ab : Row} {S J K : Nat} {w w' : World} {t : Int} (h : Took p n D wf ab S J K w w' t) :
    ∃ S1 J1, TookM n D wf S J K t S1 J1 ∧ Queue p n D wf ab S1 J1 K w' ∧ Touch (fun k => k = p.sb ∨ k = p.jb) w w' := by
  rcases h with ⟨h1, h2, h3, h4⟩ | ⟨h1, h2, h3, h4, h5⟩
  · exact ⟨S + 1, J, Or.inl ⟨h1, h2, rfl, rfl⟩, h3, h4.mono (fun i hi => Or.inl hi)⟩
  · exact ⟨S, J + 1, Or.inr ⟨h1, h2, h3, rfl, rfl⟩, h4, h5.mono (fun i hi => Or.inr hi)⟩
/-- A builtin copy whose run is known. -/
theorem wpList_copyRun' {P : Program} {ops : Array Oper} {rest : List Oper} {o : Oper} {a : Act} {w : World} {Q : Exit → Act → World → Prop} (hgd : o.guard = none) (d s : Operand) (t t' : TypeId)
    (ho : o.op = .call { callee := .builtin .copy, args := #[d, s], argTypes := #[t, t'] }) (v u : Value) (hd : a.eval d = v) (hs : a.eval s = u) {v' : Value} {w' : World}
    (hr : (Builtin.copy_ #[t, t'] o.type #[v, u]).run P w = .ok v' w') (h : wpList P ops Q rest (a.put o.dst v') w') : wpList P ops Q (o :: rest) a w :=
  wpList_plain hgd fun K hK => by
    unfold Oper.wp execOp
    simp only [ho, resolve, invoke, builtin, Sem.run_bind, Sem.run_pure, Result.andThen_ok, List.map_toArray, List.map_cons, List.map_nil, hd, hs, hr]
    exact hK _ _ h
def boxN (w : World) (b : Nat) : Nat := match w.cell? ⟨b, 0, none⟩ with
  | some (.int _ x) => x.toNat
  | _ => 0
def rowA (N : Nat) (d : Row) : Array Value := (((List.range N).map d).map iv64).toArray
theorem rowA_size (N : Nat) (d : Row) : (rowA N d).size = N := by simp [rowA]
theorem rowA_cells (N : Nat) (d : Row) : (rowA N d).all (·.oneCell') = true := by
  rw [Array.all_eq_true]
  intro i h
  simp [rowA, iv64, Value.oneCell']
theorem zero515 : Tryz.zeroCells305 = rowA 515 (fun _ => 0) := by kernel_rfl
theorem info515 (d : Row) : (Tryz.prog.info? 305).map (·.size) = some (rowA 515 d).size := by rw [rowA_size]; kernel_rfl
/-- The weights of symbols, and 0 behind them. -/
def wf0 (zs : List Int) : Row := fun i => zs.getD i 0
theorem wf0_row (M : Nat) (zs : List Int) (h : zs.length ≤ M) : (((rowA M (fun _ => 0)).toList.take 0 ++ zs.map iv64 ++ (rowA M (fun _ => 0)).toList.drop (0 + (zs.map iv64).length)).toArray) = rowA M (wf0 zs) := by
  apply Array.toList_inj.1
  show (((List.range M).map (fun _ => (0 : Int))).map iv64).take 0 ++ zs.map iv64 ++ (((List.range M).map (fun _ => (0 : Int))).map iv64).drop (0 + (zs.map iv64).length) = ((List.range M).map (wf0 zs)).map iv64
  rw [List.take_zero, List.nil_append, Nat.zero_add, List.length_map, ← List.map_drop, ← List.map_append]
  congr 1
  apply List.ext_getElem
  · simp; omega
  · intro i h1 h2
    rw [List.getElem_map, List.getElem_range]
    unfold wf0
    by_cases hi : i < zs.length
    · rw [List.getElem_append_left hi, List.getD_eq_getElem?_getD, List.getElem?_eq_getElem hi]; rfl
    · rw [List.getElem_append_right (by omega), List.getD_eq_getElem?_getD, List.getElem?_eq_none (by omega)]
      simp
theorem copy_weights (W : World) (g ty : Nat) (a : Option Addr) (cap : Nat) (zs : List Int) (hv : IsInts W (.slice a zs.length cap) zs) (h1 : 1 ≤ zs.length) (hz : zs.length ≤ 515) (hg : W.heap[g]? = some (.cells (rowA 515 (fun _ => 0)) 305 (0, 0))) :
    (Builtin.copy_ #[28, 28] ty #[.slice (some ⟨g, 0, none⟩) 515 515, .slice a zs.length cap]).run Tryz.prog W = .ok (goInt zs.length) (W.setRow g (rowA 515 (wf0 zs))) := by
  obtain ⟨b, off, k, he, _⟩ := hv.cell (show 0 < zs.length by omega)
  simp only [Value.slice.injEq] at he
  obtain ⟨rfl, _, rfl⟩ := he
  have := run_copy_row (P := Tryz.prog) W 28 28 ty 3 g 0 515 515 ⟨b, off, none⟩ zs.length cap (rowA 515 (fun _ => 0)) 305 (zs.map iv64) Tryz.underlying28 (by kernel_rfl) hg (by rw [List.length_map]; exact (Nat.min_eq_left hz).symm) (fun j v hj => by
    rw [List.getElem?_map] at hj
    obtain ⟨x, hx, rfl⟩ := Option.map_eq_some_iff.1 hj
    obtain ⟨a2, cap2, h2, h3⟩ := hv
    obtain ⟨b3, o3, h4, h5⟩ := h3 j x hx
    simp only [Value.slice.injEq] at h2
    rw [← h2.1] at h4
    simp only [Option.some.injEq, Addr.mk.injEq] at h4
    obtain ⟨rfl, rfl, _⟩ := h4
    rw [Addr.add_lit]
    exact h5) (by rw [List.length_map, rowA_size]; omega) (fun v hv => by
    obtain ⟨x, _, rfl⟩ := List.mem_map.1 hv
    rfl)
  rw [wf0_row 515 zs hz, List.length_map] at this
  exact this
/-- What lies there behind the copy of the weights. -/
structure Laid (N : Nat) (zs : List Int) (v : Value) (w W : World) : Prop where
  r : ArrD 305 W N 515 (fun _ => 0)
  wt : ArrD 305 W (N + 1) 515 (wf0 zs)
  ab : ArrD 305 W (N + 1 + 1) 515 (fun _ => 0)
  size : W.heap.size = N + 1 + 1 + 1
  bel : Below N w W
  ints : IsInts W v zs
theorem laid_of (w : World) (zs : List Int) (v : Value) (hv : IsInts w v zs) : Laid w.heap.size zs v w ((((w.alloc (.cells (rowA 515 (fun _ => 0)) 305)).alloc (.cells (rowA 515 (fun _ => 0)) 305)).alloc (.cells (rowA 515 (fun _ => 0)) 305)).setRow (w.heap.size + 1) (rowA 515 (wf0 zs))) ∧
    (((w.alloc (.cells (rowA 515 (fun _ => 0)) 305)).alloc (.cells (rowA 515 (fun _ => 0)) 305)).alloc (.cells (rowA 515 (fun _ => 0)) 305)).heap[w.heap.size + 1]? = some (.cells (rowA 515 (fun _ => 0)) 305 (0, 0)) ∧
    IsInts (((w.alloc (.cells (rowA 515 (fun _ => 0)) 305)).alloc (.cells (rowA 515 (fun _ => 0)) 305)).alloc (.cells (rowA 515 (fun _ => 0)) 305)) v zs := by
  generalize hO : Obj.cells (rowA 515 (fun _ => 0)) 305 (0, 0) = O
  have s1 : (w.alloc O).heap.size = w.heap.size + 1 := by simp
  have s2 : ((w.alloc O).alloc O).heap.size = w.heap.size + 1 + 1 := by simp
  have s3 : (((w.alloc O).alloc O).alloc O).heap.size = w.heap.size + 1 + 1 + 1 := by simp
  have b1 : Below w.heap.size w (((w.alloc O).alloc O).alloc O) := (((Below.refl _ w).alloc (Nat.le_refl _) O).alloc (by rw [s1]; omega) O).alloc (by rw [s2]; omega) O
  have h0 : (((w.alloc O).alloc O).alloc O).heap[w.heap.size]? = some O := by
    rw [Below.heap_alloc _ O _ (by rw [s2]; omega), Below.heap_alloc _ O _ (by rw [s1]; omega)]
    exact heap_alloc_new w O
  have h1 : (((w.alloc O).alloc O).alloc O).heap[w.heap.size + 1]? = some O := by
    rw [Below.heap_alloc _ O _ (by rw [s2]; omega)]
    have := heap_alloc_new (w.alloc O) O
    rw [s1] at this
    exact this
  have h2 : (((w.alloc O).alloc O).alloc O).heap[w.heap.size + 1 + 1]? = some O := by
    have := heap_alloc_new ((w.alloc O).alloc O) O
    rw [s2] at this
    exact this
  have hi := hv.below b1
  subst hO
  refine ⟨⟨?_, ?_, ?_, ?_, ?_, ?_⟩, h1, hi⟩
  · exact (setRow_other _ (w.heap.size + 1) w.heap.size _ (by omega)).trans h0
  · exact setRow_heap _ _ _ _ _ _ h1
  · exact (setRow_other _ (w.heap.size + 1) (w.heap.size + 1 + 1) _ (by omega)).trans h2
  · show (World.setRow _ _ _).heap.size = _
    simp [World.setRow]
  · exact below_setRow b1 (by omega) _
  · exact hv.below (below_setRow b1 (by omega) _)
theorem three_boxes (w : World) (x y z : Int) (s : Nat) (hs : w.heap.size = s) :
    Box (((w.alloc (.cells #[.int .i64 x] 3)).alloc (.cells #[.int .i64 y] 3)).alloc (.cells #[.int .i64 z] 3)) s x ∧ Box (((w.alloc (.cells #[.int .i64 x] 3)).alloc (.cells #[.int .i64 y] 3)).alloc (.cells #[.int .i64 z] 3)) (s + 1) y ∧
    Box (((w.alloc (.cells #[.int .i64 x] 3)).alloc (.cells #[.int .i64 y] 3)).alloc (.cells #[.int .i64 z] 3)) (s + 1 + 1) z ∧ Below s w (((w.alloc (.cells #[.int .i64 x] 3)).alloc (.cells #[.int .i64 y] 3)).alloc (.cells #[.int .i64 z] 3)) := by
  subst hs
  have s1 : ∀ o, (w.alloc o).heap.size = w.heap.size + 1 := by simp
  have s2 : ∀ o o', ((w.alloc o).alloc o').heap.size = w.heap.size + 1 + 1 := by simp
  refine ⟨?_, ?_, ?_, ((Below.refl _ w).alloc (Nat.le_refl _) _).alloc (by rw [s1]; omega) _ |>.alloc (by rw [s2]; omega) _⟩
  · unfold Box
    rw [Below.heap_alloc _ _ _ (by rw [s2]; omega), Below.heap_alloc _ _ _ (by rw [s1]; omega)]
    exact heap_alloc_new w _
  · unfold Box
    rw [Below.heap_alloc _ _ _ (by rw [s2]; omega)]
    have := heap_alloc_new (w.alloc (.cells #[.int .i64 x] 3)) (.cells #[.int .i64 y] 3)
    rw [s1] at this
    exact this
  · unfold Box
    have := heap_alloc_new ((w.alloc (.cells #[.int .i64 x] 3)).alloc (.cells #[.int .i64 y] 3)) (.cells #[.int .i64 z] 3)
    rw [s2] at this
    exact this
theorem queue_start {N nb ob g n : Nat} {D wf ab : Row} {w6 W : World} (hW : ArrD 305 w6 (N + 1) 515 wf) (hA : ArrD 305 w6 (N + 1 + 1) 515 ab) (hn : Box w6 nb n)
    (ho : w6.heap[ob]? = some (.cells #[.slice (some ⟨g, 0, none⟩) n n] 28 (0, 0))) (hg : RowD w6 g n D) (hnb : N + 1 + 1 + 1 = nb) (h1 : nb < g) (h2 : g < ob) (hb : Below (ob + 1) w6 W)
    {sb jb xb : Nat} (b1 : Box W sb 0) (b2 : Box W jb n) (b3 : Box W xb n) (d1 : sb ≠ jb) (d2 : sb ≠ xb) (d3 : jb ≠ xb) (e1 : ob < sb) (e2 : ob < jb) (e3 : ob < xb) : Queue ⟨N + 1, N + 1 + 1, nb, ob, sb, jb, xb, g⟩ n D wf ab 0 n n W := by
  refine ⟨(hb.block _ (by show N + 1 < ob + 1; omega)).trans hW, (hb.block _ (by show N + 1 + 1 < ob + 1; omega)).trans hA, (hb.block _ (by show nb < ob + 1; omega)).trans hn, (hb.block _ (by show ob < ob + 1; omega)).trans ho, b1, b2, b3, (hb.block _ (by show g < ob + 1; omega)).trans hg, ?_⟩
  simp only [At.Apart, List.pairwise_cons, List.mem_cons, List.not_mem_nil, or_false, forall_eq_or_imp, forall_eq]
  refine ⟨?_, ?_, ?_, ?_, ?_, ?_, ?_, fun a h => h.elim, List.Pairwise.nil⟩ <;> omega
set_option maxRecDepth 100000 in
set_option maxHeartbeats 4000000 in
theorem join_any (v : Value) (zs : List Int) (w : World) (hv : IsInts w v zs) (h2 : 2 ≤ zs.length) (hz : zs.length ≤ 258) (hpos : ∀ z ∈ zs, 0 ≤ z ∧ z ≤ 1099511627776) :
    Calls Tryz.prog 280 #[v] w fun e w' => ∃ (ab : Row), e = .returned (.agg (rowA 515 ab)) ∧ JoinP zs ab ∧ Below w.heap.size w w' := by
  have HV0 := Lib.hid hv
  have HPOS := Lib.hid hpos
  obtain ⟨a, cap, rfl, _⟩ := hv
  obtain ⟨n, hn⟩ : ∃ n, zs.length = n := ⟨_, rfl⟩
  have HN := Lib.hid hn
  rw [hn] at h2 hz ⊢
  have hN0 := laid_of w zs (.slice a zs.length cap) HV0.out
  have hcp := fun ty => copy_weights _ (w.heap.size + 1) ty a cap zs hN0.2.2 (by omega) (by omega) hN0.2.1
  have hlaid := hN0.1
  rw [← zero515] at hcp hlaid
  rw [hn] at hcp hlaid
  generalize hW4 : (((w.alloc (.cells Tryz.zeroCells305 305)).alloc (.cells Tryz.zeroCells305 305)).alloc (.cells Tryz.zeroCells305 305)).setRow (w.heap.size + 1) (rowA 515 (wf0 zs)) = W4 at *
  have HCP := Lib.hid hcp
  have HL := Lib.hid hlaid
  clear hn hpos hN0 hcp hlaid hW4
  go_enter Tryz.func280, Tryz.ntmps280
  go_wp2_with (refine wpList_copyRun' rfl _ _ 28 28 rfl _ _ rfl rfl (HCP.out _) ?_)
  have hl4 := HL.out.size
  obtain ⟨N, hN⟩ : ∃ N, w.heap.size = N := ⟨_, rfl⟩
  rw [hN] at hl4
  have hs4 : (W4.alloc (.cells #[.int .i64 n] 3)).heap.size = N + 1 + 1 + 1 + 1 := by simp [hl4]
  have HB4 : Hid (Below W4.heap.size W4 (W4.alloc (.cells #[.int .i64 n] 3))) := Lib.hid ((Below.refl _ W4).alloc (Nat.le_refl _) _)
  have HNB : Hid (Box (W4.alloc (.cells #[.int .i64 n] 3)) W4.heap.size n) := Lib.hid (heap_alloc_new W4 _)
  have HI4 : Hid (IsInts (W4.alloc (.cells #[.int .i64 n] 3)) (.slice a n cap) zs) := Lib.hid (HL.out.ints.below HB4.out)
  generalize hW4b : W4.alloc (.cells #[.int .i64 n] 3) = w4 at *
  refine (byWeight_any (.slice a n cap) zs w4 HI4.out (by rw [HN.out]; omega)).mono ?_
  rintro e w5 ⟨r, rfl, g, D, rfl, hg, hR, hBlk, hB5⟩
  rw [HN.out] at hR hBlk
  have HR5 := Lib.hid hR
  have HBLK := Lib.hid hBlk
  have HB5 := Lib.hid hB5
  have HG := Lib.hid hg
  clear hR hBlk hB5 hg
  rw [HN.out]
  go_wp2_with fail
  obtain ⟨ob, hob⟩ : ∃ ob, w5.heap.size = ob := ⟨_, rfl⟩
  have hg4 : N + 1 + 1 + 1 + 1 ≤ g := by rw [← hs4]; exact HG.out
  have hob4 : g < ob := by rw [← hob]; exact RowI.lt HR5.out
  have hbw : Below N w w4 := by
    have h1 := HL.out.bel
    have h2 : Below w.heap.size W4 w4 := HB4.out.mono (show w.heap.size ≤ W4.heap.size by omega)
    rw [← hN]
    exact h1.trans h2
  have b45 : Below (N + 1 + 1 + 1 + 1) w4 w5 := hs4 ▸ HB5.out
  have b56 : Below (N + 1 + 1 + 1 + 1) w5 (w5.alloc (.cells #[.slice (some ⟨g, 0, none⟩) n n] 28)) := (Below.refl (N + 1 + 1 + 1 + 1) w5).alloc (show N + 1 + 1 + 1 + 1 ≤ w5.heap.size by omega) _
  have b46 := b45.trans b56
  have hrow6 : RowD (w5.alloc (.cells #[.slice (some ⟨g, 0, none⟩) n n] 28)) g n D := RowI.below HR5.out ((Below.refl _ w5).alloc (Nat.le_refl _) _)
  have hob6 : (w5.alloc (.cells #[.slice (some ⟨g, 0, none⟩) n n] 28)).heap[ob]? = some (.cells #[.slice (some ⟨g, 0, none⟩) n n] 28 (0, 0)) := by rw [← hob]; exact heap_alloc_new w5 _
  have hs6 : (w5.alloc (.cells #[.slice (some ⟨g, 0, none⟩) n n] 28)).heap.size = ob + 1 := by simp [hob]
  have hlw4 := HL.out
  rw [hN] at hlw4
  have h4b : Below (N + 1 + 1 + 1) W4 w4 := by have := HB4.out; rw [hl4] at this; exact this
  have hA6 : ArrD 305 (w5.alloc (.cells #[.slice (some ⟨g, 0, none⟩) n n] 28)) (N + 1 + 1) 515 (fun _ => 0) := (b46.block _ (by omega)).trans ((h4b.block _ (by omega)).trans hlw4.ab)
  have hW6 : ArrD 305 (w5.alloc (.cells #[.slice (some ⟨g, 0, none⟩) n n] 28)) (N + 1) 515 (wf0 zs) := (b46.block _ (by omega)).trans ((h4b.block _ (by omega)).trans hlw4.wt)
  have hr6 : ArrD 305 (w5.alloc (.cells #[.slice (some ⟨g, 0, none⟩) n n] 28)) N 515 (fun _ => 0) := (b46.block _ (by omega)).trans ((h4b.block _ (by omega)).trans hlw4.r)
  have hn6 : Box (w5.alloc (.cells #[.slice (some ⟨g, 0, none⟩) n n] 28)) (N + 1 + 1 + 1) n := by
    have h1 := HNB.out
    rw [hl4] at h1
    exact (b46.block _ (by omega)).trans h1
  have hb6 : Below N w (w5.alloc (.cells #[.slice (some ⟨g, 0, none⟩) n n] 28)) := hbw.trans (b46.mono (by omega))
  generalize (w5.alloc (.cells #[.slice (some ⟨g, 0, none⟩) n n] 28)) = w6 at *
  obtain ⟨c6, f6⟩ := hn6.cell
  have HRow6 := Lib.hid hrow6
  have HOb6 := Lib.hid hob6
  have HA6 := Lib.hid hA6
  have HW6 := Lib.hid hW6
  have HR6 := Lib.hid hr6
  have HN6 := Lib.hid hn6
  have HB6 := Lib.hid hb6
  have HNN := Lib.hid hN
  have hnd : Hid (N + 1 + 1 + 1 < g) := Lib.hid (by omega)
  rw [hob]
  clear hrow6 hob6 hA6 hW6 hr6 hn6 hb6 hbw b45 b56 b46 h4b hlw4 hW4b hs4 hN hob hl4 hg4
  generalize hnb : N + 1 + 1 + 1 = nb at *
  have hlt6 : nb < w6.heap.size := by have := hnd.out; omega
  have k1 : ∀ o, (w6.alloc o).cell? ⟨nb, 0, none⟩ = some (.int .i64 n) := fun o => (((Below.refl _ w6).alloc (Nat.le_refl _) o).cell (p := ⟨nb, 0, none⟩) hlt6).trans c6
  have k2 : ∀ o o', ((w6.alloc o).alloc o').cell? ⟨nb, 0, none⟩ = some (.int .i64 n) := fun o o' => (((Below.refl _ (w6.alloc o)).alloc (Nat.le_refl _) o').cell (p := ⟨nb, 0, none⟩) (by show nb < (w6.alloc o).heap.size; simp; omega)).trans (k1 o)
  have k3 : ∀ o o' o2, (((w6.alloc o).alloc o').alloc o2).cell? ⟨nb, 0, none⟩ = some (.int .i64 n) := fun o o' o2 => (((Below.refl _ ((w6.alloc o).alloc o')).alloc (Nat.le_refl _) o2).cell (p := ⟨nb, 0, none⟩) (by show nb < ((w6.alloc o).alloc o').heap.size; simp; omega)).trans (k2 o o')
  have HNBE := Lib.hid hnb
  clear hnb
  have hq : Hid (∀ (W : World), Below (ob + 1) w6 W → ∀ sb jb xb : Nat, Box W sb 0 → Box W jb n → Box W xb n → sb ≠ jb → sb ≠ xb → jb ≠ xb → ob < sb → ob < jb → ob < xb → Queue ⟨N + 1, N + 1 + 1, nb, ob, sb, jb, xb, g⟩ n D (wf0 zs) (fun _ => 0) 0 n n W.drew ∧ Below (ob + 1) w6 W.drew) := Lib.hid (fun W hb sb jb xb b1 b2 b3 d1 d2 d3 e1 e2 e3 =>
    ⟨(queue_start HW6.out HA6.out HN6.out HOb6.out HRow6.out HNBE.out hnd.out hob4 hb b1 b2 b3 d1 d2 d3 e1 e2 e3).drewN 1, hb.trans ((below_drewN W 1).mono (by have := hb.size; omega))⟩)
  have h3 := Lib.hid (fun x y z => three_boxes w6 x y z (ob + 1) hs6)
  have HOB4 := Lib.hid hob4
  clear hob4
  go_upto_region 4 with fail
  go_cut [7, 8, 9] from 18 (fun v7 v8 v9 W => ∃ sb jb xb : Nat, v7 = .pointer (some ⟨sb, 0, none⟩) ∧ v8 = .pointer (some ⟨jb, 0, none⟩) ∧ v9 = .pointer (some ⟨xb, 0, none⟩) ∧ ob < sb ∧ ob < jb ∧ ob < xb ∧ Queue ⟨N + 1, N + 1 + 1, nb, ob, sb, jb, xb, g⟩ n D (wf0 zs) (fun _ => 0) 0 n n W ∧ Below (ob + 1) w6 W)
  case first =>
    go_region
    all_goals go_wp2_with fail
    all_goals go_meet
    all_goals refine ⟨_, _, _, rfl, rfl, rfl, by omega, by omega, by omega, hq.out _ (h3.out _ _ _).2.2.2 _ _ _ ?_ ?_ ?_ (by omega) (by omega) (by omega) (by omega) (by omega) (by omega)⟩
    all_goals first
      | exact (h3.out _ _ _).1
      | exact (h3.out _ _ _).2.1
      | exact (h3.out _ _ _).2.2.1
  case rest =>
    obtain ⟨sb, jb, xb, rfl, rfl, rfl, e1, e2, e3, hQ, hB⟩ := hcut
    have HQ := Lib.hid hQ
    have HBW := Lib.hid hB
    clear hQ hB
    obtain ⟨d, hJS⟩ := JS.start (ab := fun _ => 0) (wf := wf0 zs) (by rw [HN.out]; exact h2) (fun z hz => (HPOS.out z hz).1) (by rw [HN.out]; exact HBLK.out) (fun i _ => rfl)
    rw [HN.out] at hJS
    have HJS := Lib.hid hJS
    clear hJS
    have hbase : Hid (Below N w wc) := Lib.hid (HB6.out.trans (HBW.out.mono (by have := HNBE.out; have := hnd.out; omega)))
    have hres : Hid (ArrD 305 wc N 515 (fun _ => 0)) := Lib.hid ((HBW.out.block N (by have := HNBE.out; have := hnd.out; omega)).trans HR6.out)
    have he : ∀ args w, (callFunc 284 args).run Tryz.prog w = .ok (.enter 284 args) w := enters_of Tryz.func284 (by kernel_rfl) rfl
    have hT : Hid (sumN wt (ini zs) ≤ 1099511627776 * 258) := Lib.hid (by
      have := sumN_le (f := wt) (l := ini zs) (c := 1099511627776) (fun t ht => by
        obtain ⟨h3, h4⟩ := ini_mem ht
        have h5 := (HPOS.out (zs.getD t.2 0) (by rw [List.getD_eq_getElem?_getD, List.getElem?_eq_getElem h3]; exact List.getElem_mem h3)).2
        show t.1 ≤ _
        omega)
      rw [ini_len, HN.out] at this
      exact Nat.le_trans this (Nat.mul_le_mul_left _ hz))
    have hne : Hid (N < nb ∧ nb < ob) := Lib.hid (by have := HNBE.out; have := hnd.out; have := HOB4.out; omega)
    go_wp2_with fail
    go_loopw [11, 12] (fun _ _ wr => ∃ (S J K : Nat) (wf ab : Row), JS zs D wf ab d S J K ∧ Queue ⟨N + 1, N + 1 + 1, nb, ob, sb, jb, xb, g⟩ n D wf ab S J K wr ∧ Below N w wr ∧ ArrD 305 wr N 515 (fun _ => 0)) (fun _ _ wr => 2 * n - boxN wr xb)
    case atStart => exact ⟨0, n, n, _, _, HJS.out, HQ.out, hbase.out, hres.out⟩
    case round =>
      obtain ⟨S, J, K, wf, ab, hJ, hQ, hB, hR⟩ := hrel
      have HJ := Lib.hid hJ
      have HQ1 := Lib.hid hQ
      have HB1 := Lib.hid hB
      have HR1 := Lib.hid hR
      have hKb : K + 1 ≤ 2 * n := by have := hJ.hK; rw [HN.out] at this; exact this
      obtain ⟨cx, fx⟩ := hQ.hx.cell
      obtain ⟨cn, fn⟩ := hQ.hn.cell
      simp only at cx fx cn fn
      clear hJ hQ hB hR
      by_cases hK : K + 1 < 2 * n
      · have hK2 : (K : Int) < 2 * (n : Int) - 1 := by omega
        have hJm := HJ.out
        have hSn := hJm.hS
        have hnJ := hJm.hJ
        have hJK := hJm.hJK
        have hcnt := hJm.cnt
        rw [HN.out] at hSn hnJ hcnt
        have hrng : Hid (Rng n D) := Lib.hid (by have := hJm.rng; rw [HN.out] at this; exact this)
        clear hJm
        go_wp2_with fail
        refine (least_any (p := ⟨N + 1, N + 1 + 1, nb, ob, sb, jb, xb, g⟩) HQ1.out hz hSn hJK (by omega) hrng.out (fun e => by omega)).mono ?_
        rintro e w1 ⟨ta, rfl, htook⟩
        obtain ⟨S1, J1, hm1, hQ2, ht1⟩ := htook.math
        obtain ⟨xa, rfl, hx1, hx2, hx3, hx4, hx5, hx6, hx7, hx8⟩ := pick_took hSn hJK (fun e => by omega) hrng.out hnJ HJ.out.pos hm1
        have HM1 := Lib.hid hm1
        have HQ2 := Lib.hid hQ2
        have HT1 := Lib.hid ht1
        clear htook hm1 hQ2 ht1 hx2 hx8
        go_wp2_with fail
        refine (least_any (p := ⟨N + 1, N + 1 + 1, nb, ob, sb, jb, xb, g⟩) HQ2.out hz hx3 hx4 (by omega) hrng.out (fun e => by omega)).mono ?_
        rintro e w2 ⟨tb, rfl, htook⟩
        obtain ⟨S2, J2, hm2, hQ3, ht2⟩ := htook.math
        obtain ⟨x, y, ex, ey, hxK, hyK, hxy, hsum, hJS2⟩ := JS.step HJ.out (by rw [HN.out]; exact hK) (by rw [HN.out]; exact HM1.out) (by rw [HN.out]; exact hm2)
        obtain rfl : xa = x := by omega
        subst ey
        have hwx := HJ.out.pos _ hxK
        have hwy := HJ.out.pos _ hyK
        obtain ⟨c1, f1⟩ := hQ3.hW.cell (show xa < 515 by omega)
        obtain ⟨c2, f2⟩ := hQ3.hW.cell (show y < 515 by omega)
        obtain ⟨c3, f3⟩ := hQ3.hW.cell (show K < 515 by omega)
        obtain ⟨c4, f4⟩ := hQ3.hx.cell
        simp only at c1 f1 c2 f2 c3 f3 c4 f4
        obtain ⟨X, hX⟩ : ∃ X, wf xa = X := ⟨_, rfl⟩
        obtain ⟨Y, hY⟩ : ∃ Y, wf y = Y := ⟨_, rfl⟩
        rw [hX] at c1 hwx hsum hJS2
        rw [hY] at c2 hwy hsum hJS2
        have hXY : X + Y ≤ 300000000000000 := by have := hT.out; omega
        have hX5 : (xa : Int) < 515 := by omega
        have hY5 : (y : Int) < 515 := by omega
        have hK5 : (K : Int) < 515 := by omega
        have HJS2 := Lib.hid hJS2
        have HQ3 := Lib.hid hQ3
        have HT2 := Lib.hid ht2
        have HNE := Lib.hid hxy
        clear htook hm2 hQ3 ht2 hJS2 hX hY hsum ex hxy
        go_wp2_with fail
        go_region
        have hQ9 := (HQ3.out.weight (i := K) (by omega) (X + Y)).drewN 1
        have ht9 : Touch (· = N + 1) w2 ((w2.setCell ⟨N + 1, K, none⟩ (.int .i64 (X + Y))).drew) := (touch_cell (Touch.refl _ w2)).drew
        change Queue _ _ _ _ _ _ _ _ ((w2.setCell ⟨N + 1, K, none⟩ (.int .i64 (X + Y))).drew) at hQ9
        generalize (w2.setCell ⟨N + 1, K, none⟩ (.int .i64 (X + Y))).drew = w9 at *
        obtain ⟨c5, f5⟩ := hQ9.hx.cell
        obtain ⟨c6, f6⟩ := hQ9.hA.cell (show xa < 515 by omega)
        obtain ⟨c7, f7⟩ := hQ9.hA.cell (show y < 515 by omega)
        obtain ⟨c8, f8⟩ := (hQ9.above (i := xa) (by omega) K).hA.cell (show y < 515 by omega)
        simp only at c5 f5 c6 f6 c7 f7
        change (w9.setCell ⟨N + 1 + 1, xa, none⟩ (.int .i64 K)).cell? ⟨N + 1 + 1, y, none⟩ = _ at c8
        change (w9.setCell ⟨N + 1 + 1, xa, none⟩ (.int .i64 K)).frozen? ⟨N + 1 + 1, y, none⟩ = _ at f8
        generalize (fun k => if k = xa then (K : Int) else ab k) y = V8 at c8
        have c9 := (hQ9.above (i := xa) (by omega) K).hx.cell.1
        change (w9.setCell ⟨N + 1 + 1, xa, none⟩ (.int .i64 K)).cell? ⟨xb, 0, none⟩ = _ at c9
        have HQ9 := Lib.hid hQ9
        have HT9 := Lib.hid ht9
        clear hQ9 ht9 c1 c2 c3 c4 f1 f2 f3 f4
        go_wp2_with fail
        go_region
        have hQ10 := ((HQ9.out.above (i := xa) (by omega) K).above (i := y) (by omega) K).drewN 1
        change Queue _ _ _ _ _ _ _ _ (((w9.setCell ⟨N + 1 + 1, xa, none⟩ (.int .i64 K)).setCell ⟨N + 1 + 1, y, none⟩ (.int .i64 K)).drew) at hQ10
        have ht10 : Touch (· = N + 1 + 1) w9 (((w9.setCell ⟨N + 1 + 1, xa, none⟩ (.int .i64 K)).setCell ⟨N + 1 + 1, y, none⟩ (.int .i64 K)).drew) := (touch_cell (touch_cell (Touch.refl _ w9))).drew
        generalize (((w9.setCell ⟨N + 1 + 1, xa, none⟩ (.int .i64 K)).setCell ⟨N + 1 + 1, y, none⟩ (.int .i64 K)).drew) = w10 at *
        obtain ⟨e5, g5⟩ := hQ10.hx.cell
        simp only at e5 g5
        have HQ10 := Lib.hid hQ10
        have HT10 := Lib.hid ht10
        have hb1 : Hid (boxN wr xb = K) := Lib.hid (by unfold boxN; rw [cx]; simp)
        have hQ11 := HQ10.out.next (K + 1)
        have hK1 : ((K + 1 : Nat) : Int) = (K : Int) + 1 := by omega
        rw [hK1] at hQ11
        change Queue _ _ _ _ _ _ _ _ (w10.setCell ⟨xb, 0, none⟩ (.int .i64 ((K : Int) + 1))) at hQ11
        have hb2 : Hid (boxN (w10.setCell ⟨xb, 0, none⟩ (.int .i64 ((K : Int) + 1))) xb = K + 1) := Lib.hid (by
          have := hQ11.hx.cell.1
          simp only at this
          unfold boxN
          rw [this]
          simp)
        have HQ11 := Lib.hid hQ11
        have htall : Hid (Touch (fun i => N < i) wr (w10.setCell ⟨xb, 0, none⟩ (.int .i64 ((K : Int) + 1)))) := Lib.hid (by
          have n1 := hne.out
          have t1 : Touch (fun i => N < i) wr w1 := HT1.out.mono (fun i hi => by
            rcases hi with e | e
            · have e : i = sb := e
              omega
            · have e : i = jb := e
              omega)
          have t2 : Touch (fun i => N < i) w1 w2 := HT2.out.mono (fun i hi => by
            rcases hi with e | e
            · have e : i = sb := e
              omega
            · have e : i = jb := e
              omega)
          have t3 : Touch (fun i => N < i) w2 w9 := HT9.out.mono (fun i hi => by have e : i = N + 1 := hi; omega)
          have t4 : Touch (fun i => N < i) w9 w10 := HT10.out.mono (fun i hi => by have e : i = N + 1 + 1 := hi; omega)
          exact ((((t1.trans t2 (fun i h => Or.inl h)).trans t3 (fun i h => Or.inl h)).trans t4 (fun i h => Or.inl h))).setCell (p := ⟨xb, 0, none⟩) (Or.inl (by show N < xb; omega)) _)
        clear hQ10 ht10 hK1 hQ11 c5 c6 c7 c8 c9 f5 f6 f7 f8
        go_wp2_with fail
        go_roundw
        case rel => exact ⟨S2, J2, K + 1, _, _, HJS2.out, HQ11.out, HB1.out.trans (htall.out.below (B := N) (by have := HB1.out.size; have := HNN.out; omega) (fun i hi => by have e : N < i := hi; omega)), HR1.out.other htall.out (fun h => Nat.lt_irrefl _ h)⟩
        case measure => rw [hb1.out, hb2.out]; omega
      · have hK2 : ¬ (K : Int) < 2 * (n : Int) - 1 := by omega
        have hc := HQ1.out.hA
        have h0 := HR1.out
        have HJ2 : Hid (JoinP zs ab) := Lib.hid (HJ.out.end_ (by rw [HN.out]; exact h2) (by rw [HN.out]; omega))
        change wr.heap[N + 1 + 1]? = some (.cells (rowA 515 ab) 305 (0, 0)) at hc
        change wr.heap[N]? = some (.cells (rowA 515 (fun _ => 0)) 305 (0, 0)) at h0
        have hi := info515 ab
        have hs0 : (rowA 515 (fun _ => 0)).size = (rowA 515 ab).size := by rw [rowA_size, rowA_size]
        have hall := rowA_cells 515 ab
        have HRA : Hid (rowA 515 ab = rowA 515 ab) := Lib.hid rfl
        generalize hRA : rowA 515 ab = RA at hc hi hs0 hall
        generalize rowA 515 (fun _ => 0) = R0 at h0 hs0
        go_wp2_with (first | (refine wpList_load_row rfl 305 _ rfl (N + 1 + 1) rfl 305 RA (0, 0) _ hc Tryz.underlying305 rfl hi ?_) | (refine wpList_store_row rfl 305 _ _ rfl N RA rfl rfl 305 R0 h0 hi hs0 hall ?_))
        refine bodyPost_ret (v := .agg RA) (results_cell_row rfl _ _ N 305 RA (0, 0) _ rfl (setRow_heap wr _ R0 RA 305 _ h0) Tryz.underlying305 rfl hi) rfl ⟨ab, by rw [hRA], HJ2.out, ?_⟩
        rw [HNN.out]
        exact below_setRow HB1.out (Nat.le_refl _) _
end Go.Proofs.YtojphcoghbiepaaGreatDoor
namespace Go.Proofs.YtojphcoghbiepaaGreatDoor
open Go.RowKit SymM HufM
set_option linter.unusedVariables false
theorem ArrD.ints {t : TypeId} {w : World} {g N : Nat} {d : Row} (h : ArrD t w g N d) {n : Nat} (hn : n ≤ N) (cap : Nat) : IsInts w (.slice (some ⟨g, 0, none⟩) n cap) ((List.range n).map d) := by
  refine ⟨some ⟨g, 0, none⟩, cap, by simp, fun i x hx => ⟨g, 0, rfl, ?_⟩⟩
  have hi := (List.getElem?_eq_some_iff.1 hx).1
  simp at hi
  rw [List.getElem?_map, List.getElem?_range hi] at hx
  simp only [Option.map_some, Option.some.injEq] at hx
  rw [Nat.zero_add, ← hx]
  exact (h.cell (show i < N by omega)).1
theorem slice515 (W : World) (b n : Nat) (hn : n ≤ 515) : (Instr.sliceAt 305 (.pointer (some ⟨b, 0, none⟩)) none (some (.int .i64 (n : Int))) none).run Tryz.prog W = .ok (.slice (some ⟨b, 0, none⟩) n 515) W := by
  have e : Tryz.prog.arrayLen 305 = 515 := by kernel_rfl
  have hs : (sizeOf (Tryz.prog.elem 305)).run Tryz.prog W = .ok 1 W := by kernel_rfl
  rw [run_sliceAt_array_h W _ ⟨b, 0, none⟩ (by kernel_rfl) .i64 (n : Int) (by omega) (by rw [e]; omega), hs]
  simp [Result.andThen, slicedAt, e, Addr.add]
set_option maxRecDepth 100000 in
set_option maxHeartbeats 2000000 in
theorem clone9_any (b off m c : Nat) (zs : List Int) (w : World) (hv : IsInts w (.slice (some ⟨b, off, none⟩) m c) zs) (hz : zs.length ≤ 1000000) :
    Calls Tryz.prog 224 #[.slice (some ⟨b, off, none⟩) m c] w fun e w' => ∃ r, e = .returned r ∧ IsInts w' r zs ∧ Below w.heap.size w w' ∧ (∀ k, r.ownBlock = some k → w.heap.size ≤ k) := by
  have HV := Lib.hid hv
  have hs1 : (w.alloc (.cells #[] 3)).heap.size = w.heap.size + 1 := by simp
  have HO : Hid (OwnI (w.alloc (.cells #[] 3)) w.heap.size (.slice (some ⟨w.heap.size, 0, none⟩) 0 0) []) := Lib.hid ⟨rfl, Or.inr ⟨w.heap.size, 0, #[], rfl, Nat.le_refl _, heap_alloc_new w _, Nat.le_refl _, by simp [maxLen], rfl, rfl⟩⟩
  have HB : Hid (Below w.heap.size w (w.alloc (.cells #[] 3))) := Lib.hid ((Below.refl _ w).alloc (Nat.le_refl _) _)
  have HV2 : Hid (IsInts (w.alloc (.cells #[] 3)) (.slice (some ⟨b, off, none⟩) m c) zs) := Lib.hid (hv.below HB.out)
  clear hv
  go_enter Tryz.func224, Tryz.ntmps224
  have hnil : ∀ W, (binOp .eql 28 (.slice (some ⟨b, off, none⟩) m c) (.slice none 0 0)).run Tryz.prog W = .ok (.bool false) W := fun W => Lib.run_eql_slice_nil W _ _ _ _ _ _ _ Tryz.underlying28
  go_upto_region 3 with fail
  go_step
  go_wp2_with (refine push_src (w.alloc (.cells #[] 3)) rfl _ _ rfl w.heap.size (.slice (some ⟨w.heap.size, 0, none⟩) 0 0) [] b off m c zs HO.out HV2.out rfl rfl (by simp; omega) (by rw [hs1]; omega) ?_)
  intro v' w' hown hb
  have HOWN := Lib.hid hown
  have HB2 := Lib.hid hb
  clear hown hb
  go_wp2_with fail
  go_ret
  exact ⟨v', rfl, HOWN.out.ints, HB.out.trans HB2.out, fun k hk => (HOWN.out.lt k hk).1⟩
set_option maxRecDepth 100000 in
set_option maxHeartbeats 4000000 in
theorem depths_loc (v : Value) (zs : List Int) (w : World) (hv : IsInts w v zs) (h2 : 2 ≤ zs.length) (hz : zs.length ≤ 258) (hpos : ∀ z ∈ zs, 0 ≤ z ∧ z ≤ 1099511627776) :
    Calls Tryz.prog 268 #[v] w fun e w' => ∃ (r : Value) (ds : List Int), e = .returned r ∧ IsInts w' r ds ∧ DepP zs ds ∧ Below w.heap.size w w' ∧ (∀ k, r.ownBlock = some k → w.heap.size ≤ k) := by
  have HV0 := Lib.hid hv
  have HPOS := Lib.hid hpos
  obtain ⟨a, cap, rfl, _⟩ := hv
  obtain ⟨n, hn⟩ : ∃ n, zs.length = n := ⟨_, rfl⟩
  have HN := Lib.hid hn
  rw [hn] at h2 hz ⊢
  clear hn hpos
  go_enter Tryz.func268, Tryz.ntmps268
  go_wp2_with fail
  refine (join_any (.slice a n cap) zs w (by rw [← HN.out]; exact HV0.out) (by rw [HN.out]; exact h2) (by rw [HN.out]; exact hz) HPOS.out).mono ?_
  rintro e w1 ⟨ab, rfl, hJ, hB⟩
  have HJ := Lib.hid hJ
  have HB := Lib.hid hB
  have hi := info515 ab
  have hall := rowA_cells 515 ab
  obtain ⟨RA, hRA⟩ : ∃ RA, rowA 515 ab = RA := ⟨_, rfl⟩
  rw [hRA] at hi hall
  have HRA := Lib.hid hRA
  rw [hRA]
  clear hJ hB
  have hzs : Tryz.zeroCells305.size = RA.size := by rw [zero515, rowA_size, ← hRA, rowA_size]
  have h0 : (w1.alloc (.cells Tryz.zeroCells305 305)).heap[w1.heap.size]? = some (.cells Tryz.zeroCells305 305 (0, 0)) := heap_alloc_new w1 _
  go_wp2_with (refine wpList_store_row rfl 305 _ _ rfl w1.heap.size RA rfl rfl 305 Tryz.zeroCells305 h0 hi hzs hall ?_)
  have hA0 : ArrD 305 ((w1.alloc (.cells Tryz.zeroCells305 305)).setRow w1.heap.size RA) w1.heap.size 515 ab := by
    have := setRow_heap _ _ _ RA _ _ h0
    rw [← hRA] at this ⊢
    exact this
  have hbs : Below w1.heap.size w1 ((w1.alloc (.cells Tryz.zeroCells305 305)).setRow w1.heap.size RA) := below_setRow ((Below.refl _ w1).alloc (Nat.le_refl _) _) (Nat.le_refl _) RA
  have hsz : ((w1.alloc (.cells Tryz.zeroCells305 305)).setRow w1.heap.size RA).heap.size = w1.heap.size + 1 := by simp [World.setRow]
  generalize (w1.alloc (.cells Tryz.zeroCells305 305)).setRow w1.heap.size RA = w2 at *
  obtain ⟨B3, hB3⟩ : ∃ B3, w1.heap.size = B3 := ⟨_, rfl⟩
  rw [hB3] at hA0 hbs hsz
  have hD0 : ArrD 305 (w2.alloc (.cells Tryz.zeroCells305 305)) (B3 + 1) 515 (fun _ => 0) := by
    have := heap_alloc_new w2 (.cells Tryz.zeroCells305 305)
    rw [hsz, zero515] at this
    rw [zero515]
    exact this
  have hA1 : ArrD 305 (w2.alloc (.cells Tryz.zeroCells305 305)) B3 515 ab := (Below.heap_alloc w2 _ _ (by rw [hsz]; omega)).trans hA0
  have hb2 : Below w.heap.size w (w2.alloc (.cells Tryz.zeroCells305 305)) := HB.out.trans ((hbs.alloc (by rw [hsz]; omega) _).mono (by rw [← hB3]; exact HB.out.size))
  have hlow : Hid (w.heap.size ≤ B3) := Lib.hid (by rw [← hB3]; exact HB.out.size)
  obtain ⟨d, hdep, hd0, hdb, hup⟩ := HJ.out.dep
  rw [HN.out] at hd0 hdb hup hdep
  have HA1 := Lib.hid hA1
  have HD0 := Lib.hid hD0
  have HB2 := Lib.hid hb2
  have HDEP := Lib.hid hdep
  have HUP := Lib.hid hup
  have HDB := Lib.hid hdb
  have HD00 := Lib.hid hd0
  rw [hB3]
  have hsz' := hsz
  clear hA0 hbs hA1 hD0 hb2 hdep hup hdb hd0 h0 hzs hi hall hRA hB3
  go_wp2_with fail
  generalize (w2.alloc (.cells Tryz.zeroCells305 305)) = w3 at *
  clear hsz hsz'
  go_loopw [6] (fun vt wr => ∃ (t : Nat) (x : Int) (dd : Row), vt = .int .i64 x ∧ x = (t : Int) - 1 ∧ t ≤ 2 * n - 2 ∧ ArrD 305 wr (B3 + 1) 515 dd ∧ ArrD 305 wr B3 515 ab ∧ (∀ k, t ≤ k → k ≤ 2 * n - 2 → dd k = (d k : Int)) ∧ Below w.heap.size w wr) (fun vt _ => (intOf vt + 1).toNat)
  case atStart => exact ⟨2 * n - 2, 2 * (n : Int) - 2 - 1, _, rfl, by omega, Nat.le_refl _, HD0.out, HA1.out, fun k h3 h4 => by
    obtain rfl : k = 2 * n - 2 := by omega
    rw [HD00.out]; rfl, HB2.out⟩
  case round =>
    obtain ⟨t, x, dd, rfl, hx, ht, hD, hA, hdd, hBw⟩ := hrel
    have HD := Lib.hid hD
    have HA := Lib.hid hA
    have HDD := Lib.hid hdd
    have HBW := Lib.hid hBw
    clear hD hA hdd hBw
    by_cases ht0 : 1 ≤ t
    · obtain ⟨s, hs⟩ : ∃ s, t = s + 1 := ⟨t - 1, by omega⟩
      obtain rfl : x = (s : Int) := by omega
      have HS := Lib.hid hs
      have hs515 : s < 515 := by omega
      have hs5 : (s : Int) < 515 := by omega
      obtain ⟨u, hu1, hu2, hu3, hu4⟩ := HUP.out s (by omega)
      have hu515 : u < 515 := by omega
      have hu5 : (u : Int) < 515 := by omega
      obtain ⟨c1, f1⟩ := HA.out.cell hs515
      obtain ⟨c2, f2⟩ := HD.out.cell hu515
      obtain ⟨c3, f3⟩ := HD.out.cell hs515
      rw [hu1] at c1
      rw [HDD.out u (by omega) hu3] at c2
      have hdu : d u ≤ 600 := by have := HDB.out u hu3; omega
      obtain ⟨q, hq⟩ : ∃ q, d u = q := ⟨_, rfl⟩
      rw [hq] at c2 hdu
      have HQ : Hid (d s = q + 1) := Lib.hid (by rw [hu4, hq])
      clear hs hu1 hu4 hq hx
      go_wp2_with fail
      go_roundw
      case rel => exact ⟨s, (s : Int) - 1, _, rfl, rfl, by have := HS.out; omega, HD.out.set hs515 ((q : Int) + 1), HA.out.other ((touch_cell (Touch.refl _ wr)) : Touch (· = B3 + 1) wr _) (fun h => by have h' : B3 = B3 + 1 := h; omega), fun k h3 h4 => by
        by_cases e : k = s
        · subst e; simp only [if_true]; rw [HQ.out]; rfl
        · simp only [e, if_false]; exact HDD.out k (by have := HS.out; omega) h4, HBW.out.setCell (p := ⟨B3 + 1, s, none⟩) (by show w.heap.size ≤ B3 + 1; have := hlow.out; omega) _⟩
      case measure => simp [intOf]
    · obtain rfl : t = 0 := by omega
      have hx0 : ¬ (0 : Int) ≤ x := by omega
      have hI := HD.out.ints (show n ≤ 515 by omega) 515
      have HI : Hid (IsInts wr (.slice (some ⟨B3 + 1, 0, none⟩) n 515) ((List.range n).map fun i => (d i : Int))) := Lib.hid (by
        have e : (List.range n).map dd = (List.range n).map fun i => (d i : Int) := List.map_congr_left (fun i hi => HDD.out i (Nat.zero_le _) (by have := List.mem_range.1 hi; omega))
        rw [← e]; exact hI)
      clear hI
      have hsl := fun W => slice515 W (B3 + 1) n (by omega)
      go_wp2_with fail
      refine (clone9_any (B3 + 1) 0 n 515 _ wr HI.out (by simp; omega)).mono ?_
      rintro e w4 ⟨r, rfl, hr, hb, ho⟩
      have HR := Lib.hid hr
      have HBB := Lib.hid hb
      have HOO : Hid (∀ k, r.ownBlock = some k → w.heap.size ≤ k) := Lib.hid (fun k hk => Nat.le_trans HBW.out.size (ho k hk))
      clear hr hb ho
      go_wp2_with fail
      go_ret
      exact ⟨_, _, rfl, HR.out, HDEP.out, HBW.out.trans (HBB.out.mono HBW.out.size), HOO.out⟩
end Go.Proofs.YtojphcoghbiepaaGreatDoor
namespace Go.Proofs.YtojphcoghbiepaaGreatDoor
open Go.RowKit HufM
set_option linter.unusedVariables false
/-- Counts as weights: 1 at least. -/
def ups (zs : List Int) : List Int := zs.map fun x => if x < 1 then 1 else x
def OfOk (zs : List Int) : Prop := 3 ≤ zs.length ∧ zs.length ≤ 258 ∧ Within 0 1099511627776 zs
/-- What Of tells. -/
def OfP (zs rs : List Int) (err : Nat) : Prop := (¬ OfOk zs ∧ rs = [] ∧ err = 1) ∨ (OfOk zs ∧ (∃ n, n ≤ 40 ∧ OfR n (ups zs) rs) ∧ err = 0)
theorem ups_bd {zs : List Int} (h : Within 0 1099511627776 zs) : Bd 40 (ups zs) := by
  intro y hy
  obtain ⟨x, hx, rfl⟩ := List.mem_map.1 hy
  have := h x hx
  have e : ((2 ^ 40 + 1 : Nat) : Int) = 1099511627777 := by decide
  rw [e]
  split <;> omega
theorem ups_len (zs : List Int) : (ups zs).length = zs.length := by simp [ups]
theorem hvs_within {zs : List Int} (h : ∀ z ∈ zs, 0 ≤ z ∧ z ≤ 1099511627777) : ∀ z ∈ hvs zs, 0 ≤ z ∧ z ≤ 1099511627776 := by
  intro y hy
  obtain ⟨x, hx, rfl⟩ := List.mem_map.1 hy
  have := h x hx
  unfold hv
  rw [if_neg (by omega)]
  omega
set_option maxRecDepth 100000 in
set_option maxHeartbeats 2000000 in
theorem of_loc (v : Value) (zs : List Int) (w : World) (hv : IsInts w v zs) (hz : zs.length ≤ 9223372036854775807) :
    Calls Tryz.prog 249 #[v] w fun e w' => ∃ (r : Value) (rs : List Int) (err : Nat), e = .returned (.tuple #[r, .int .i64 (err : Int)]) ∧ IsInts w' r rs ∧ OfP zs rs err ∧ Below w.heap.size w w' ∧ (∀ k, r.ownBlock = some k → w.heap.size ≤ k) := by
  have HV := Lib.hid hv
  have HNIL : Hid (IsInts w (.slice none 0 0) []) := Lib.hid (IsInts.nil w)
  obtain ⟨ad, cap, rfl, _⟩ := hv
  by_cases h1 : zs.length < 3
  · have h1b : (zs.length : Int) < 3 := by omega
    go_enter Tryz.func249, Tryz.ntmps249
    go_wp2_with fail
    go_ret2
    exact ⟨_, [], 1, rfl, HNIL.out, Or.inl ⟨fun h => by have := h.1; omega, rfl, rfl⟩, Below.refl _ _, fun k hk => absurd hk (by simp [Value.ownBlock])⟩
  · have h1b : decide ((zs.length : Int) < 3) = false := by simp only [decide_eq_false_iff_not]; omega
    by_cases h2 : 258 < zs.length
    · have h2b : 258 < (zs.length : Int) := by omega
      go_enter Tryz.func249, Tryz.ntmps249
      go_wp2_with fail
      go_ret2
      exact ⟨_, [], 1, rfl, HNIL.out, Or.inl ⟨fun h => by have := h.2.1; omega, rfl, rfl⟩, Below.refl _ _, fun k hk => absurd hk (by simp [Value.ownBlock])⟩
    · have h2b : decide (258 < (zs.length : Int)) = false := by simp only [decide_eq_false_iff_not]; omega
      by_cases hw : Within 0 1099511627776 zs
      · have HW := Lib.hid hw
        have HA := Lib.hid (areWithin_any _ zs 0 1099511627776 true w HV.out ⟨fun _ => hw, fun _ => rfl⟩ hz)
        obtain ⟨n0, rs, hn0, hof⟩ := OfR.exists 40 (ups zs) (ups_bd hw) (by rw [ups_len]; omega) (by rw [ups_len]; omega)
        have HOF := Lib.hid hof
        clear hw hof
        obtain ⟨N, hN⟩ : ∃ N, zs.length = N := ⟨_, rfl⟩
        have HN := Lib.hid hN
        rw [hN] at h1 h1b h2 h2b hz HV HA ⊢
        have hmk := make_ints N (by omega) w
        have HR0 := Lib.hid (RowI.made w N)
        have hb0 : Hid (Below w.heap.size w (w.alloc (.cells (madeCells #[Value.int .i64 0] N) 3))) := Lib.hid ((Below.refl _ w).alloc (Nat.le_refl _) _)
        obtain ⟨g, hg⟩ : ∃ g, w.heap.size = g := ⟨_, rfl⟩
        have HG := Lib.hid hg
        rw [hg] at hmk HR0
        clear hN hg
        go_enter Tryz.func249, Tryz.ntmps249
        go_wp2_with fail
        refine HA.out.mono ?_
        rintro e w1 ⟨rfl, rfl⟩
        go_wp2_with fail
        generalize w1.alloc (.cells (madeCells #[Value.int .i64 0] N) 3) = w2 at *
        go_wp2_with fail
        go_loopw [26] (fun i wr => ∃ k : Nat, k ≤ N ∧ i = .int .i64 k ∧ RowI wr g (ups (zs.take k) ++ List.replicate (N - k) 0) ∧ Below w1.heap.size w1 wr) (fun i _ => N - (intOf i).toNat)
        case atStart => exact ⟨0, Nat.zero_le _, rfl, by simpa [ups] using HR0.out, hb0.out⟩
        case round =>
          obtain ⟨k, hk, rfl, hR, hB⟩ := hrel
          have HR := Lib.hid hR
          have HB := Lib.hid hB
          have hlen : (ups (zs.take k)).length = k := by rw [ups_len, List.length_take, HN.out]; omega
          by_cases hlk : k < N
          · have hki : (k : Int) < (N : Int) := by omega
            obtain ⟨b1, o1, k1, he1, c1⟩ := HV.out.cell (show k < zs.length by rw [HN.out]; exact hlk)
            rw [HN.out] at he1
            simp only [Value.slice.injEq] at he1
            obtain ⟨rfl, _, rfl⟩ := he1
            have c1 := (HB.out.cell (cell_lt c1)).trans c1
            obtain ⟨x, hx⟩ : ∃ x, zs.getD k 0 = x := ⟨_, rfl⟩
            rw [hx] at c1
            obtain ⟨c2, f2, hset⟩ := RowI.cell hR (i := k) (by rw [List.length_append, hlen, List.length_replicate]; omega)
            generalize (ups (zs.take k) ++ List.replicate (N - k) 0).getD k 0 = y at c2
            have hnext : Hid (RowI (wr.setCell ⟨g, k, none⟩ (.int .i64 (if x < 1 then 1 else x))) g (ups (zs.take (k + 1)) ++ List.replicate (N - (k + 1)) 0)) := Lib.hid (by
              have h1 := hset (if x < 1 then 1 else x)
              have h2 := set_next (ups (zs.take k)) (N - (k + 1)) (if x < 1 then 1 else x)
              rw [hlen, show N - (k + 1) + 1 = N - k by omega] at h2
              rw [h2] at h1
              have h3 : ups (zs.take (k + 1)) = ups (zs.take k) ++ [if x < 1 then 1 else x] := by
                unfold ups
                rw [List.take_add_one, List.map_append, List.getElem?_eq_getElem (show k < zs.length by rw [HN.out]; exact hlk)]
                congr 1
                have hx2 : zs[k]'(by rw [HN.out]; exact hlk) = x := by rw [← hx, List.getD_eq_getElem?_getD, List.getElem?_eq_getElem (show k < zs.length by rw [HN.out]; exact hlk)]; rfl
                simp only [Option.toList_some, List.map_cons, List.map_nil, hx2]
              rw [h3]
              exact h1)
            have hbn : Hid (Below w1.heap.size w1 (wr.setCell ⟨g, k, none⟩ (.int .i64 (if x < 1 then 1 else x)))) := Lib.hid (HB.out.setCell (p := ⟨g, k, none⟩) (by rw [HG.out]; exact Nat.le_refl g) _)
            clear hR hB hset hx hlen
            go_wp2_with fail
            go_roundw
            case rel => exact ⟨k + 1, by omega, by go_num, hnext.out, hbn.out⟩
            case measure => simp [intOf]; omega
          · have hki : ¬ (k : Int) < (N : Int) := by omega
            obtain rfl : N = k := by omega
            have h := HR.out.ints N N (by rw [List.length_append, hlen]; simp)
            have e : ups (zs.take N) ++ List.replicate (N - N) 0 = ups zs := by
              rw [Nat.sub_self, List.replicate_zero, List.append_nil, List.take_of_length_le (Nat.le_of_eq HN.out)]
            rw [e] at h
            have HI := Lib.hid h
            have hul : Hid ((ups zs).length = N) := Lib.hid (by rw [ups_len, HN.out])
            clear h e hR hB hlen
            go_wp2_with fail
            refine (depths_loc _ (ups zs) wr HI.out (by rw [hul.out]; omega) (by rw [hul.out]; omega) (fun z hz => by
              obtain ⟨x, hx, rfl⟩ := List.mem_map.1 hz
              have := HW.out x hx
              split <;> omega)).mono ?_
            rintro e w3 ⟨r, ds, rfl, hi, hd, hb, ho⟩
            have HO3 : Hid (∀ k, r.ownBlock = some k → w1.heap.size ≤ k) := Lib.hid (fun k hk => Nat.le_trans HB.out.size (ho k hk))
            have HI3 := Lib.hid hi
            have HD3 := Lib.hid hd
            have HB3 : Hid (Below w1.heap.size w1 w3) := Lib.hid (HB.out.trans (hb.mono HB.out.size))
            have HU3 : Hid (IsInts w3 (.slice (some ⟨g, 0, none⟩) N N) (ups zs)) := Lib.hid (HI.out.below hb)
            clear hi hd hb ho
            go_wp2_with fail
            go_loopg [5, 8] n0 (fun gk vw vl wr => ∃ (ws ds : List Int), IsInts wr vw ws ∧ IsInts wr vl ds ∧ DepP ws ds ∧ ws.length = N ∧ (∀ z ∈ ws, 0 ≤ z ∧ z ≤ 1099511627776) ∧ OfR gk ws rs ∧ Below w1.heap.size w1 wr ∧ (∀ k, vl.ownBlock = some k → w1.heap.size ≤ k))
            case atStart => exact ⟨ups zs, ds, HU3.out, HI3.out, HD3.out, hul.out, fun z hz => by
              obtain ⟨x, hx, rfl⟩ := List.mem_map.1 hz
              have := HW.out x hx
              split <;> omega, HOF.out, HB3.out, HO3.out⟩
            case round =>
              obtain ⟨ws, ds2, hws, hds, hdp, hwl, hwb, hor, hB4, hO4⟩ := hrel
              have HO4 := Lib.hid hO4
              clear hO4
              have HWS := Lib.hid hws
              have HDS := Lib.hid hds
              have HDP := Lib.hid hdp
              have HWL := Lib.hid hwl
              have HWB := Lib.hid hwb
              have HOR := Lib.hid hor
              have HB4 := Lib.hid hB4
              have hdl : ds2.length ≤ 9223372036854775807 := by have := hdp.len; omega
              have HLG := Lib.hid (longest_any _ ds2 wr hds hdl)
              obtain ⟨a1, cap1, rfl, _⟩ := hws
              obtain ⟨a2, cap2, rfl, _⟩ := hds
              clear hdp hwl hwb hor hB4
              by_cases hgt : 20 < lg ds2
              · have hno : Hid (¬ ∀ y ∈ ds2, y ≤ 20) := Lib.hid (fun h => by have := (lg_le (zs := ds2) (b := 20) (by decide)).2 h; omega)
                obtain ⟨k, hk, hor2⟩ : ∃ k, gk = k + 1 ∧ OfR k (hvs ws) rs := by
                  cases HOR.out with
                  | now _ _ k1 k2 => exact absurd (by rw [HDP.out.same k1]; exact k2) hno.out
                  | later n _ ys _ k1 k2 k3 => exact ⟨n, rfl, k3⟩
                have HOR2 := Lib.hid hor2
                have HK := Lib.hid hk
                obtain ⟨G, hG⟩ : ∃ G, lg ds2 = G := ⟨_, rfl⟩
                rw [hG] at hgt HLG
                clear hor2 hk hG
                go_wp2_with fail
                refine HLG.out.mono ?_
                rintro e w4 ⟨rfl, rfl⟩
                go_wp2_with fail
                refine (halved_any _ ws w4 HWS.out (by rw [HWL.out]; omega) (fun z hz => by have := HWB.out z hz; omega)).mono ?_
                rintro e w5 ⟨r5, rfl, hi5, hb5⟩
                have HI5 := Lib.hid hi5
                have HB5 := Lib.hid hb5
                clear hi5 hb5
                go_wp2_with fail
                refine (depths_loc _ (hvs ws) w5 HI5.out (by rw [hvs_len, HWL.out]; omega) (by rw [hvs_len, HWL.out]; omega) (hvs_within (fun z hz => by have := HWB.out z hz; omega))).mono ?_
                rintro e w6 ⟨r6, ds6, rfl, hi6, hd6, hb6, ho6⟩
                have HO6 : Hid (∀ k, r6.ownBlock = some k → w1.heap.size ≤ k) := Lib.hid (fun k hk => Nat.le_trans (Nat.le_trans HB4.out.size HB5.out.size) (ho6 k hk))
                have HI6 := Lib.hid hi6
                have HD6 := Lib.hid hd6
                have HB6 := Lib.hid hb6
                clear hi6 hd6 hb6 ho6
                go_wp2_with fail
                go_roundg k
                case rel => exact ⟨hvs ws, ds6, HI5.out.below HB6.out, HI6.out, HD6.out, by rw [hvs_len, HWL.out], hvs_within (fun z hz => by have := HWB.out z hz; omega), HOR2.out, HB4.out.trans ((HB5.out.mono HB4.out.size).trans (HB6.out.mono (Nat.le_trans HB4.out.size HB5.out.size))), HO6.out⟩
                case measure => have := HK.out; omega
              · have hrs : Hid (rs = ds2) := Lib.hid (by
                  have h20 : ∀ y ∈ ds2, y ≤ 20 := (lg_le (zs := ds2) (b := 20) (by decide)).1 (by omega)
                  cases HOR.out with
                  | now _ _ k1 k2 => exact k1.same HDP.out
                  | later n _ ys _ k1 k2 k3 => exact absurd (by rw [← HDP.out.same k1]; exact h20) k2)
                obtain ⟨G, hG⟩ : ∃ G, lg ds2 = G := ⟨_, rfl⟩
                rw [hG] at hgt HLG
                clear hG
                go_wp2_with fail
                refine HLG.out.mono ?_
                rintro e w4 ⟨rfl, rfl⟩
                go_wp2_with fail
                go_ret2
                exact ⟨_, ds2, 0, rfl, HDS.out, Or.inr ⟨⟨by have := HN.out; omega, by have := HN.out; omega, HW.out⟩, ⟨n0, hn0, by rw [← hrs.out]; exact HOF.out⟩, rfl⟩, HB4.out, HO4.out⟩
      · have HW := Lib.hid hw
        have HA := Lib.hid (areWithin_any _ zs 0 1099511627776 false w HV.out ⟨fun h => (by cases h), fun h => absurd h hw⟩ hz)
        clear hw
        go_enter Tryz.func249, Tryz.ntmps249
        go_wp2_with fail
        refine HA.out.mono ?_
        rintro e w1 ⟨rfl, rfl⟩
        go_wp2_with fail
        go_ret2
        exact ⟨_, [], 1, rfl, HNIL.out, Or.inl ⟨fun h => HW.out h.2.2, rfl, rfl⟩, Below.refl _ _, fun k hk => absurd hk (by simp [Value.ownBlock])⟩
end Go.Proofs.YtojphcoghbiepaaGreatDoor
namespace Go.Proofs.YtojphcoghbiepaaGreatDoor
namespace TabM
open Go.RowKit FreqM HufM
set_option linter.unusedVariables false
def nTab (n : Int) : Nat := if n < 200 then 2 else if n < 600 then 3 else if n < 1200 then 4 else if n < 2400 then 5 else 6
theorem nTab_bd (n : Int) : 2 ≤ nTab n ∧ nTab n ≤ 6 := by unfold nTab; split <;> (try split) <;> (try split) <;> (try split) <;> omega
/-- Bounds that are reached, of the first k. -/
def nB (n : Int) (k : Nat) : Nat := 2 + (if 0 < k ∧ 200 ≤ n then 1 else 0) + (if 1 < k ∧ 600 ≤ n then 1 else 0) + (if 2 < k ∧ 1200 ≤ n then 1 else 0) + (if 3 < k ∧ 2400 ≤ n then 1 else 0)
theorem nB_zero (n : Int) : nB n 0 = 2 := by simp [nB]
theorem nB_all (n : Int) : nB n 4 = nTab n := by
  unfold nB nTab
  simp only [show (0 : Nat) < 4 by omega, show (1 : Nat) < 4 by omega, show (2 : Nat) < 4 by omega, show (3 : Nat) < 4 by omega, true_and]
  split <;> split <;> split <;> split <;> (try split) <;> (try split) <;> (try split) <;> (try split) <;> omega
def bnd (k : Nat) : Int := if k = 0 then 200 else if k = 1 then 600 else if k = 2 then 1200 else 2400
theorem nB_succ (n : Int) (k : Nat) (hk : k < 4) : nB n (k + 1) = nB n k + if bnd k ≤ n then 1 else 0 := by
  rcases (by omega : k = 0 ∨ k = 1 ∨ k = 2 ∨ k = 3) with rfl | rfl | rfl | rfl <;> simp [nB, bnd] <;> omega
theorem nB_le (n : Int) (k : Nat) : nB n k ≤ 6 := by
  unfold nB
  split <;> split <;> split <;> split <;> omega
/-! ### The first lengths -/
def sm (cs : List Int) (k : Nat) : Int := sumF (cs.take k)
theorem sm_zero (cs : List Int) : sm cs 0 = 0 := rfl
theorem sm_succ (cs : List Int) {k : Nat} (hk : k < cs.length) : sm cs (k + 1) = sm cs k + cs.getD k 0 := by
  unfold sm
  rw [List.take_succ_eq_append_getElem hk, sumF_app, List.getD_eq_getElem?_getD, List.getElem?_eq_getElem hk]
  simp [sumF]
theorem sm_nn {cs : List Int} (h : ∀ x ∈ cs, 0 ≤ x) (k : Nat) : 0 ≤ sm cs k := sumF_nn _ (fun x hx => h x (List.mem_of_mem_take hx))
theorem sm_le {cs : List Int} (h : Nums cs) : ∀ {k : Nat}, k ≤ cs.length → sm cs k ≤ 1099511627776 * (k : Int)
  | 0, _ => by rw [sm_zero]; omega
  | k + 1, hk => by
    have h1 := sm_le h (k := k) (by omega)
    have h2 := (h _ (FreqM.getD_mem cs k (by omega))).2
    rw [sm_succ cs (by omega)]
    omega
/-- The table to which symbol k belongs. -/
def tb (cs : List Int) (n : Int) (k : Nat) : Nat := (min (sm cs k) (n - 1) * (nTab n : Int) / n).toNat
theorem tb_is {cs : List Int} {n : Int} (h : ∀ x ∈ cs, 0 ≤ x) (hn : 1 ≤ n) (k : Nat) : min (sm cs k) (n - 1) * (nTab n : Int) / n = (tb cs n k : Int) ∧ tb cs n k < nTab n := by
  have h0 := sm_nn h k
  have h1 := nTab_bd n
  have h2 : 0 ≤ min (sm cs k) (n - 1) := by omega
  have h3 : min (sm cs k) (n - 1) ≤ n - 1 := by omega
  have h4 : 0 ≤ min (sm cs k) (n - 1) * (nTab n : Int) := Int.mul_nonneg h2 (by omega)
  have h5 : 0 ≤ min (sm cs k) (n - 1) * (nTab n : Int) / n := Int.ediv_nonneg h4 (by omega)
  have h6 : min (sm cs k) (n - 1) * (nTab n : Int) / n < (nTab n : Int) := by
    rw [Int.ediv_lt_iff_lt_mul (by omega)]
    have : min (sm cs k) (n - 1) * (nTab n : Int) ≤ (n - 1) * (nTab n : Int) := Int.mul_le_mul_of_nonneg_right h3 (by omega)
    have e : (n - 1) * (nTab n : Int) = (nTab n : Int) * n - (nTab n : Int) := by rw [Int.sub_mul, Int.mul_comm]; omega
    omega
  unfold tb
  omega
/-- Row p behind k symbols. -/
def fRow (cs : List Int) (n : Int) (k p : Nat) : List Int := (List.range cs.length).map fun j => if j < k ∧ tb cs n j = p then 0 else 15
def firstK (cs : List Int) (n : Int) (k : Nat) : List (List Int) := (List.range (nTab n)).map (fRow cs n k)
def firstM (cs : List Int) (n : Int) : List (List Int) := firstK cs n cs.length
theorem fRow_len (cs : List Int) (n : Int) (k p : Nat) : (fRow cs n k p).length = cs.length := by simp [fRow]
theorem firstK_len (cs : List Int) (n : Int) (k : Nat) : (firstK cs n k).length = nTab n := by simp [firstK]
theorem fRow_zero (cs : List Int) (n : Int) (p : Nat) : fRow cs n 0 p = List.replicate cs.length 15 := by
  unfold fRow
  apply List.ext_getElem
  · simp
  · intro i h1 h2
    simp
theorem fRow_set (cs : List Int) (n : Int) (k : Nat) (hk : k < cs.length) : fRow cs n (k + 1) (tb cs n k) = (fRow cs n k (tb cs n k)).set k 0 := by
  unfold fRow
  apply List.ext_getElem
  · simp
  · intro i h1 h2
    rw [List.getElem_set]
    simp only [List.getElem_map, List.getElem_range]
    by_cases e : k = i
    · subst e
      simp
    · rw [if_neg e]
      by_cases hi : i < k
      · have h3 : i < k + 1 := by omega
        simp [hi, h3]
      · have h3 : ¬ i < k + 1 := by omega
        simp [hi, h3]
theorem fRow_other (cs : List Int) (n : Int) (k p : Nat) (hp : p ≠ tb cs n k) : fRow cs n (k + 1) p = fRow cs n k p := by
  unfold fRow
  apply List.map_congr_left
  intro i hi
  by_cases e : i = k
  · subst e
    have h1 : ¬ (i < i + 1 ∧ tb cs n i = p) := fun h => hp h.2.symm
    have h2 : ¬ (i < i ∧ tb cs n i = p) := fun h => by omega
    rw [if_neg h1, if_neg h2]
  · have h3 : (i < k + 1 ∧ tb cs n i = p) ↔ (i < k ∧ tb cs n i = p) := by omega
    simp only [h3]
theorem firstK_succ (cs : List Int) (n : Int) (k : Nat) (hk : k < cs.length) (ht : tb cs n k < nTab n) : firstK cs n (k + 1) = (firstK cs n k).set (tb cs n k) (((firstK cs n k).getD (tb cs n k) []).set k 0) := by
  apply List.ext_getElem
  · simp [firstK]
  · intro p h1 h2
    rw [List.getElem_set]
    have hg : (firstK cs n k).getD (tb cs n k) [] = fRow cs n k (tb cs n k) := by
      rw [List.getD_eq_getElem?_getD, List.getElem?_eq_getElem (by rw [firstK_len]; exact ht)]
      simp [firstK]
    by_cases e : tb cs n k = p
    · rw [if_pos e, hg, ← fRow_set cs n k hk]
      subst e
      simp [firstK]
    · rw [if_neg e]
      simp only [firstK, List.getElem_map, List.getElem_range]
      exact fRow_other cs n k p (fun h => e h.symm)
theorem fRow_bd (cs : List Int) (n : Int) (k p : Nat) : Within 0 20 (fRow cs n k p) := by
  intro z hz
  unfold fRow at hz
  obtain ⟨i, _, rfl⟩ := List.mem_map.1 hz
  split <;> omega
/-! ### A group's pick -/
def rw_ (rows : List (List Int)) (p : Nat) : List Int := rows.getD p []
def pk (g : List Int) (rows : List (List Int)) : Nat → Nat
  | 0 => 0
  | k + 1 => if costS g (rw_ rows k) < costS g (rw_ rows (pk g rows k)) then k else pk g rows k
def pickM (g : List Int) (rows : List (List Int)) : Nat := pk g rows rows.length
theorem pk_le (g : List Int) (rows : List (List Int)) : ∀ k, pk g rows k ≤ k - 1
  | 0 => Nat.le_refl _
  | k + 1 => by
    have := pk_le g rows k
    rw [pk]
    split <;> omega
theorem pickM_lt (g : List Int) {rows : List (List Int)} (h : 1 ≤ rows.length) : pickM g rows < rows.length := by
  have := pk_le g rows rows.length
  unfold pickM
  omega
/-! ### Lengths of counts, as a function -/
open Classical in
noncomputable def lensF (zs : List Int) : List Int := if h : ∃ rs, ∃ n, n ≤ 40 ∧ OfR n (ups zs) rs then h.choose else []
theorem lensF_of {zs rs : List Int} {n : Nat} (hn : n ≤ 40) (h : OfR n (ups zs) rs) : lensF zs = rs := by
  have hx : ∃ rs, ∃ n, n ≤ 40 ∧ OfR n (ups zs) rs := ⟨rs, n, hn, h⟩
  unfold lensF
  rw [dif_pos hx]
  obtain ⟨m, _, hm⟩ := hx.choose_spec
  exact (hm.same n rs h).1
theorem lensF_spec {zs : List Int} (h : OfOk zs) : ∃ n, n ≤ 40 ∧ OfR n (ups zs) (lensF zs) := by
  obtain ⟨n, rs, hn, ho⟩ := OfR.exists 40 (ups zs) (ups_bd h.2.2) (by rw [ups_len]; have := h.1; omega) (by rw [ups_len]; have := h.2.1; omega)
  exact ⟨n, hn, by rw [lensF_of hn ho]; exact ho⟩
theorem lensF_whole {zs : List Int} (h : OfOk zs) : (lensF zs).length = zs.length ∧ Within 1 20 (lensF zs) ∧ shr (lensF zs) = 1048576 := by
  obtain ⟨n, hn, ho⟩ := lensF_spec h
  have := ho.whole (by rw [ups_len]; have := h.1; omega)
  rw [ups_len] at this
  exact ⟨this.1, this.2.1, this.2.2⟩
theorem OfP.fun {zs rs : List Int} {err : Nat} (hp : OfP zs rs err) (h : OfOk zs) : rs = lensF zs ∧ err = 0 := by
  rcases hp with ⟨h1, _⟩ | ⟨_, ⟨n, hn, ho⟩, e⟩
  · exact absurd h h1
  · exact ⟨(lensF_of hn ho).symm, e⟩
/-! ### A round -/
def took (zs : List Int) (rows : List (List Int)) (p : Nat) : Nat → List Int
  | 0 => []
  | q + 1 => took zs rows p q ++ (if pickM (grp zs q) rows = p then grp zs q else [])
def picksM (zs : List Int) (rows : List (List Int)) (q : Nat) : List Int := (List.range q).map fun i => (pickM (grp zs i) rows : Int)
theorem picksM_succ (zs : List Int) (rows : List (List Int)) (q : Nat) : picksM zs rows (q + 1) = picksM zs rows q ++ [(pickM (grp zs q) rows : Int)] := by simp [picksM, List.range_succ]
theorem picksM_len (zs : List Int) (rows : List (List Int)) (q : Nat) : (picksM zs rows q).length = q := by simp [picksM]
theorem took_len (zs : List Int) (rows : List (List Int)) (p : Nat) : ∀ q, (took zs rows p q).length ≤ 50 * q
  | 0 => Nat.le_refl _
  | q + 1 => by
    have h1 := took_len zs rows p q
    have h2 := grp_len zs q
    rw [took, List.length_append]
    split
    · omega
    · simp only [List.length_nil]; omega
theorem took_len2 (zs : List Int) (rows : List (List Int)) (p : Nat) : ∀ q, (took zs rows p q).length ≤ zs.length - (zs.length - 50 * q)
  | 0 => Nat.zero_le _
  | q + 1 => by
    have h1 := took_len2 zs rows p q
    have h2 := grp_len zs q
    rw [took, List.length_append]
    split
    · omega
    · simp only [List.length_nil]; omega
theorem grp_syms {zs : List Int} {n : Int} (h : Syms zs n) (i : Nat) : Syms (grp zs i) n := fun x hx => h x (List.mem_of_mem_drop (List.mem_of_mem_take hx))
noncomputable def roundM (zs : List Int) (N : Nat) (rows : List (List Int)) : List (List Int) := (List.range rows.length).map fun p => lensF (counts (took zs rows p (ng zs.length)) N)
theorem roundM_len (zs : List Int) (N : Nat) (rows : List (List Int)) : (roundM zs N rows).length = rows.length := by simp [roundM]
/-- Tables: from two to six rows of N lengths. -/
def TabOk (N : Nat) (rows : List (List Int)) : Prop := 2 ≤ rows.length ∧ rows.length ≤ 6 ∧ ∀ r ∈ rows, r.length = N ∧ Within 0 20 r
theorem cnt_ok {zs : List Int} {N : Nat} (h3 : 3 ≤ N) (h258 : N ≤ 258) (hz : zs.length ≤ 2000000) : OfOk (counts zs N) := by
  refine ⟨by rw [counts_len]; exact h3, by rw [counts_len]; exact h258, fun z hx => ?_⟩
  have := counts_nn zs N z hx
  omega
theorem roundM_ok {zs : List Int} {N : Nat} {rows : List (List Int)} (h3 : 3 ≤ N) (h258 : N ≤ 258) (hz : zs.length ≤ 2000000) (h : TabOk N rows) : TabOk N (roundM zs N rows) := by
  refine ⟨by rw [roundM_len]; exact h.1, by rw [roundM_len]; exact h.2.1, fun r hr => ?_⟩
  unfold roundM at hr
  obtain ⟨p, _, rfl⟩ := List.mem_map.1 hr
  have h1 := lensF_whole (cnt_ok (zs := took zs rows p (ng zs.length)) h3 h258 (by have := took_len2 zs rows p (ng zs.length); omega))
  rw [counts_len] at h1
  exact ⟨h1.1, fun z hz => by have := h1.2.1 z hz; omega⟩
theorem firstM_ok (cs : List Int) (n : Int) : TabOk cs.length (firstM cs n) := by
  have h := nTab_bd n
  refine ⟨by rw [firstM, firstK_len]; exact h.1, by rw [firstM, firstK_len]; exact h.2, fun r hr => ?_⟩
  unfold firstM firstK at hr
  obtain ⟨p, _, rfl⟩ := List.mem_map.1 hr
  exact ⟨fRow_len _ _ _ _, fRow_bd _ _ _ _⟩
/-- The tables behind so many rounds. -/
noncomputable def rnd (zs : List Int) (N : Nat) : Nat → List (List Int)
  | 0 => firstM (counts zs N) (zs.length : Int)
  | i + 1 => roundM zs N (rnd zs N i)
theorem rnd_ok {zs : List Int} {N : Nat} (h3 : 3 ≤ N) (h258 : N ≤ 258) (hz : zs.length ≤ 2000000) : ∀ i, TabOk N (rnd zs N i)
  | 0 => by
    have := firstM_ok (counts zs N) (zs.length : Int)
    rw [counts_len] at this
    exact this
  | i + 1 => roundM_ok h3 h258 hz (rnd_ok h3 h258 hz i)
theorem rnd_len (zs : List Int) (N : Nat) : ∀ i, (rnd zs N i).length = nTab (zs.length : Int)
  | 0 => by rw [rnd, firstM, firstK_len]
  | i + 1 => by rw [rnd, roundM_len, rnd_len zs N i]
theorem TabOk.at_ {N : Nat} {rows : List (List Int)} (h : TabOk N rows) {p : Nat} (hp : p < rows.length) : (rw_ rows p).length = N ∧ Within 0 20 (rw_ rows p) :=
  h.2.2 _ (by unfold rw_; rw [List.getD_eq_getElem?_getD, List.getElem?_eq_getElem hp]; exact List.getElem_mem hp)
theorem costS_bd {g ls : List Int} {N : Nat} (hs : Syms g (N : Int)) (hl : ls.length = N) (hw : Within 0 20 ls) : 0 ≤ costS g ls ∧ costS g ls ≤ 20 * (g.length : Int) := by
  induction g with
  | nil => exact ⟨Int.le_refl _, Int.le_refl _⟩
  | cons x t ih =>
    have h1 := ih (fun y hy => hs y (List.mem_cons_of_mem _ hy))
    have h2 := hs x (List.mem_cons_self)
    have h3 := hw (ls.getD x.toNat 0) (FreqM.getD_mem ls x.toNat (by omega))
    have e : costS (x :: t) ls = ls.getD x.toNat 0 + costS t ls := rfl
    rw [e, List.length_cons]
    omega
end TabM
end Go.Proofs.YtojphcoghbiepaaGreatDoor
namespace Go.Proofs.YtojphcoghbiepaaGreatDoor
namespace CodM
open Go.RowKit BitM HufM CanM
set_option linter.unusedVariables false
/-! ### One symbol -/
open Classical in
/-- The symbol with whose code bits begin. -/
noncomputable def getM (zs : List Int) (q : List Bool) : Option Nat := if h : ∃ i, i < zs.length ∧ Begins zs (ln zs i, i) q then some h.choose else none
theorem getM_some {zs : List Int} {q : List Bool} {i : Nat} (hw : WholeP zs) (hi : i < zs.length) (h : Begins zs (ln zs i, i) q) : getM zs q = some i := by
  have hx : ∃ i, i < zs.length ∧ Begins zs (ln zs i, i) q := ⟨i, hi, h⟩
  unfold getM
  rw [dif_pos hx]
  have h1 := hx.choose_spec
  have l1 := ln_bd hw.1 hi
  have l2 := ln_bd hw.1 h1.1
  have := begins_one (ent_of h1.1) (ent_of hi) (by show ln zs _ ≤ 20; omega) (by show ln zs _ ≤ 20; omega) h1.2 h
  exact congrArg some (congrArg Prod.snd this)
theorem getM_is {zs : List Int} {q : List Bool} {i : Nat} (h : getM zs q = some i) : i < zs.length ∧ Begins zs (ln zs i, i) q := by
  unfold getM at h
  split at h
  · rename_i hx
    obtain rfl := Option.some.inj h
    exact hx.choose_spec
  · cases h
theorem getM_no {zs : List Int} {q : List Bool} (h : ∀ i, i < zs.length → ¬ Begins zs (ln zs i, i) q) : getM zs q = none := by
  unfold getM
  rw [dif_neg]
  rintro ⟨i, hi, hb⟩
  exact h i hi hb
theorem begins_app {zs : List Int} {x : Nat × Nat} {q : List Bool} (r : List Bool) (h : Begins zs x q) : Begins zs x (q ++ r) := by
  obtain ⟨h1, h2⟩ := h
  exact ⟨by rw [List.length_append]; omega, by rw [List.take_append_of_le_length h1]; exact h2⟩
theorem getM_app {zs : List Int} {q : List Bool} {i : Nat} (r : List Bool) (hw : WholeP zs) (h : getM zs q = some i) : getM zs (q ++ r) = some i := by
  obtain ⟨h1, h2⟩ := getM_is h
  exact getM_some hw h1 (begins_app r h2)
theorem getM_code {zs : List Int} {i : Nat} (hw : WholeP zs) (hi : i < zs.length) (r : List Bool) : getM zs (code zs i ++ r) = some i := getM_some hw hi (begins_code hw hi r)
/-! ### What is read -/
inductive R14 where
  | ok (l : List Int) (n : Nat)
  | err (e : Int) (l : List Int)
def R14.skip (k : Nat) : R14 → R14
  | .ok l n => .ok l (k + n)
  | .err e l => .err e l
theorem skip_skip (r : R14) (j k : Nat) : (r.skip j).skip k = r.skip (k + j) := by
  cases r <;> simp [R14.skip, Nat.add_assoc]
/-- The table of the group of the next symbol. -/
def tb (rows : List (List Int)) (ps : List Nat) (n : Nat) : List Int := rows.getD (ps.getD (n / 50) 0) []
/-- Symbols, behind l. -/
noncomputable def rdS (rows : List (List Int)) (ps : List Nat) (N most : Nat) : Nat → List Bool → List Int → R14
  | 0, _, l => .err 3 l
  | f + 1, q, l =>
    if ps.length ≤ l.length / 50 then .err 25 l
    else match getM (tb rows ps l.length) q with
      | none => .err 3 l
      | some i =>
        if l.length = most then .err 2 []
        else if i + 1 = N then .ok (l ++ [(i : Int)]) (ln (tb rows ps l.length) i)
        else (rdS rows ps N most f (q.drop (ln (tb rows ps l.length) i)) (l ++ [(i : Int)])).skip (ln (tb rows ps l.length) i)
/-- Tables, and then symbols. -/
noncomputable def rdT (ps : List Nat) (N most : Nat) : Nat → List Bool → List (List Int) → R14
  | 0, q, rows => rdS rows ps N most (q.length + 1) q []
  | m + 1, q, rows => match DelM.rd q N with
    | .short => .err 3 []
    | .table => .err 22 []
    | .ok ls n => open Classical in if WholeP ls then (rdT ps N most m (q.drop n) (rows ++ [ls])).skip n else .err 22 []
/-- All. -/
noncomputable def rdC (Q : List Bool) (N most : Nat) : R14 := match PkM.rd Q with
  | .short => .err 3 []
  | .bad _ => .err 25 []
  | .ok ps k => (rdT ps N most (num (Q.take 3)) (Q.drop k) []).skip k
theorem rdS_fuel {rows : List (List Int)} {ps : List Nat} {N most : Nat} (hw : ∀ n, n / 50 < ps.length → WholeP (tb rows ps n)) : ∀ (f : Nat) (q : List Bool) (l : List Int), q.length < f → rdS rows ps N most f q l = rdS rows ps N most (q.length + 1) q l
  | 0, q, l, h => absurd h (Nat.not_lt_zero _)
  | f + 1, q, l, h => by
    rw [rdS, rdS]
    by_cases hp : ps.length ≤ l.length / 50
    · rw [if_pos hp, if_pos hp]
    · rw [if_neg hp, if_neg hp]
      have hwh := hw l.length (by omega)
      cases hg : getM (tb rows ps l.length) q with
      | none => rfl
      | some i =>
        obtain ⟨h1, h2⟩ := getM_is hg
        have h3 := ln_bd hwh.1 h1
        have h4 : ln (tb rows ps l.length) i ≤ q.length := h2.1
        have hl : (q.drop (ln (tb rows ps l.length) i)).length = q.length - ln (tb rows ps l.length) i := List.length_drop
        show (if l.length = most then _ else if i + 1 = N then _ else (rdS rows ps N most f (q.drop (ln (tb rows ps l.length) i)) (l ++ [(i : Int)])).skip _) = (if l.length = most then _ else if i + 1 = N then _ else (rdS rows ps N most q.length (q.drop (ln (tb rows ps l.length) i)) (l ++ [(i : Int)])).skip _)
        rw [rdS_fuel hw f _ _ (by omega), rdS_fuel hw q.length _ _ (by omega)]
end CodM
end Go.Proofs.YtojphcoghbiepaaGreatDoor
namespace Go.Proofs.YtojphcoghbiepaaGreatDoor
namespace CodM
open Go.RowKit BitM HufM CanM
set_option linter.unusedVariables false
/-- What is due: the fields, a pick, a step of lengths, a symbol (or nothing any more). -/
inductive CSt where
  | fields
  | pick (t n : Nat) (ps o : List Nat)
  | len (t : Nat) (ps : List Nat) (gs : List (List Int)) (ls : List Int) (now : Int)
  | sym (t : Nat) (ps : List Nat) (gs : List (List Int)) (cnt : Nat) (done : Bool)
def CSt.held (N : Nat) : CSt → Nat
  | .fields => 0
  | .pick _ _ ps _ => ps.length
  | .len _ ps gs _ _ => ps.length + gs.length * N
  | .sym _ ps gs _ _ => ps.length + gs.length * N
def CSt.cnt : CSt → Nat
  | .sym _ _ _ c _ => c
  | _ => 0
def CSt.done : CSt → Bool
  | .sym _ _ _ _ d => d
  | _ => false
/-- Tables of whole codes, so many symbols each. -/
def Whs (N : Nat) (gs : List (List Int)) : Prop := ∀ g ∈ gs, g.length = N ∧ WholeP g
/-- The picks that bits tell. -/
def Hd (Q : List Bool) (ps : List Nat) (t : Nat) : Prop := (∃ k, PkM.rd Q = .ok ps k) ∧ num (Q.take 3) = t ∧ t ≤ 6 ∧ 2 ≤ t ∧ 1 ≤ ps.length ∧ ps.length ≤ 32767 ∧ ∀ x ∈ ps, x < t
/-- What is known behind a bits of all is right. -/
def RtC (Q : List Bool) (N most a : Nat) (L : List Int) : CSt → Prop
  | .fields => a = 0 ∧ L = []
  | .pick t n ps o => PkM.Rt Q a t n ps o ∧ 1 ≤ n ∧ ps.length < n ∧ L = []
  | .len t ps gs ls now => Hd Q ps t ∧ Whs N gs ∧ gs.length < t ∧ ls.length < N ∧ L = [] ∧ ∃ j, j ≤ a ∧ rdC Q N most = (rdT ps N most (t - gs.length) (Q.drop j) gs).skip j ∧ DelM.Rt (Q.drop j) N (a - j) ls now
  | .sym t ps gs cnt done => Hd Q ps t ∧ Whs N gs ∧ gs.length = t ∧ L.length = cnt ∧ cnt / 50 ≤ ps.length ∧ (if done then rdC Q N most = .ok L a else L.length ≤ most ∧ rdC Q N most = (rdS gs ps N most ((Q.drop a).length + 1) (Q.drop a) L).skip a)
theorem RtC.start (Q : List Bool) (N most : Nat) : RtC Q N most 0 [] .fields := ⟨rfl, rfl⟩
theorem pstep_ps0 (q : List Bool) (t : Nat) (ps o : List Nat) : (PkM.pstep q t 0 ps o false).ps = ps := by
  unfold PkM.pstep
  rw [if_neg (by simp), if_pos rfl]
  split
  · rfl
  · split
    · rfl
    · split <;> rfl
theorem pstep_n (q : List Bool) (t n : Nat) (ps o : List Nat) (hn : n ≠ 0) : (PkM.pstep q t n ps o false).n = n ∧ (PkM.pstep q t n ps o false).t = t ∧ (PkM.pstep q t n ps o false).ps.length ≤ ps.length + 1 ∧ ((PkM.pstep q t n ps o false).err = 0 → (PkM.pstep q t n ps o false).ps.length = ps.length + 1) := by
  unfold PkM.pstep
  rw [if_neg (by simp), if_neg hn]
  split
  · exact ⟨rfl, rfl, Nat.le_succ _, fun h => absurd h (by show ¬ (25 : Int) = 0; decide)⟩
  · split
    · exact ⟨rfl, rfl, Nat.le_succ _, fun h => absurd h (by show ¬ (3 : Int) = 0; decide)⟩
    · refine ⟨rfl, rfl, ?_, fun _ => ?_⟩
      · show (ps ++ _).length ≤ _
        simp
      · show (ps ++ _).length = _
        simp
theorem rdC_short {Q : List Bool} {N most : Nat} (h : PkM.rd Q = .short) : rdC Q N most = .err 3 [] := by unfold rdC; rw [h]
theorem rdC_bad {Q : List Bool} {N most n : Nat} (h : PkM.rd Q = .bad n) : rdC Q N most = .err 25 [] := by unfold rdC; rw [h]
theorem rdC_ok {Q : List Bool} {N most k : Nat} {ps : List Nat} (h : PkM.rd Q = .ok ps k) : rdC Q N most = (rdT ps N most (num (Q.take 3)) (Q.drop k) []).skip k := by unfold rdC; rw [h]
theorem rt_hd {Q : List Bool} {a t n : Nat} {ps o : List Nat} (h : PkM.Rt Q a t n ps o) (hn : 1 ≤ n) (hl : ps.length = n) : Hd Q ps t ∧ PkM.rd Q = .ok ps a := by
  have h1 := h.all hn hl
  rcases h with ⟨rfl, _⟩ | ⟨h2, h6, hn1, hn2, hle, hO, hlt, _⟩
  · omega
  · exact ⟨⟨⟨a, h1.1⟩, h1.2, h6, h2, by omega, by omega, hlt⟩, h1.1⟩
/-- The first step. -/
theorem RtC.fields {Q q r : List Bool} {N most : Nat} (o : List Nat) (hq : Q.drop 0 = q ++ r) :
    ((PkM.pstep q 0 0 [] o false).err = 0 ∧ (PkM.pstep q 0 0 [] o false).bad = false ∧ 1 ≤ (PkM.pstep q 0 0 [] o false).used ∧ (PkM.pstep q 0 0 [] o false).used ≤ q.length ∧ RtC Q N most (PkM.pstep q 0 0 [] o false).used [] (.pick (PkM.pstep q 0 0 [] o false).t (PkM.pstep q 0 0 [] o false).n (PkM.pstep q 0 0 [] o false).ps (PkM.pstep q 0 0 [] o false).o)) ∨
    ((PkM.pstep q 0 0 [] o false).err = 25 ∧ (PkM.pstep q 0 0 [] o false).used ≤ q.length ∧ rdC Q N most = .err 25 []) ∨
    (PkM.pstep q 0 0 [] o false = ⟨3, 0, 0, 0, [], o, false⟩ ∧ (r = [] → rdC Q N most = .err 3 [])) := by
  have hp := pstep_ps0 q 0 [] o
  rcases (PkM.Rt.start Q o).step (Or.inl rfl) q r hq with ⟨e1, e2, e3, e4, e5, e6⟩ | ⟨e1, e2, e3, e4, _⟩ | ⟨e1, e2⟩
  · refine Or.inl ⟨e1, e2, e3, e4, by rwa [Nat.zero_add] at e5, e6, by rw [hp]; exact e6, rfl⟩
  · exact Or.inr (Or.inl ⟨e1, e3, rdC_bad e4⟩)
  · exact Or.inr (Or.inr ⟨e1, fun h => rdC_short (e2 h)⟩)
/-- A pick. -/
theorem RtC.pick {Q q r : List Bool} {N most a t n : Nat} {ps o : List Nat} {L : List Int} (h3 : 3 ≤ N) (h : RtC Q N most a L (.pick t n ps o)) (hq : Q.drop a = q ++ r) :
    ((PkM.pstep q t n ps o false).err = 0 ∧ (PkM.pstep q t n ps o false).bad = false ∧ 1 ≤ (PkM.pstep q t n ps o false).used ∧ (PkM.pstep q t n ps o false).used ≤ q.length ∧ (PkM.pstep q t n ps o false).n = n ∧ (PkM.pstep q t n ps o false).t = t ∧ (PkM.pstep q t n ps o false).ps.length = ps.length + 1 ∧
      ((PkM.pstep q t n ps o false).ps.length < n ∧ RtC Q N most (a + (PkM.pstep q t n ps o false).used) L (.pick t n (PkM.pstep q t n ps o false).ps (PkM.pstep q t n ps o false).o) ∨ (PkM.pstep q t n ps o false).ps.length = n ∧ RtC Q N most (a + (PkM.pstep q t n ps o false).used) L (.len t (PkM.pstep q t n ps o false).ps [] [] 0))) ∨
    ((PkM.pstep q t n ps o false).err = 25 ∧ (PkM.pstep q t n ps o false).used ≤ q.length ∧ rdC Q N most = .err 25 L) ∨
    (PkM.pstep q t n ps o false = ⟨3, 0, t, n, ps, o, false⟩ ∧ (r = [] → rdC Q N most = .err 3 L)) := by
  obtain ⟨h1, hn, hl, rfl⟩ := h
  obtain ⟨k1, k2, k3, k4⟩ := pstep_n q t n ps o (by omega)
  rcases h1.step (Or.inr hl) q r hq with ⟨e1, e2, e3, e4, e5, e6⟩ | ⟨e1, e2, e3, e4, _⟩ | ⟨e1, e2⟩
  · refine Or.inl ⟨e1, e2, e3, e4, k1, k2, k4 e1, ?_⟩
    rw [k1, k2] at e5
    have k5 := k4 e1
    by_cases hlt : (PkM.pstep q t n ps o false).ps.length < n
    · exact Or.inl ⟨hlt, e5, hn, hlt, rfl⟩
    · have hle : (PkM.pstep q t n ps o false).ps.length = n := by omega
      obtain ⟨hh, hr⟩ := rt_hd e5 hn hle
      refine Or.inr ⟨hle, hh, fun g hg => absurd hg (by simp), by show 0 < t; have := hh.2.2.2.1; omega, by show 0 < N; omega, rfl, _, Nat.le_refl _, ?_, ?_⟩
      · rw [rdC_ok hr, hh.2.1]
        rfl
      · rw [Nat.sub_self]
        exact DelM.Rt.start _ _
  · exact Or.inr (Or.inl ⟨e1, e3, rdC_bad e4⟩)
  · exact Or.inr (Or.inr ⟨e1, fun h => rdC_short (e2 h)⟩)
theorem rdT_short {ps : List Nat} {N most m : Nat} {q : List Bool} {gs : List (List Int)} (h : DelM.rd q N = .short) : rdT ps N most (m + 1) q gs = .err 3 [] := by rw [rdT, h]
theorem rdT_table {ps : List Nat} {N most m : Nat} {q : List Bool} {gs : List (List Int)} (h : DelM.rd q N = .table) : rdT ps N most (m + 1) q gs = .err 22 [] := by rw [rdT, h]
theorem rdT_ok {ps : List Nat} {N most m n : Nat} {q : List Bool} {gs : List (List Int)} {ls : List Int} (h : DelM.rd q N = .ok ls n) (hw : WholeP ls) : rdT ps N most (m + 1) q gs = (rdT ps N most m (q.drop n) (gs ++ [ls])).skip n := by
  rw [rdT, h]
  simp only [if_pos hw]
theorem rdT_not {ps : List Nat} {N most m n : Nat} {q : List Bool} {gs : List (List Int)} {ls : List Int} (h : DelM.rd q N = .ok ls n) (hw : ¬ WholeP ls) : rdT ps N most (m + 1) q gs = .err 22 [] := by
  rw [rdT, h]
  simp only [if_neg hw]
/-- A step of lengths. -/
theorem RtC.len {Q q r : List Bool} {N most a t : Nat} {ps : List Nat} {gs : List (List Int)} {ls : List Int} {now : Int} {L : List Int} (h3 : 3 ≤ N) (h : RtC Q N most a L (.len t ps gs ls now)) (hq : Q.drop a = q ++ r) :
    ((DelM.dstep q ls now false).err = 0 ∧ (DelM.dstep q ls now false).bad = false ∧ 1 ≤ (DelM.dstep q ls now false).used ∧ (DelM.dstep q ls now false).used ≤ q.length ∧ (DelM.dstep q ls now false).ls.length ≤ N ∧
      ((DelM.dstep q ls now false).ls.length < N ∧ RtC Q N most (a + (DelM.dstep q ls now false).used) L (.len t ps gs (DelM.dstep q ls now false).ls (DelM.dstep q ls now false).now) ∨
       (DelM.dstep q ls now false).ls.length = N ∧ ¬ WholeP (DelM.dstep q ls now false).ls ∧ rdC Q N most = .err 22 L ∨
       (DelM.dstep q ls now false).ls.length = N ∧ WholeP (DelM.dstep q ls now false).ls ∧ gs.length + 1 < t ∧ RtC Q N most (a + (DelM.dstep q ls now false).used) L (.len t ps (gs ++ [(DelM.dstep q ls now false).ls]) [] 0) ∨
       (DelM.dstep q ls now false).ls.length = N ∧ WholeP (DelM.dstep q ls now false).ls ∧ gs.length + 1 = t ∧ RtC Q N most (a + (DelM.dstep q ls now false).used) L (.sym t ps (gs ++ [(DelM.dstep q ls now false).ls]) 0 false))) ∨
    ((DelM.dstep q ls now false).err = 22 ∧ (DelM.dstep q ls now false).used ≤ q.length ∧ (DelM.dstep q ls now false).ls = ls ∧ rdC Q N most = .err 22 L) ∨
    (DelM.dstep q ls now false = ⟨3, 0, ls, now, false⟩ ∧ (r = [] → rdC Q N most = .err 3 L)) := by
  obtain ⟨hh, hW, hgs, hls, rfl, j, hj, hR, hD⟩ := h
  obtain ⟨m, hm⟩ : ∃ m, t - gs.length = m + 1 := ⟨t - gs.length - 1, by omega⟩
  rw [hm] at hR
  have hqj : (Q.drop j).drop (a - j) = q ++ r := by rw [List.drop_drop, show j + (a - j) = a by omega]; exact hq
  rcases hD.step hls q r hqj with ⟨e1, e2, e3, e4, e5⟩ | ⟨e1, e2, e3, e4, e5⟩ | ⟨e1, e2⟩
  · generalize DelM.dstep q ls now false = O at *
    refine Or.inl ⟨e1, e2, e3, e4, e5.1, ?_⟩
    have ea : a - j + O.used = a + O.used - j := by omega
    rw [ea] at e5
    by_cases hlt : O.ls.length < N
    · exact Or.inl ⟨hlt, hh, hW, hgs, hlt, rfl, j, by omega, by rw [hm]; exact hR, e5⟩
    · have hN : O.ls.length = N := by have := e5.1; omega
      have hall := e5.all hN (by omega)
      by_cases hw : WholeP O.ls
      · have hR2 : rdC Q N most = (rdT ps N most m (Q.drop (a + O.used)) (gs ++ [O.ls])).skip (a + O.used) := by
          rw [hR, rdT_ok hall hw, skip_skip, List.drop_drop, show j + (a + O.used - j) = a + O.used by omega]
        have hW2 : Whs N (gs ++ [O.ls]) := fun g hg => by
          rcases List.mem_append.1 hg with h | h
          · exact hW g h
          · rw [List.mem_singleton] at h
            subst h
            exact ⟨hN, hw⟩
        have hl2 : (gs ++ [O.ls]).length = gs.length + 1 := by simp
        by_cases ht : gs.length + 1 < t
        · refine Or.inr (Or.inr (Or.inl ⟨hN, hw, ht, hh, hW2, by rw [hl2]; exact ht, by show 0 < N; omega, rfl, _, Nat.le_refl _, ?_, ?_⟩))
          · rw [hR2, hl2, show t - (gs.length + 1) = m by omega]
          · rw [Nat.sub_self]
            exact DelM.Rt.start _ _
        · refine Or.inr (Or.inr (Or.inr ⟨hN, hw, by omega, hh, hW2, by rw [hl2]; omega, rfl, by show 0 / 50 ≤ ps.length; omega, ?_⟩))
          rw [if_neg (by simp)]
          refine ⟨Nat.zero_le _, ?_⟩
          rw [hR2, show m = 0 by omega, rdT]
      · exact Or.inr (Or.inl ⟨hN, hw, by rw [hR, rdT_not hall hw]; rfl⟩)
  · exact Or.inr (Or.inl ⟨e1, e3, e5, by rw [hR, rdT_table e4]; rfl⟩)
  · exact Or.inr (Or.inr ⟨e1, fun h => by rw [hR, rdT_short (e2 h)]; rfl⟩)
theorem Whs.tb {N : Nat} {gs : List (List Int)} {Q : List Bool} {ps : List Nat} {t n : Nat} (h : Whs N gs) (hh : Hd Q ps t) (hg : gs.length = t) (hn : n / 50 < ps.length) : ps.getD (n / 50) 0 < gs.length ∧ (tb gs ps n).length = N ∧ WholeP (tb gs ps n) := by
  have h1 : ps.getD (n / 50) 0 < t := by
    rw [List.getD_eq_getElem?_getD, List.getElem?_eq_getElem hn]
    exact hh.2.2.2.2.2.2 _ (List.getElem_mem hn)
  refine ⟨by omega, ?_⟩
  refine h _ ?_
  unfold CodM.tb
  rw [List.getD_eq_getElem?_getD, List.getElem?_eq_getElem (by omega)]
  exact List.getElem_mem _
/-- A symbol. -/
theorem RtC.sym {Q q r : List Bool} {N most a t cnt : Nat} {ps : List Nat} {gs : List (List Int)} {L : List Int} (h : RtC Q N most a L (.sym t ps gs cnt false)) (hq : Q.drop a = q ++ r) :
    (ps.length ≤ cnt / 50 → rdC Q N most = .err 25 L) ∧
    (cnt / 50 < ps.length → getM (tb gs ps cnt) q = none → r = [] → rdC Q N most = .err 3 L) ∧
    (∀ i, cnt / 50 < ps.length → getM (tb gs ps cnt) q = some i → i < N ∧ 1 ≤ ln (tb gs ps cnt) i ∧ ln (tb gs ps cnt) i ≤ q.length ∧ (L.length = most → rdC Q N most = .err 2 []) ∧
      (L.length < most → RtC Q N most (a + ln (tb gs ps cnt) i) (L ++ [(i : Int)]) (.sym t ps gs (cnt + 1) (decide (i + 1 = N))))) := by
  obtain ⟨hh, hW, hg, hL, hc50, hif⟩ := h
  rw [if_neg (by simp)] at hif
  obtain ⟨hle, hR⟩ := hif
  have hwh := fun n hn => (hW.tb hh hg (n := n) hn).2.2
  rw [rdS, hL] at hR
  refine ⟨fun h => ?_, fun h hn hr => ?_, fun i h hi => ?_⟩
  · rw [hR, if_pos h]
    rfl
  · rw [if_neg (by omega), hq, hr, List.append_nil, hn] at hR
    rw [hR]
    rfl
  · have hw := hwh cnt h
    have hN := (hW.tb hh hg (n := cnt) h).2.1
    obtain ⟨i1, i2⟩ := getM_is hi
    have l1 := ln_bd hw.1 i1
    have l2 : ln (tb gs ps cnt) i ≤ q.length := i2.1
    rw [if_neg (by omega), hq, getM_app r hw hi] at hR
    have hR2 : rdC Q N most = (if cnt = most then R14.err 2 [] else if i + 1 = N then .ok (L ++ [(i : Int)]) (ln (tb gs ps cnt) i) else (rdS gs ps N most (q ++ r).length ((q ++ r).drop (ln (tb gs ps cnt) i)) (L ++ [(i : Int)])).skip (ln (tb gs ps cnt) i)).skip a := hR
    refine ⟨by omega, l1.1, l2, fun hm => ?_, fun hm => ⟨hh, hW, hg, by rw [List.length_append, hL]; rfl, by omega, ?_⟩⟩
    · rw [hR2, if_pos (by omega)]
      rfl
    · rw [if_neg (by omega)] at hR2
      by_cases hd : i + 1 = N
      · rw [if_pos (by simp [hd])]
        rw [hR2, if_pos hd]
        rfl
      · rw [if_neg (by simp [hd])]
        rw [if_neg hd, skip_skip] at hR2
        have hdl : Q.drop (a + ln (tb gs ps cnt) i) = (q ++ r).drop (ln (tb gs ps cnt) i) := by rw [← List.drop_drop, hq]
        refine ⟨by rw [List.length_append]; show L.length + 1 ≤ most; omega, ?_⟩
        rw [hR2, hdl, rdS_fuel hwh (q ++ r).length _ _ (by rw [List.length_drop, List.length_append]; omega)]
end CodM
end Go.Proofs.YtojphcoghbiepaaGreatDoor
namespace Go.Proofs.YtojphcoghbiepaaGreatDoor
namespace CodM
open Go.RowKit BitM HufM CanM FreqM
set_option linter.unusedVariables false
/-- The bits of symbols, behind n others. -/
def symT (gs : List (List Int)) (ps : List Nat) : Nat → List Int → List Bool
  | _, [] => []
  | n, z :: t => code (tb gs ps n) z.toNat ++ symT gs ps (n + 1) t
theorem symT_app (gs : List (List Int)) (ps : List Nat) : ∀ (a b : List Int) (n : Nat), symT gs ps n (a ++ b) = symT gs ps n a ++ symT gs ps (n + a.length) b
  | [], b, n => rfl
  | z :: t, b, n => by
    show _ ++ symT gs ps (n + 1) (t ++ b) = (_ ++ symT gs ps (n + 1) t) ++ _
    rw [symT_app gs ps t b (n + 1), List.append_assoc, List.length_cons, show n + 1 + t.length = n + (t.length + 1) by omega]
def symB (gs : List (List Int)) (ps : List Nat) (zs : List Int) (k : Nat) : List Bool := symT gs ps 0 (zs.take k)
theorem symB_succ (gs : List (List Int)) (ps : List Nat) (zs : List Int) {k : Nat} (h : k < zs.length) : symB gs ps zs (k + 1) = symB gs ps zs k ++ code (tb gs ps k) (zs.getD k 0).toNat := by
  unfold symB
  rw [List.take_succ_eq_append_getElem h, symT_app, List.length_take, Nat.min_eq_left (by omega), Nat.zero_add, List.getD_eq_getElem?_getD, List.getElem?_eq_getElem h]
  show _ ++ (code _ _ ++ []) = _
  rw [List.append_nil]
  rfl
def gsB (gs : List (List Int)) : List Bool := gs.flatMap DelM.allB
theorem gsB_app (a b : List (List Int)) : gsB (a ++ b) = gsB a ++ gsB b := by simp [gsB]
theorem gsB_succ (gs : List (List Int)) {k : Nat} (h : k < gs.length) : gsB (gs.take (k + 1)) = gsB (gs.take k) ++ DelM.allB (gs.getD k []) := by
  rw [List.take_succ_eq_append_getElem h, gsB_app, List.getD_eq_getElem?_getD, List.getElem?_eq_getElem h]
  simp [gsB]
/-- All bits. -/
def allC (gs : List (List Int)) (ps : List Nat) (zs : List Int) : List Bool := PkM.allB ps gs.length ++ gsB gs ++ symB gs ps zs zs.length
/-- Symbols that are left: the last one, and no other one, is the end. -/
def EndP (N : Nat) (t : List Int) : Prop := Syms t (N : Int) ∧ ∀ i, i < t.length → (t.getD i 0 = (N : Int) - 1 ↔ i + 1 = t.length)
theorem EndP.tail {N : Nat} {z : Int} {t : List Int} (h : EndP N (z :: t)) : EndP N t :=
  ⟨fun x hx => h.1 x (List.mem_cons_of_mem _ hx), fun i hi => by
    have h1 := h.2 (i + 1) (by simp; omega)
    rw [List.length_cons] at h1
    show t.getD i 0 = _ ↔ _
    have e : (z :: t).getD (i + 1) 0 = t.getD i 0 := rfl
    rw [e] at h1
    omega⟩
theorem EndP.head {N : Nat} {z : Int} {t : List Int} (h : EndP N (z :: t)) : 0 ≤ z ∧ z < (N : Int) ∧ (z = (N : Int) - 1 ↔ t = []) := by
  have h1 := h.1 z List.mem_cons_self
  have h2 := h.2 0 (by simp)
  have e : (z :: t).getD 0 0 = z := rfl
  rw [e, List.length_cons] at h2
  refine ⟨h1.1, h1.2, h2.trans ⟨fun h => List.eq_nil_of_length_eq_zero (by omega), fun h => by rw [h]; rfl⟩⟩
/-- What the tables are to the groups. -/
def Tbs (N : Nat) (gs : List (List Int)) (ps : List Nat) (m : Nat) : Prop := ∀ n, n < m → n / 50 < ps.length ∧ (tb gs ps n).length = N ∧ WholeP (tb gs ps n)
theorem rdS_sym {gs : List (List Int)} {ps : List Nat} {N most m : Nat} (hT : Tbs N gs ps m) (q : List Bool) : ∀ (t l : List Int) (f : Nat), EndP N t → t ≠ [] → l.length + t.length = m → t.length ≤ f → l.length ≤ most →
    rdS gs ps N most f (symT gs ps l.length t ++ q) l = if m ≤ most then .ok (l ++ t) (symT gs ps l.length t).length else .err 2 []
  | [], l, f, _, h0, _, _, _ => absurd rfl h0
  | z :: t, l, 0, _, _, _, h, _ => absurd h (by simp)
  | z :: t, l, f + 1, hE, _, hm, hf, hl => by
    have hh := hE.head
    rw [List.length_cons] at hm hf
    obtain ⟨hp, hN, hw⟩ := hT l.length (by omega)
    have hi : z.toNat < (tb gs ps l.length).length := by omega
    have hz : ((z.toNat : Nat) : Int) = z := by omega
    have e1 : symT gs ps l.length (z :: t) ++ q = code (tb gs ps l.length) z.toNat ++ (symT gs ps (l.length + 1) t ++ q) := List.append_assoc _ _ _
    have e2 : (symT gs ps l.length (z :: t)).length = ln (tb gs ps l.length) z.toNat + (symT gs ps (l.length + 1) t).length := by
      show (code _ _ ++ _).length = _
      rw [List.length_append, code_length]
    rw [e1, e2, rdS, if_neg (by omega), getM_code hw hi]
    show (if l.length = most then _ else if z.toNat + 1 = N then _ else _) = _
    by_cases h1 : l.length = most
    · rw [if_pos h1, if_neg (by omega)]
    · rw [if_neg h1]
      by_cases h2 : t = []
      · have h3 := hh.2.2.2 h2
        subst h2
        rw [if_pos (by omega), if_pos (by simp at hm; omega), hz]
        rfl
      · have h3 : ¬ z = (N : Int) - 1 := fun h => h2 (hh.2.2.1 h)
        rw [if_neg (by omega), hz]
        have hd : (code (tb gs ps l.length) z.toNat ++ (symT gs ps (l.length + 1) t ++ q)).drop (ln (tb gs ps l.length) z.toNat) = symT gs ps (l.length + 1) t ++ q := by
          rw [List.drop_append_of_le_length (by rw [code_length]; omega), List.drop_of_length_le (by rw [code_length]; omega), List.nil_append]
        rw [hd]
        have hll : (l ++ [z]).length = l.length + 1 := by simp
        have := rdS_sym (most := most) (N := N) hT q t (l ++ [z]) f hE.tail h2 (by omega) (by omega) (by omega)
        rw [hll] at this
        rw [this]
        by_cases h4 : m ≤ most
        · rw [if_pos h4, if_pos h4]
          show R14.ok _ _ = _
          rw [List.append_assoc]
          rfl
        · rw [if_neg h4, if_neg h4]
          rfl
theorem symT_ge {gs : List (List Int)} {ps : List Nat} {N m : Nat} (hT : Tbs N gs ps m) : ∀ (t : List Int) (n : Nat), Syms t (N : Int) → n + t.length ≤ m → t.length ≤ (symT gs ps n t).length ∧ (symT gs ps n t).length ≤ 20 * t.length
  | [], n, _, _ => ⟨Nat.le_refl _, Nat.le_refl _⟩
  | z :: t, n, hS, hm => by
    rw [List.length_cons] at hm ⊢
    obtain ⟨hp, hN, hw⟩ := hT n (by omega)
    have h1 := hS z List.mem_cons_self
    have h2 := ln_bd hw.1 (show z.toNat < (tb gs ps n).length by omega)
    have h3 := symT_ge hT t (n + 1) (fun x hx => hS x (List.mem_cons_of_mem _ hx)) (by omega)
    show _ ≤ (code _ _ ++ _).length ∧ (code _ _ ++ _).length ≤ _
    rw [List.length_append, code_length]
    omega
theorem rdT_gs {ps : List Nat} {N most : Nat} (h3 : 3 ≤ N) (h258 : N ≤ 258) (q : List Bool) : ∀ (t gs : List (List Int)), (∀ g ∈ t, g.length = N ∧ WholeP g) → rdT ps N most t.length (gsB t ++ q) gs = (rdS (gs ++ t) ps N most (q.length + 1) q []).skip (gsB t).length
  | [], gs, _ => by
    show rdT ps N most 0 q gs = _
    rw [rdT, List.append_nil]
    cases rdS gs ps N most (q.length + 1) q [] with
    | ok l n => show R14.ok l n = .ok l (0 + n); rw [Nat.zero_add]
    | err e _ => rfl
  | g :: t, gs, h => by
    obtain ⟨hN, hw⟩ := h g List.mem_cons_self
    have hM : DelM.May g := ⟨by omega, by omega, hw.1⟩
    have e1 : gsB (g :: t) ++ q = DelM.allB g ++ (gsB t ++ q) := List.append_assoc _ _ _
    have e2 : (gsB (g :: t)).length = (DelM.allB g).length + (gsB t).length := List.length_append
    have hr := DelM.rd_all hM (gsB t ++ q)
    rw [hN] at hr
    rw [e1, e2, List.length_cons, rdT_ok hr hw, List.drop_append_of_le_length (Nat.le_refl _), List.drop_length, List.nil_append, rdT_gs h3 h258 q t (gs ++ [g]) (fun x hx => h x (List.mem_cons_of_mem _ hx)), skip_skip, List.append_assoc]
    rfl
theorem gsB_len {N : Nat} (h3 : 3 ≤ N) (h258 : N ≤ 258) : ∀ (gs : List (List Int)), Whs N gs → (gsB gs).length ≤ 10100 * gs.length
  | [], _ => Nat.le_refl _
  | g :: t, h => by
    obtain ⟨hN, hw⟩ := h g List.mem_cons_self
    have hM : DelM.May g := ⟨by omega, by omega, hw.1⟩
    have h1 := DelM.encK_le hM (Nat.le_refl _)
    have h2 := DelM.allB_length g
    have e2 : (gsB (g :: t)).length = (DelM.allB g).length + (gsB t).length := List.length_append
    have := gsB_len h3 h258 t (fun x hx => h x (List.mem_cons_of_mem _ hx))
    rw [e2, List.length_cons]
    omega
/-- What was written is read. -/
theorem rdC_all {gs : List (List Int)} {ps : List Nat} {zs : List Int} {N most : Nat} (h3 : 3 ≤ N) (h258 : N ≤ 258) (hp : PkM.May ps gs.length) (hW : Whs N gs) (hT : Tbs N gs ps zs.length) (hE : EndP N zs) (h1 : 1 ≤ zs.length) (q : List Bool) :
    rdC (allC gs ps zs ++ q) N most = if zs.length ≤ most then .ok zs (allC gs ps zs).length else .err 2 [] := by
  have hq : allC gs ps zs ++ q = PkM.allB ps gs.length ++ (gsB gs ++ (symT gs ps 0 zs ++ q)) := by
    unfold allC symB
    rw [List.take_length, List.append_assoc, List.append_assoc]
  have hl : (allC gs ps zs).length = (PkM.allB ps gs.length).length + (gsB gs).length + (symT gs ps 0 zs).length := by
    unfold allC symB
    rw [List.take_length, List.length_append, List.length_append]
  obtain ⟨k1, k2, _⟩ := PkM.rd_all hp (gsB gs ++ (symT gs ps 0 zs ++ q))
  rw [hq, hl, rdC_ok k1, k2, List.drop_append_of_le_length (Nat.le_refl _), List.drop_length, List.nil_append, rdT_gs h3 h258 _ gs [] hW, List.nil_append, skip_skip]
  have hne : zs ≠ [] := fun h => by rw [h] at h1; exact absurd h1 (by simp)
  have hg := symT_ge hT zs 0 hE.1 (by omega)
  have := rdS_sym (most := most) hT q zs [] ((symT gs ps 0 zs ++ q).length + 1) hE hne (by simp) (by rw [List.length_append]; omega) (Nat.zero_le _)
  rw [List.length_nil, List.nil_append] at this
  rw [this]
  by_cases h4 : zs.length ≤ most
  · rw [if_pos h4, if_pos h4]; rfl
  · rw [if_neg h4, if_neg h4]; rfl
/-! ### How many bits symbols take -/
theorem symT_grp (gs : List (List Int)) (ps : List Nat) (k : Nat) : ∀ (g : List Int) (n : Nat), 50 * k ≤ n → n + g.length ≤ 50 * k + 50 → (∀ x ∈ g, 0 ≤ (gs.getD (ps.getD k 0) []).getD x.toNat 0) → ((symT gs ps n g).length : Int) = costS g (gs.getD (ps.getD k 0) [])
  | [], n, _, _, _ => rfl
  | z :: t, n, h1, h2, h3 => by
    rw [List.length_cons] at h2
    have ih := symT_grp gs ps k t (n + 1) (by omega) (by omega) (fun x hx => h3 x (List.mem_cons_of_mem _ hx))
    have e : costS (z :: t) (gs.getD (ps.getD k 0) []) = (gs.getD (ps.getD k 0) []).getD z.toNat 0 + costS t (gs.getD (ps.getD k 0) []) := rfl
    have hz := h3 z List.mem_cons_self
    have hk : tb gs ps n = gs.getD (ps.getD k 0) [] := by unfold tb; rw [show n / 50 = k by omega]
    show (((code (tb gs ps n) z.toNat ++ symT gs ps (n + 1) t).length : Nat) : Int) = _
    rw [List.length_append, code_length, e, ← ih, hk]
    unfold ln
    omega
end CodM
end Go.Proofs.YtojphcoghbiepaaGreatDoor
