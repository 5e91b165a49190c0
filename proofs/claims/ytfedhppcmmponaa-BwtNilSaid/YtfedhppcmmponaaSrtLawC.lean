/-
  LAYER 16's STATEMENTS: SorterCuts.
-/
import Derived.Test.YtfedhppcmmponaaSrtLawA
namespace Go.Proofs.Ytfedhppcmmponaa
open Go.RowKit BwtM SrtM PkM
set_option linter.unusedVariables false
set_option linter.unusedSimpArgs false
set_option maxRecDepth 100000 in
set_option maxHeartbeats 4000000 in
theorem sstep_neg {B b n : Nat} {Z : List Nat} (T : List UInt8) (w : World) (st R : Nat) (k : Int) (h : SoSt B w b n T Z st R) (hk : k < 0) (hst : st ≤ 1000000) :
    Calls Try.prog 21 #[.pointer (some ⟨b, 0, none⟩), .int .i64 k] w fun e w' => StepSP B w w' b n T Z st R 0 e := by
  obtain ⟨d10, f10, hset⟩ := h.count
  have HR : Hid (StepSP B w (w.setCell ⟨b, 10, none⟩ (.int .i64 (st : Int))) b n T Z st R 0 (.returned (.int .i64 ((0 : Nat) : Int)))) := Lib.hid (by
    obtain ⟨h1, h2, h3⟩ := hset st
    exact ⟨rfl, h1, h2, h3⟩)
  have hk0 : ¬ (0 : Int) < k := by omega
  clear h hset
  go_enter Try.func21, Try.ntmps21
  go_wp2_with fail
  go_loopw [5] (fun vg wr => vg = .int .i64 0 ∧ wr = w) (fun _ _ => 0)
  case atStart => exact ⟨rfl, rfl⟩
  case round =>
    obtain ⟨rfl, rfl⟩ := hrel
    go_wp2_with fail
    go_ret
    exact HR.out
/-- So many steps as any budget asks. -/
theorem sstep_int {B b n : Nat} {Z : List Nat} (T : List UInt8) (w : World) (st R : Nat) (k : Int) (h : SoSt B w b n T Z st R) (hT : T.length = n) (h0 : 0 < n ∨ R = 0) (hn : n ≤ 20000) (hR : R ≤ 800000) (hst : st ≤ 1000000) (hk : k ≤ 9223372036854775807) (hb : B ≤ w.heap.size) :
    Calls Try.prog 21 #[.pointer (some ⟨b, 0, none⟩), .int .i64 k] w fun e w' => StepSP B w w' b n T Z st R (min k.toNat R) e := by
  by_cases hk0 : k < 0
  · rw [show min k.toNat R = 0 by omega]
    exact sstep_neg T w st R k h hk0 hst
  · obtain ⟨K, rfl⟩ : ∃ K : Nat, k = (K : Int) := ⟨k.toNat, by omega⟩
    rw [Int.toNat_natCast]
    exact sstep_any T w st R K h hT h0 hn hR hst (by omega) hb
/-- The numbers of a row that came in are such as may be. -/
theorem row_wf {w : World} {a : Option Addr} {len cap : Nat} {zs : List Int} (h : IsRow .i64 w a len cap zs) : ∀ z ∈ zs.take len, -9223372036854775808 ≤ z ∧ z ≤ 9223372036854775807 := fun z hz => by
  have hz2 := List.mem_of_mem_take hz
  rcases h with ⟨_, _, _, rfl⟩ | ⟨_, _, _, _, _, _, hw⟩
  · cases hz2
  · exact wf_i64 (hw z hz2)
theorem cut_want (b : Int) (d : Nat) : max 0 (min b (d : Int)) = ((min b.toNat d : Nat) : Int) := by omega
set_option maxRecDepth 100000 in
set_option maxHeartbeats 8000000 in
theorem sorterCuts.walk (s : ByteArray) (l : Option Addr) (llen lcap : Nat) (lz : List Int) (w : World) (hs : s.size ≤ maxLen) (hl : IsRow .i64 w l llen lcap lz) :
    Calls Try.prog 4 #[.string s, .slice l llen lcap] w fun e w' => e = .returned (.bool true) ∧ Below w.heap.size w w' := by
  have HBA := Lib.hid (fun W => banana16_any W)
  have HWF := Lib.hid (row_wf hl)
  obtain ⟨hI, hlen⟩ := ints_in hl
  have HI := Lib.hid hI
  have HLZ := Lib.hid hlen
  clear hs hl hI hlen
  by_cases h1 : 30 < s.size
  · have h1i : (30 : Int) < (s.size : Int) := by omega
    go_enter Try.func4, Try.ntmps4
    go_wp2_with fail
    refine (HBA.out _).mono ?_
    rintro e w1 ⟨rfl, hb1⟩
    have HB1 := Lib.hid hb1
    clear hb1
    go_wp2_with fail
    go_ret
    exact ⟨rfl, HB1.out⟩
  · have h1i : ¬ (30 : Int) < (s.size : Int) := by omega
    by_cases h2 : 20 < llen
    · have h2i : (20 : Int) < (llen : Int) := by omega
      go_enter Try.func4, Try.ntmps4
      go_wp2_with fail
      refine (HBA.out _).mono ?_
      rintro e w1 ⟨rfl, hb1⟩
      have HB1 := Lib.hid hb1
      clear hb1
      go_wp2_with fail
      go_ret
      exact ⟨rfl, HB1.out⟩
    · have h2i : ¬ (20 : Int) < (llen : Int) := by omega
      obtain ⟨n, hn⟩ : ∃ n, s.size = n := ⟨_, rfl⟩
      have HL : Hid (s.data.toList.length = n) := Lib.hid ((txt_len s).trans hn)
      have HNEW := Lib.hid (fun W => snew_any s n W hn (by omega))
      have HSTP := Lib.hid (fun W => rsteps_any s W (by omega))
      have HSO := Lib.hid (fun W => rsorted_any s W (by omega))
      have hn30 : n ≤ 30 := by omega
      have HSZ := Lib.hid hn
      rw [hn] at h1 h1i
      have hsi : (s.size : Int) = (n : Int) := by omega
      clear hn h1
      obtain ⟨n3, hn3⟩ : ∃ n3, 3 * n = n3 := ⟨_, rfl⟩
      have HN3 := Lib.hid hn3
      have hn3i : (3 : Int) * (n : Int) = (n3 : Int) := by omega
      have hn3b : n3 ≤ 90 := by omega
      clear hn3
      go_enter Try.func4, Try.ntmps4
      go_wp2_with fail
      refine (HNEW.out _).mono ?_
      rintro e w1 ⟨b, R, rfl, hS, hR, hB⟩
      have HR := Lib.hid hR
      have HS1 := Lib.hid hS
      have HB1 := Lib.hid hB
      have hRb := (hR.most (by rw [HL.out]; omega)).2
      have H0 : Hid (0 < n ∨ R = 0) := Lib.hid (by have := hR.zero; rw [HL.out] at this; exact this)
      clear hR hS hB
      go_wp2_with fail
      refine (HSTP.out _).mono ?_
      rintro e w2 ⟨⟨R', rfl, hR'⟩, hB2⟩
      obtain rfl : R' = R := hR'.one HR.out
      have HS2 := Lib.hid (HS1.out.below hB2)
      have HB2 := Lib.hid (HB1.out.trans (hB2.mono HB1.out.size))
      clear hR' hB2 HS1 HB1
      go_wp2_with fail
      go_loopw [30, 8] (fun vi vg wr => ∃ i g : Nat, vi = .int .i64 (i : Int) ∧ i ≤ 400 ∧ vg = .int .i64 (g : Int) ∧ g ≤ R' ∧ SoSt w.heap.size wr b n s.data.toList [] g (R' - g) ∧ Below w.heap.size w wr) (fun vi _ _ => 400 - (intOf vi).toNat)
      case atStart => exact ⟨0, 0, rfl, by omega, rfl, by omega, HS2.out, HB2.out⟩
      case round =>
        clear HS2 HB2
        obtain ⟨i, g, rfl, hi, rfl, hg, hS, hB⟩ := hrel
        have HS := Lib.hid hS
        have HB := Lib.hid hB
        clear hS hB
        obtain ⟨wa, rfl⟩ : ∃ wa : World, wa = wr := ⟨_, rfl⟩
        by_cases hic : i < 400
        · have hii : (i : Int) < 400 := by omega
          go_wp2_with fail
          go_loopw [34, 8] (fun vj vg wr => ∃ j g : Nat, vj = .int .i64 (j : Int) ∧ j ≤ llen ∧ vg = .int .i64 (g : Int) ∧ g ≤ R' ∧ SoSt w.heap.size wr b n s.data.toList [] g (R' - g) ∧ Below w.heap.size w wr) (fun vj _ _ => llen - (intOf vj).toNat)
          case atStart => exact ⟨0, g, rfl, by omega, rfl, hg, HS.out, HB.out⟩
          case round =>
            clear HS HB hg
            obtain ⟨j, g, rfl, hj, rfl, hg, hS, hB⟩ := hrel
            have HS := Lib.hid hS
            have HB := Lib.hid hB
            clear hS hB
            by_cases hjl : j < llen
            · have hji : (j : Int) < (llen : Int) := by omega
              obtain ⟨q, hq⟩ : ∃ q, (lz.take llen).getD j 0 = q := ⟨_, rfl⟩
              have hqw := HWF.out q (by
                rw [← hq, List.getD_eq_getElem?_getD, List.getElem?_eq_getElem (by rw [HLZ.out]; exact hjl)]
                exact List.getElem_mem _)
              obtain ⟨bb, off, cp, hv, hc⟩ := (HI.out.below HB.out).cell (k := j) (by rw [HLZ.out]; exact hjl)
              rw [hq] at hc
              simp only [Value.slice.injEq] at hv
              obtain ⟨rfl, hxx, rfl⟩ := hv
              clear hxx
              obtain ⟨d, hd⟩ : ∃ d, R' - g = d := ⟨_, rfl⟩
              have HD := Lib.hid hd
              have hdi : (R' : Int) - (g : Int) = (d : Int) := by omega
              have hdw : IntKind.i64.wrap (d : Int) = (d : Int) := IntWalk.i64_in _ (by omega)
              obtain ⟨t, ht⟩ : ∃ t, min q.toNat d = t := ⟨_, rfl⟩
              have hwant : max 0 (min q (d : Int)) = (t : Int) := by rw [cut_want, ht]
              have htd : t ≤ d := by omega
              have HT := Lib.hid ht
              obtain ⟨g2, hg2⟩ : ∃ g2, g + t = g2 := ⟨_, rfl⟩
              have hg2i : (g : Int) + (t : Int) = (g2 : Int) := by omega
              have hg2w : IntKind.i64.wrap (g2 : Int) = (g2 : Int) := IntWalk.i64_in _ (by omega)
              have hg2R : g2 ≤ R' := by omega
              have HG2 := Lib.hid hg2
              have HST := Lib.hid (sstep_int s.data.toList wr g (R' - g) q HS.out HL.out (by have := H0.out; omega) (by omega) (by omega) (by omega) hqw.2 HB.out.size)
              rw [hd, ht] at HST
              clear hq hd ht hg2
              go_wp2_with fail
              refine HST.out.mono ?_
              rintro e w3 ⟨rfl, hS3, hB3, _⟩
              have HS3 : Hid (SoSt w.heap.size w3 b n s.data.toList [] g2 (R' - g2)) := Lib.hid (by
                have e1 := HG2.out
                have e2 := HD.out
                rw [show R' - g2 = d - t by omega, ← e1]
                exact hS3)
              have HB3 := Lib.hid (HB.out.trans hB3)
              have HSC := Lib.hid HS3.out.stepsC
              have HDN := Lib.hid (HS3.out.done HL.out)
              have HHD : Hid (Calls Try.prog 24 #[.pointer (some ⟨b, 0, none⟩)] w3 fun e w' => e = .returned (.int .i64 (n3 : Int)) ∧ ∃ m, w' = w3.drewN m) := Lib.hid (by
                have := HS3.out.held (by omega)
                rw [HN3.out] at this
                exact this)
              clear hS3 hB3 hc
              by_cases hgR : g2 = R'
              · have hE : ((g2 : Int) == (R' : Int)) = true := by rw [beq_iff_eq]; omega
                have hlt : ¬ (g2 : Int) < (R' : Int) := by omega
                rw [show (R' - g2 == 0) = true by rw [beq_iff_eq]; omega] at HDN
                have HGR := Lib.hid hgR
                clear hgR
                go_wp2_with fail
                refine HSC.out.mono ?_
                rintro e w4 ⟨rfl, rfl⟩
                go_wp2_with fail
                refine HDN.out.mono ?_
                rintro e w5 ⟨rfl, rfl⟩
                go_wp2_with fail
                refine HHD.out.mono ?_
                rintro e w6 ⟨rfl, m, rfl⟩
                have HS6 := Lib.hid (HS3.out.below (below_drewN _ m))
                have HB6 := Lib.hid (HB3.out.trans (belowB_drewN _ _ m))
                go_wp2_with fail
                go_roundw
                case rel => exact ⟨j + 1, g2, by go_num, by omega, rfl, hg2R, HS6.out, HB6.out⟩
                case measure => simp [intOf]; omega
              · have hE : ((g2 : Int) == (R' : Int)) = false := by rw [beq_eq_false_iff_ne]; omega
                have hlt : (g2 : Int) < (R' : Int) := by omega
                rw [show (R' - g2 == 0) = false by rw [beq_eq_false_iff_ne]; omega] at HDN
                have HON := Lib.hid (fun m => sorder_no (w3.drewN m) (HS3.out.below (below_drewN _ m)) HL.out (by omega))
                clear hgR
                go_wp2_with fail
                refine HSC.out.mono ?_
                rintro e w4 ⟨rfl, rfl⟩
                go_wp2_with fail
                refine HDN.out.mono ?_
                rintro e w5 ⟨rfl, rfl⟩
                go_wp2_with fail
                refine HHD.out.mono ?_
                rintro e w6 ⟨rfl, m, rfl⟩
                have HS6 := Lib.hid (HS3.out.below (below_drewN _ m))
                have HB6 := Lib.hid (HB3.out.trans (belowB_drewN _ _ m))
                go_wp2_with fail
                refine (HON.out m).mono ?_
                rintro e w7 ⟨rfl, rfl⟩
                go_wp2_with fail
                go_roundw
                case rel => exact ⟨j + 1, g2, by go_num, by omega, rfl, hg2R, HS6.out, HB6.out⟩
                case measure => simp [intOf]; omega
            · have hji : ¬ (j : Int) < (llen : Int) := by omega
              go_wp2_with fail
              go_roundw
              case rel => exact ⟨i + 1, g, by go_num, by omega, rfl, hg, HS.out, HB.out⟩
              case measure => simp [intOf]; omega
        · have hii : ¬ (i : Int) < 400 := by omega
          obtain ⟨d, hd⟩ : ∃ d, R' - g = d := ⟨_, rfl⟩
          have hdi : (R' : Int) - (g : Int) = (d : Int) := by omega
          have hdw : IntKind.i64.wrap (d : Int) = (d : Int) := IntWalk.i64_in _ (by omega)
          have HST := Lib.hid (sstep_any s.data.toList wa g (R' - g) d HS.out HL.out (by have := H0.out; omega) (by omega) (by omega) (by omega) (by omega) HB.out.size)
          rw [hd, Nat.min_self] at HST
          have HGD : Hid (g + d = R') := Lib.hid (by omega)
          clear hd
          go_wp2_with fail
          refine HST.out.mono ?_
          rintro e w3 ⟨rfl, hS3, hB3, _⟩
          have HS3 : Hid (SoSt w.heap.size w3 b n s.data.toList [] R' 0) := Lib.hid (by rw [Nat.sub_self, HGD.out] at hS3; exact hS3)
          have HB3 := Lib.hid (HB.out.trans hB3)
          have HSC := Lib.hid HS3.out.stepsC
          have HDN := Lib.hid (HS3.out.done HL.out)
          have HST1 := Lib.hid (sstep_any s.data.toList w3 R' 0 1 HS3.out HL.out (Or.inr rfl) (by omega) (by omega) (by omega) (by omega) HB3.out.size)
          clear hS3 hB3
          go_wp2_with fail
          refine HDN.out.mono ?_
          rintro e w4 ⟨rfl, rfl⟩
          go_wp2_with fail
          refine HSC.out.mono ?_
          rintro e w5 ⟨rfl, rfl⟩
          go_wp2_with fail
          refine HST1.out.mono ?_
          rintro e w6 ⟨rfl, hS6, hB6, _⟩
          have HS6 := Lib.hid hS6
          have HB6 := Lib.hid (HB3.out.trans hB6)
          have HOR := Lib.hid (sorder_yes w6 (by exact hS6) HL.out (by omega))
          clear hS6 hB6
          go_wp2_with fail
          refine HOR.out.mono ?_
          rintro e w7 ⟨⟨v, P, rfl, hO, hso⟩, hb7⟩
          have HI7 := Lib.hid hO.ints
          have HB7 := Lib.hid (HB6.out.trans (hb7.mono HB6.out.size))
          have HPS : Hid (P = sortP s.data.toList s.size) := Lib.hid (by
            have := sortP_is s.data.toList
            rw [txt_len] at this
            exact hso.same this)
          clear hO hso hb7
          go_wp2_with fail
          refine (HSO.out _).mono ?_
          rintro e w8 ⟨u, rfl, hO, hb8⟩
          have HI8 := Lib.hid (HI7.out.below hb8)
          have HJ8 := Lib.hid hO.ints
          have HB8 := Lib.hid (HB7.out.trans (hb8.mono HB7.out.size))
          have HC := Lib.hid (ints_any v u _ _ true w8 HI8.out HJ8.out ⟨fun _ => by rw [HPS.out], fun _ => rfl⟩ (by
            have : (sortP s.data.toList s.size).length = s.size := by rw [(sortP_perm s.data.toList s.size).length_eq, List.length_range]
            rw [toI_length, HPS.out, this]; omega) (by
            have : (sortP s.data.toList s.size).length = s.size := by rw [(sortP_perm s.data.toList s.size).length_eq, List.length_range]
            rw [toI_length, this]; omega))
          clear hO hb8
          go_wp2_with fail
          refine HC.out.mono ?_
          rintro e w9 ⟨rfl, m, rfl⟩
          have HB9 := Lib.hid (HB8.out.trans (belowB_drewN w.heap.size w8 m))
          go_wp2_with fail
          refine (HBA.out _).mono ?_
          rintro e w10 ⟨rfl, hb10⟩
          have HB10 := Lib.hid (HB9.out.trans (hb10.mono HB9.out.size))
          clear hb10
          go_wp2_with fail
          go_ret
          exact ⟨rfl, HB10.out⟩
end Go.Proofs.Ytfedhppcmmponaa
