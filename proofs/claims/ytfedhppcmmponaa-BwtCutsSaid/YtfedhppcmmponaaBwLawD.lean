/-
  LAYER 17's STATEMENTS: BwtCuts.
-/
import Derived.Test.YtfedhppcmmponaaBwLawA
namespace Go.Proofs.Ytfedhppcmmponaa
open Go.RowKit BwtM SrtM PkM
set_option linter.unusedVariables false
set_option linter.unusedSimpArgs false
section
variable {B t n R g held og st : Nat} {s : ByteArray} {P : List Nat} {sp : Value} {l : List UInt8}
set_option maxRecDepth 100000 in
set_option maxHeartbeats 4000000 in
/-- Nothing is left to take. -/
theorem btake_last (w : World) (q bo off cap : Nat) (zs : List Int) (vw : Value) (h : IsTu B w t s sp held zs l og st (.slice (some ⟨bo, off, none⟩) 0 cap) vw) (hc2 : cap ≤ 9223372036854775807) (hq : q ≤ 9223372036854775807) :
    Calls Try.prog 53 #[.pointer (some ⟨t, 0, none⟩), .int .i64 (q : Int)] w fun e w' => e = .returned (.int .i64 0) ∧ ∃ v, w' = w.setCell ⟨t, 3, none⟩ v := by
  obtain ⟨c0, _, _, c3, _⟩ := h.obj.cells
  have e3 := h.obj.frozen 3 (by omega)
  have hmin : min (q : Int) 0 = 0 := by omega
  have hsh := fun W => osl_h bo off 0 cap 0 (by omega) (by omega) hc2 W
  have hsl := fun W => osl_l bo off 0 cap 0 (by omega) (by omega) hc2 W
  obtain ⟨vl, hvl⟩ : ∃ vl : Value, (Value.slice (some ⟨bo, if cap = 0 then off else off + 0, none⟩) (0 - 0) (cap - 0)) = vl := ⟨_, rfl⟩
  rw [hvl] at hsl
  clear h hvl
  go_enter Try.func53, Try.ntmps53
  go_wp2_with fail
  go_loopw [22] (fun vj wr => vj = .int .i64 0 ∧ wr = w) (fun _ _ => 0)
  case atStart => exact ⟨rfl, rfl⟩
  case round =>
    obtain ⟨rfl, rfl⟩ := hrel
    go_wp2_with fail
    go_ret
    exact ⟨rfl, _, rfl⟩
set_option maxRecDepth 100000 in
set_option maxHeartbeats 8000000 in
/-- A step when all are gone. -/
theorem bstep_end (w : World) (hs : Srtd s n R P) (h : TuSt B w t n s R P (R + n)) :
    Calls Try.prog 36 #[.pointer (some ⟨t, 0, none⟩), .int .i64 1] w fun e w' => e = .returned (.int .i64 0) ∧ Touch (· = t) w w' ∧ B ≤ t := by
  obtain ⟨hl1, hl2, hl3, hl4⟩ := hs.len
  have hn1 := hs.le
  have hn0 := hs.pos
  rcases h with ⟨h1, _⟩ | ⟨_, _, bo, off, nn, cap, vw, hI, hnn, hc1, hc2⟩
  · omega
  have hn2 : nn = 0 := by omega
  subst hn2
  obtain ⟨g, hg⟩ : ∃ g, R + n = g := ⟨_, rfl⟩
  rw [hg] at hI
  have HT := Lib.hid (fun q hq => btake_last w q bo off cap _ vw hI hc2 hq)
  obtain ⟨c0, c1, _, _, _, _, c6⟩ := hI.obj.cells
  have e6 := hI.obj.frozen 6 (by omega)
  have HTL := Lib.hid hI.obj.lt
  have HBT := Lib.hid hI.base
  have hkg : g ≤ 600000 := by omega
  clear hI hnn hc1 hl1 hl2 hl3 hl4 hs hg
  have hgw : IntKind.i64.wrap (g : Int) = (g : Int) := IntWalk.i64_in _ (by omega)
  go_enter Try.func36, Try.ntmps36
  go_wp2_with fail
  refine (sstep_nil _ _).mono ?_
  rintro e w1 ⟨rfl, rfl⟩
  go_wp2_with fail
  refine (sdone_nil _).mono ?_
  rintro e w2 ⟨rfl, rfl⟩
  go_wp2_with fail
  refine (HT.out 1 (by omega)).mono ?_
  rintro e w3 ⟨rfl, v, rfl⟩
  have HR : Hid (Touch (· = t) w2 ((w2.setCell ⟨t, 3, none⟩ v).setCell ⟨t, 6, none⟩ (.int .i64 (g : Int)))) := Lib.hid (touch_cell (touch_cell (Touch.refl _ _)))
  go_wp2_with fail
  go_ret
  exact ⟨rfl, HR.out, HBT.out⟩
end
def Told (B : Nat) (w W : World) (t n : Nat) (s : ByteArray) (R : Nat) (P : List Nat) (g : Nat) : Prop := TuSt B W t n s R P g ∧ Below B w W
theorem Told.drew {B : Nat} {w W : World} {t n : Nat} {s : ByteArray} {R : Nat} {P : List Nat} {g : Nat} (h : Told B w W t n s R P g) (m : Nat) : Told B w (W.drewN m) t n s R P g := ⟨h.1.below (below_drewN _ m), h.2.trans (belowB_drewN _ _ m)⟩
theorem Told.call {B : Nat} {w W : World} {t n : Nat} {s : ByteArray} {R : Nat} {P : List Nat} {g : Nat} {pr : Program} {f : Nat} {vs : Array Value} {v : Ending} (h : Told B w W t n s R P g) (hc : Calls pr f vs W fun e w' => e = v ∧ ∃ m, w' = W.drewN m) : Calls pr f vs W fun e w' => e = v ∧ Told B w w' t n s R P g := by
  refine hc.mono ?_
  rintro e w' ⟨rfl, m, rfl⟩
  exact ⟨rfl, h.drew m⟩
set_option maxRecDepth 100000 in
set_option maxHeartbeats 8000000 in
theorem bwtCuts.walk (s : ByteArray) (l : Option Addr) (llen lcap : Nat) (lz : List Int) (w : World) (hs : s.size ≤ maxLen) (hl : IsRow .i64 w l llen lcap lz) :
    Calls Try.prog 10 #[.string s, .slice l llen lcap] w fun e w' => e = .returned (.bool true) ∧ Below w.heap.size w w' := by
  have HBA := Lib.hid (fun W => banana17_any W)
  have HWF := Lib.hid (row_wf hl)
  obtain ⟨hI, hlen⟩ := ints_in hl
  have HI := Lib.hid hI
  have HLZ := Lib.hid hlen
  clear hs hl hI hlen
  by_cases h1 : 30 < s.size
  · have h1i : (30 : Int) < (s.size : Int) := by omega
    go_enter Try.func10, Try.ntmps10
    go_wp2_with fail
    refine (HBA.out _).mono ?_
    rintro e w1 ⟨rfl, hb1⟩
    have HB1 := Lib.hid hb1
    clear hb1
    go_wp2_with fail
    go_ret
    exact ⟨rfl, HB1.out⟩
  · have h1i : ¬ (30 : Int) < (s.size : Int) := by omega
    by_cases h0 : s.size = 0
    · obtain rfl := no_bytes s h0
      clear h1 h1i h0
      go_enter Try.func10, Try.ntmps10
      go_wp2_with fail
      refine (HBA.out _).mono ?_
      rintro e w1 ⟨rfl, hb1⟩
      have HB1 := Lib.hid hb1
      clear hb1
      go_wp2_with fail
      go_ret
      exact ⟨rfl, HB1.out⟩
    · have hemp := some_bytes s (by omega)
      by_cases h2 : 20 < llen
      · have h2i : (20 : Int) < (llen : Int) := by omega
        go_enter Try.func10, Try.ntmps10
        go_wp2_with fail
        refine (HBA.out _).mono ?_
        rintro e w1 ⟨rfl, hb1⟩
        have HB1 := Lib.hid hb1
        clear hb1
        go_wp2_with fail
        go_ret
        exact ⟨rfl, HB1.out⟩
      · have h2i : ¬ (20 : Int) < (llen : Int) := by omega
        obtain ⟨n, hn⟩ : ∃ n, s.size = n := ⟨_, rfl⟩
        have hnpos : 0 < n := by omega
        have hn30 : n ≤ 30 := by omega
        have HL : Hid (s.data.toList.length = n) := Lib.hid ((txt_len s).trans hn)
        have HNEW := Lib.hid (fun W => bnew_any s n W hn hnpos (by omega))
        have HST16 := Lib.hid (fun W => rsteps_any s W (by omega))
        have HST17 := Lib.hid (fun W => rsteps17_any s W (by omega))
        rw [hn] at HST17
        have HROF := Lib.hid (fun W => rof_any s n W hn hnpos (by omega))
        rw [hn] at h1i
        have hsi : (s.size : Int) = (n : Int) := by omega
        clear hn h1 h0
        obtain ⟨n3, hn3⟩ : ∃ n3, 3 * n = n3 := ⟨_, rfl⟩
        have HN3 := Lib.hid hn3
        have hn3i : (3 : Int) * (n : Int) = (n3 : Int) := by omega
        have hn3b : n3 ≤ 90 := by omega
        clear hn3
        go_enter Try.func10, Try.ntmps10
        go_wp2_with fail
        refine (HNEW.out _).mono ?_
        rintro e w1 ⟨t, R, P, rfl, hsr, hT, hB⟩
        have HSR := Lib.hid hsr
        have HT1 := Lib.hid hT
        have HB1 := Lib.hid hB
        have hRb := hsr.len.2.2.2
        have HRS := Lib.hid hsr.steps
        have HORD := Lib.hid hsr.ord
        clear hsr hT hB
        go_wp2_with fail
        refine (HST16.out _).mono ?_
        rintro e w2 ⟨⟨R1, rfl, hR1⟩, hB2⟩
        obtain rfl : R1 = R := hR1.one HRS.out
        have HT2 := Lib.hid (HT1.out.below hB2)
        have HB2 := Lib.hid (HB1.out.trans (hB2.mono HB1.out.size))
        clear hR1 hB2 HT1 HB1
        go_wp2_with fail
        refine (HST17.out _).mono ?_
        rintro e w3 ⟨⟨R2, rfl, hR2⟩, hB3⟩
        obtain rfl : R2 = R1 := hR2.one HRS.out
        have HT3 := Lib.hid (HT2.out.below hB3)
        have HB3 := Lib.hid (HB2.out.trans (hB3.mono HB2.out.size))
        clear hR2 hB3 HT2 HB2
        obtain ⟨A, hA⟩ : ∃ A, R2 + n = A := ⟨_, rfl⟩
        rw [hA]
        have HA := Lib.hid hA
        have hAb : A ≤ 500100 := by omega
        go_wp2_with fail
        have HRn : Hid (R2 + n = A) := HA
        have hR2i : ((R2 + n : Nat) : Int) = (A : Int) := by omega
        go_loopw [42, 9] (fun vi vg wr => ∃ i g : Nat, vi = .int .i64 (i : Int) ∧ i ≤ 400 ∧ vg = .int .i64 (g : Int) ∧ g ≤ A ∧ TuSt w.heap.size wr t n s R2 P g ∧ Below w.heap.size w wr) (fun vi _ _ => 400 - (intOf vi).toNat)
        case atStart => exact ⟨0, 0, rfl, by omega, rfl, by omega, HT3.out, HB3.out⟩
        case round =>
          clear HT3 HB3
          obtain ⟨i, g, rfl, hi, rfl, hg, hS, hB⟩ := hrel
          have HS := Lib.hid hS
          have HB := Lib.hid hB
          clear hS hB
          obtain ⟨wa, rfl⟩ : ∃ wa : World, wa = wr := ⟨_, rfl⟩
          by_cases hic : i < 400
          · have hii : (i : Int) < 400 := by omega
            go_wp2_with fail
            go_loopw [46, 9] (fun vj vg wr => ∃ j g : Nat, vj = .int .i64 (j : Int) ∧ j ≤ llen ∧ vg = .int .i64 (g : Int) ∧ g ≤ A ∧ TuSt w.heap.size wr t n s R2 P g ∧ Below w.heap.size w wr) (fun vj _ _ => llen - (intOf vj).toNat)
            case atStart => exact ⟨0, g, rfl, by omega, rfl, hg, HS.out, HB.out⟩
            case round =>
              clear HS HB hg
              obtain ⟨j, g, rfl, hj, rfl, hg, hS, hB⟩ := hrel
              have HS := Lib.hid hS
              have HB := Lib.hid hB
              clear hS hB
              by_cases hjl : j < llen
              · have hji : (j : Int) < (llen : Int) := by omega
                obtain ⟨q, hq⟩ : ∃ q, (lz.take llen).getD j 0 = q := ⟨_, rfl⟩
                have hqw := HWF.out q (by
                  rw [← hq, List.getD_eq_getElem?_getD, List.getElem?_eq_getElem (by rw [HLZ.out]; exact hjl)]
                  exact List.getElem_mem _)
                obtain ⟨bb, off, cp, hv, hc⟩ := (HI.out.below HB.out).cell (k := j) (by rw [HLZ.out]; exact hjl)
                rw [hq] at hc
                simp only [Value.slice.injEq] at hv
                obtain ⟨rfl, hxx, rfl⟩ := hv
                clear hxx
                obtain ⟨d, hd⟩ : ∃ d, A - g = d := ⟨_, rfl⟩
                have hdi : (A : Int) - (g : Int) = (d : Int) := by omega
                have hdw : IntKind.i64.wrap (d : Int) = (d : Int) := IntWalk.i64_in _ (by omega)
                obtain ⟨x, hx⟩ : ∃ x, min q.toNat d = x := ⟨_, rfl⟩
                have hwant : max 0 (min q (d : Int)) = (x : Int) := by rw [cut_want, hx]
                have hxd : x ≤ d := by omega
                obtain ⟨g2, hg2⟩ : ∃ g2, g + x = g2 := ⟨_, rfl⟩
                have hg2i : (g : Int) + (x : Int) = (g2 : Int) := by omega
                have hg2w : IntKind.i64.wrap (g2 : Int) = (g2 : Int) := IntWalk.i64_in _ (by omega)
                have hg2A : g2 ≤ A := by omega
                have HST := Lib.hid (bstep_any wr q HSR.out HS.out HS.out.lt hqw.2 HB.out.size)
                rw [HA.out, hd, hx] at HST
                have HG2 := Lib.hid hg2
                obtain ⟨f, hf⟩ : ∃ f, g2 - R2 = f := ⟨_, rfl⟩
                obtain ⟨hz, hhz⟩ : ∃ hz, n3 + f = hz := ⟨_, rfl⟩
                have hgs : (g2 : Int) - (R2 : Int) = ((g2 : Int) - (R2 : Int)) := rfl
                obtain ⟨gs, hgse⟩ : ∃ gs, (g2 : Int) - (R2 : Int) = gs := ⟨_, rfl⟩
                have hgsw : IntKind.i64.wrap gs = gs := IntWalk.i64_in _ (by omega)
                have hmx : max 0 gs = (f : Int) := by omega
                have hhzi : (n3 : Int) + (f : Int) = (hz : Int) := by omega
                have hhzw : IntKind.i64.wrap (hz : Int) = (hz : Int) := IntWalk.i64_in _ (by omega)
                have HF : Hid (3 * n + (g2 - R2) = hz) := Lib.hid (by rw [HN3.out, hf, hhz])
                clear hq hd hx hg2 hgs hf hhz
                go_wp2_with fail
                refine HST.out.mono ?_
                rintro e w3 ⟨rfl, hS3, hB3⟩
                have HS3 : Hid (TuSt w.heap.size w3 t n s R2 P g2) := Lib.hid (by rw [← HG2.out]; exact hS3)
                have HB3 := Lib.hid (HB.out.trans hB3)
                have T1 := Lib.hid (HS3.out.tells HSR.out).1
                have TD : Hid (∀ W, Told w.heap.size w W t n s R2 P g2 → Calls Try.prog 38 #[.pointer (some ⟨t, 0, none⟩)] W (fun e w' => e = .returned (.bool (g2 == A)) ∧ Told w.heap.size w w' t n s R2 P g2)) := Lib.hid (fun W h => by
                  have := (h.1.tells HSR.out).2.2.1
                  rw [HA.out] at this
                  exact h.call this)
                have TH : Hid (∀ W, Told w.heap.size w W t n s R2 P g2 → Calls Try.prog 39 #[.pointer (some ⟨t, 0, none⟩)] W (fun e w' => e = .returned (.int .i64 (hz : Int)) ∧ Told w.heap.size w w' t n s R2 P g2)) := Lib.hid (fun W h => by
                  have := (h.1.tells HSR.out).2.1
                  rw [HF.out] at this
                  exact h.call this)
                clear hS3 hB3 hc
                by_cases hgA : g2 = A
                · have hE : ((g2 : Int) == (A : Int)) = true := by rw [beq_iff_eq]; omega
                  have hlt : ¬ (g2 : Int) < (A : Int) := by omega
                  rw [show (g2 == A) = true by rw [beq_iff_eq]; exact hgA] at TD
                  obtain ⟨L, hL⟩ : ∃ L : ByteArray, (⟨(lastN s.data.toList P n).toArray⟩ : ByteArray) = L := ⟨_, rfl⟩
                  obtain ⟨og, hog⟩ : ∃ og, orgN P n = og := ⟨_, rfl⟩
                  have TR : Hid (∀ W, Told w.heap.size w W t n s R2 P g2 → Calls Try.prog 40 #[.pointer (some ⟨t, 0, none⟩)] W (fun e w' => e = .returned (.tuple #[.string L, .int .i64 (og : Int)]) ∧ Told w.heap.size w w' t n s R2 P g2)) := Lib.hid (fun W h => by
                    have := (h.1.tells HSR.out).2.2.2.2 (by rw [HA.out]; exact hgA)
                    rw [hL, hog] at this
                    exact h.call this)
                  clear hgA hL hog
                  go_wp2_with fail
                  refine T1.out.mono ?_
                  rintro e w4 ⟨rfl, rfl⟩
                  go_wp2_with fail
                  refine (TD.out _ ⟨HS3.out, HB3.out⟩).mono ?_
                  rintro e w5 ⟨rfl, hs5⟩
                  have HS5 := Lib.hid hs5
                  clear hs5
                  go_wp2_with fail
                  refine (TH.out _ HS5.out).mono ?_
                  rintro e w6 ⟨rfl, hs6⟩
                  have HS6 := Lib.hid hs6
                  clear hs6
                  go_wp2_with fail
                  refine (TR.out _ HS6.out).mono ?_
                  rintro e w7 ⟨rfl, hs7⟩
                  have HS7 := Lib.hid hs7
                  clear hs7
                  go_wp2_with fail
                  go_roundw
                  case rel => exact ⟨j + 1, g2, by go_num, by omega, rfl, hg2A, HS7.out.1, HS7.out.2⟩
                  case measure => simp [intOf]; omega
                · have hE : ((g2 : Int) == (A : Int)) = false := by rw [beq_eq_false_iff_ne]; omega
                  have hlt : (g2 : Int) < (A : Int) := by omega
                  rw [show (g2 == A) = false by rw [beq_eq_false_iff_ne]; exact hgA] at TD
                  have TR : Hid (∀ W, Told w.heap.size w W t n s R2 P g2 → Calls Try.prog 40 #[.pointer (some ⟨t, 0, none⟩)] W (fun e w' => e = .returned (.tuple #[.string ⟨#[]⟩, .int .i64 0]) ∧ Told w.heap.size w w' t n s R2 P g2)) := Lib.hid (fun W h => by
                    exact h.call ((h.1.tells HSR.out).2.2.2.1 (by rw [HA.out]; omega)))
                  clear hgA
                  go_wp2_with fail
                  refine T1.out.mono ?_
                  rintro e w4 ⟨rfl, rfl⟩
                  go_wp2_with fail
                  refine (TD.out _ ⟨HS3.out, HB3.out⟩).mono ?_
                  rintro e w5 ⟨rfl, hs5⟩
                  have HS5 := Lib.hid hs5
                  clear hs5
                  go_wp2_with fail
                  refine (TH.out _ HS5.out).mono ?_
                  rintro e w6 ⟨rfl, hs6⟩
                  have HS6 := Lib.hid hs6
                  clear hs6
                  go_wp2_with fail
                  refine (TR.out _ HS6.out).mono ?_
                  rintro e w7 ⟨rfl, hs7⟩
                  have HS7 := Lib.hid hs7
                  clear hs7
                  go_wp2_with fail
                  go_roundw
                  case rel => exact ⟨j + 1, g2, by go_num, by omega, rfl, hg2A, HS7.out.1, HS7.out.2⟩
                  case measure => simp [intOf]; omega
              · have hji : ¬ (j : Int) < (llen : Int) := by omega
                go_wp2_with fail
                go_roundw
                case rel => exact ⟨i + 1, g, by go_num, by omega, rfl, hg, HS.out, HB.out⟩
                case measure => simp [intOf]; omega
          · have hii : ¬ (i : Int) < 400 := by omega
            obtain ⟨d, hd⟩ : ∃ d, A - g = d := ⟨_, rfl⟩
            have hdi : (A : Int) - (g : Int) = (d : Int) := by omega
            have hdw : IntKind.i64.wrap (d : Int) = (d : Int) := IntWalk.i64_in _ (by omega)
            have HST := Lib.hid (bstep_any wa (d : Int) HSR.out HS.out HS.out.lt (by omega) HB.out.size)
            rw [HA.out, Int.toNat_natCast, hd, Nat.min_self] at HST
            have HGD : Hid (g + d = A) := Lib.hid (by omega)
            obtain ⟨L, hL⟩ : ∃ L : ByteArray, (⟨(lastN s.data.toList P n).toArray⟩ : ByteArray) = L := ⟨_, rfl⟩
            obtain ⟨og, hog⟩ : ∃ og, orgN P n = og := ⟨_, rfl⟩
            have HLO := Lib.hid (And.intro hL hog)
            clear hd hL hog
            have TD : Hid (∀ W, Told w.heap.size w W t n s R2 P A → Calls Try.prog 38 #[.pointer (some ⟨t, 0, none⟩)] W (fun e w' => e = .returned (.bool true) ∧ Told w.heap.size w w' t n s R2 P A)) := Lib.hid (fun W h => by
              have := (h.1.tells HSR.out).2.2.1
              rw [HA.out, show (A == A) = true by rw [beq_iff_eq]] at this
              exact h.call this)
            have TR : Hid (∀ W, Told w.heap.size w W t n s R2 P A → Calls Try.prog 40 #[.pointer (some ⟨t, 0, none⟩)] W (fun e w' => e = .returned (.tuple #[.string L, .int .i64 (og : Int)]) ∧ Told w.heap.size w w' t n s R2 P A)) := Lib.hid (fun W h => by
              have := (h.1.tells HSR.out).2.2.2.2 HA.out.symm
              rw [HLO.out.1, HLO.out.2] at this
              exact h.call this)
            have TS : Hid (∀ W, TuSt w.heap.size W t n s R2 P A → Calls Try.prog 36 #[.pointer (some ⟨t, 0, none⟩), .int .i64 1] W (fun e w' => e = .returned (.int .i64 0) ∧ Touch (· = t) W w' ∧ w.heap.size ≤ t)) := Lib.hid (fun W h => by
              rw [← HA.out] at h
              exact bstep_end W HSR.out h)
            go_wp2_with fail
            refine HST.out.mono ?_
            rintro e w3 ⟨rfl, hS3, hB3⟩
            have HS3 : Hid (TuSt w.heap.size w3 t n s R2 P A) := Lib.hid (by rw [HGD.out] at hS3; exact hS3)
            have HB3 := Lib.hid (HB.out.trans hB3)
            clear hS3 hB3
            go_wp2_with fail
            refine (TR.out _ ⟨HS3.out, HB3.out⟩).mono ?_
            rintro e w4 ⟨rfl, hs4⟩
            have HS4 := Lib.hid hs4.1
            have HB4 := Lib.hid hs4.2
            clear hs4
            go_wp2_with fail
            refine (HROF.out _).mono ?_
            rintro e w5 ⟨⟨P2, hP2, rfl⟩, hb5⟩
            obtain rfl : P2 = P := hP2.same HORD.out
            rw [HLO.out.1, HLO.out.2]
            have HS5 := Lib.hid (HS4.out.below hb5)
            have HB5 := Lib.hid (HB4.out.trans (hb5.mono HB4.out.size))
            clear hb5 hP2
            obtain ⟨c0, c1⟩ := turned_box w5 L (og : Int)
            have hLL : (L.toList == L.toList) = true := list_eq_test L L true ⟨fun _ => rfl, fun _ => rfl⟩
            have HS6 : Hid (TuSt w.heap.size (w5.alloc (.cells #[.string L, .int .i64 (og : Int)] 47)) t n s R2 P2 A) := Lib.hid (HS5.out.below ((Below.refl _ _).alloc (Nat.le_refl _) _))
            have HB6 : Hid (Below w.heap.size w (w5.alloc (.cells #[.string L, .int .i64 (og : Int)] 47))) := Lib.hid (HB5.out.alloc HB5.out.size _)
            go_wp2_with fail
            have TD6 := Lib.hid (HS6.out.tells HSR.out).2.2.1
            rw [HA.out, show (A == A) = true by rw [beq_iff_eq]] at TD6
            have HTT := Lib.hid HS5.out.lt
            refine TD6.out.mono ?_
            rintro e w7 ⟨rfl, m7, rfl⟩
            have HS7 := Lib.hid (HS6.out.below (below_drewN _ m7))
            have HB7 := Lib.hid (HB6.out.trans (belowB_drewN _ _ m7))
            go_wp2_with fail
            refine (TS.out _ HS7.out).mono ?_
            rintro e w8 ⟨rfl, ht8, hbt⟩
            have HB8 := Lib.hid (HB7.out.trans (ht8.below HB7.out.size (fun k hk => by rw [hk]; exact hbt)))
            have kt : w8.heap[w5.heap.size]? = (w5.alloc (.cells #[.string L, .int .i64 (og : Int)] 47)).heap[w5.heap.size]? := ht8.block w5.heap.size (by show _ < (w5.heap.push _).size; simp) (fun e => by have := HTT.out; omega)
            have k0 : w8.cell? ⟨w5.heap.size, 0, none⟩ = some (.string L) := (World.cell?_of_block kt).trans c0
            have k1 : w8.cell? ⟨w5.heap.size, 1, none⟩ = some (.int .i64 (og : Int)) := (World.cell?_of_block kt).trans c1
            clear ht8 kt
            go_wp2_with fail
            refine (HBA.out _).mono ?_
            rintro e w9 ⟨rfl, hb9⟩
            have HB9 := Lib.hid (HB8.out.trans (hb9.mono HB8.out.size))
            clear hb9
            go_wp2_with fail
            go_ret
            exact ⟨rfl, HB9.out⟩
end Go.Proofs.Ytfedhppcmmponaa
