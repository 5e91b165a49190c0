/-
  LAYER 28's STATEMENTS: WindowHolds: its walk.
-/
import Derived.Test.YtjpahpbofgfgfaaWinM
namespace Go.Proofs.Ytjpahpbofgfgfaa
open Go.RowKit Go.ChangeShapes Go.WideShapes Go.ChangeAt Go.Deep
set_option linter.unusedVariables false
set_option linter.unusedSimpArgs false
theorem WdNewP.hold {w w' : World} {S : Int} {zs : List Int} {e : Ending} (h : WdNewP w w' S zs e) (hm : wdMay S zs) : ∃ b v, e = .returned (.tuple #[.pointer (some ⟨b, 0, none⟩), .int .i64 0]) ∧ HoldM w (w'.alloc (.cells (madeCells #[Value.int .i64 0] zs.length) 3)) b v zs S 0 zeroF zeroF w'.heap.size ∧ Below w.heap.size w w' := by
  obtain ⟨b, v, rfl, hl, hb⟩ := h
  have hal : Below w'.heap.size w' (w'.alloc (.cells (madeCells #[Value.int .i64 0] zs.length) 3)) := (Below.refl _ _).alloc (Nat.le_refl _) _
  refine ⟨b, v, rfl, ⟨hl.far hal, MtInv.new hm, ?_, ⟨by have := hl.lt; omega, fun k hk => by have := (hl.row.lt k hk).2; omega⟩, hb.trans (hal.mono hb.size), hb.size⟩, hb⟩
  rw [← sumL_zero]
  exact RowI.made w' zs.length
set_option maxRecDepth 100000 in
set_option maxHeartbeats 16000000 in
theorem windowHolds.main (S : Int) (v : Value) (zs : List Int) (a : Option Addr) (len cap : Nat) (l : List Act3) (w : World) (hz : IsInts w v zs) (hzn : zs.length ≤ 9223372036854775807) (hl : IsActs3 w a len l) :
    Calls Try.prog 8 #[.int .i64 S, v, .slice a len cap] w fun e w' => e = .returned (.bool true) ∧ Below w.heap.size w w' := by
  have HRL := Lib.hid (rmay28_any S v zs w hz hzn)
  have hml : len ≤ maxLen := hl.2.2
  unfold maxLen at hml
  have HL := Lib.hid hl
  have HZ := Lib.hid hz
  clear hl
  by_cases h100 : (len : Int) > 100
  · go_enter Try.func8, Try.ntmps8
    go_wp2_with fail
    refine (five28_any _).mono ?_
    rintro e w1 ⟨rfl, hb⟩
    have HB := Lib.hid hb
    clear hb
    go_wp2_with fail
    go_ret
    exact ⟨rfl, HB.out⟩
  by_cases hm : wdMay S zs
  · have HM := Lib.hid hm
    rw [decide_eq_true hm] at HRL
    have HN := Lib.hid (wdnew_any S v zs w hz hm)
    obtain ⟨az, cz, rfl, _⟩ := hz
    have hn16 : zs.length ≤ 16 := hm.2.2.1
    have hS1 : 1 ≤ S := hm.1.1
    have hS2 : S ≤ 1048576 := hm.1.2
    have HMK := Lib.hid (fun W => make_ints zs.length (by omega) W)
    obtain ⟨n, hn⟩ : ∃ n, zs.length = n := ⟨_, rfl⟩
    have HNN := Lib.hid hn
    have e0 : Value.slice az zs.length cz = Value.slice az n cz := by rw [hn]
    rw [e0] at HN HRL HZ ⊢
    rw [hn] at HMK hn16
    have hS0 : S ≠ 0 := by omega
    have hS00 : (S == 0) = false := by rw [beq_eq_false_iff_ne]; exact hS0
    clear hm hn hzn e0
    go_enter Try.func8, Try.ntmps8
    go_wp2_with fail
    refine HRL.out.mono ?_
    rintro e w1 ⟨rfl, hw1⟩
    obtain rfl := hw1.symm
    go_wp2_with fail
    refine HN.out.mono ?_
    rintro e w2 h2
    obtain ⟨b, v, rfl, h3, hb3⟩ := h2.hold HM.out
    have hmk := HMK.out w2
    rw [HNN.out] at h3
    have H3 := Lib.hid h3
    clear h2 h3 HRL hb3 HN
    go_wp2_with fail
    go_loopw [9, 10, 12, 34] (fun v9 v10 _ vi wr => ∃ (k g : Nat) (A : Int) (C D : Nat → Int), vi = .int .i64 (k : Int) ∧ v9 = .slice (some ⟨g, 0, none⟩) n n ∧ v10 = .int .i64 A ∧ k ≤ len ∧ A ≤ k ∧ Hid (HoldM w wr b v zs S A C D g)) (fun _ _ _ vi _ => len - (intOf vi).toNat)
    case atStart => exact ⟨0, w2.heap.size, 0, zeroF, zeroF, rfl, rfl, rfl, by omega, by omega, H3⟩
    case round =>
      obtain ⟨k, g, A, C, D, rfl, rfl, rfl, hk, hAk, hH⟩ := hrel
      clear hmk
      by_cases hlt : k < len
      · have hki : (k : Int) < (len : Int) := by omega
        have hA0 : 0 ≤ A := hH.out.inv.2.1.1
        obtain ⟨o, bl, ol, hx, hok, rfl, _, c0, c1, c2⟩ := HL.out.at_ hH.out.below hlt
        obtain ⟨R, T, Z⟩ := o
        dsimp only at c0 c1 c2
        have hZr : -9223372036854775808 ≤ Z ∧ Z ≤ 9223372036854775807 := ⟨hok.n1, hok.n2⟩
        obtain ⟨w4, hw4⟩ : ∃ w4, wr.alloc (.cells #[.bool R, .int .i64 T, .int .i64 Z] 50) = w4 := ⟨_, rfl⟩
        have hx4 : w4.heap[wr.heap.size]? = some (.cells #[.bool R, .int .i64 T, .int .i64 Z] 50 (0, 0)) := by rw [← hw4]; exact heap_alloc_new _ _
        have H6 := Lib.hid (hH.out.next (show Below wr.heap.size wr w4 by rw [← hw4]; exact (Below.refl _ _).alloc (Nat.le_refl _) _))
        have d0 : w4.cell? ⟨wr.heap.size, 0, none⟩ = some (.bool R) := by rw [cell_of_row _ _ 0 _ _ _ hx4]; rfl
        have d1 : w4.cell? ⟨wr.heap.size, 1, none⟩ = some (.int .i64 T) := by rw [cell_of_row _ _ 1 _ _ _ hx4]; rfl
        have d2 : w4.cell? ⟨wr.heap.size, 2, none⟩ = some (.int .i64 Z) := by rw [cell_of_row _ _ 2 _ _ _ hx4]; rfl
        have HX4 := Lib.hid hx4
        have HG : Hid (wr.heap.size ≠ b ∧ wr.heap.size ≠ g) := Lib.hid (by
          have l1 := hH.out.mt.lt
          have l2 := hH.out.row.lt
          omega)
        clear hx hok hx4
        cases R
        · by_cases hE : chgA zs C T Z = 0
          · obtain ⟨hT, hZ, hle⟩ := chgA_zero hE
            obtain ⟨t, rfl⟩ : ∃ t : Nat, T = (t : Int) := ⟨T.toNat, by omega⟩
            rw [Int.toNat_natCast] at hle
            have HCH := Lib.hid (wdcharge_any (t : Int) Z w4 H6.out.mt H6.out.inv)
            have HCD : Hid (∀ W, MtDone w.heap.size w4 W b v zs S A C D (t : Int) Z (chgA zs C (t : Int) Z) → RowI W g (sumL C zs.length) ∧ Touch (· = b) w4 W ∧ ∀ m, HoldM w ((W.drewN m).setCell ⟨g, t, none⟩ (.int .i64 (C t + Z))) b v zs S A (updI C t (C t + Z)) (updI D t (min (D t + Z) 1099511627776)) g) := Lib.hid (fun W hW => H6.out.charged hE hW)
            have hI := H6.out.inv.2.2.2 t (by omega)
            have HSG := Lib.hid (sumL_get C (show t < zs.length by omega))
            have htn : t < n := by have := HNN.out; omega
            rw [hE] at HCH HCD
            obtain ⟨hZ0, hZ1⟩ := hZ
            have k1 : decide ((t : Int) < 0) = false := decide_eq_false (by omega)
            have k2 : decide (n ≤ t) = false := decide_eq_false (by omega)
            have k3 : decide (Z < 0) = false := decide_eq_false (by omega)
            have k4 : ¬ Z < 0 := by omega
            have k5 : ¬ (t : Int) < 0 := by omega
            have k6 : ¬ (t : Int) ≥ (n : Int) := by omega
            have k7 : (t : Int) < (n : Int) := by omega
            have k8 : (0 : Int) ≤ (t : Int) := by omega
            have k9 : decide ((t : Int) ≥ (n : Int)) = false := decide_eq_false k6
            have HTZ : Hid (t < zs.length) := Lib.hid (by have := HNN.out; omega)
            clear hE hT
            go_wp2_with fail
            refine HCH.out.mono ?_
            rintro e w5 ⟨rfl, hd5⟩
            obtain ⟨hrow, ht5, hnx⟩ := HCD.out w5 hd5
            have HNX := Lib.hid hnx
            have hx5 := (ht5.block _ (Array.getElem?_eq_some_iff.1 HX4.out).1 HG.out.1).trans HX4.out
            have f1 : w5.cell? ⟨wr.heap.size, 1, none⟩ = some (.int .i64 (t : Int)) := by rw [cell_of_row _ _ 1 _ _ _ hx5]; rfl
            have f2 : w5.cell? ⟨wr.heap.size, 2, none⟩ = some (.int .i64 Z) := by rw [cell_of_row _ _ 2 _ _ _ hx5]; rfl
            have hrc := hrow.cell (i := t) (by rw [sumL_len]; exact HTZ.out)
            have f3 := hrc.1
            have f4 := hrc.2.1
            rw [HSG.out] at f3
            obtain ⟨bz, oz, cz2, he1, cx⟩ := (HZ.out.below (H6.out.below.trans (ht5.below H6.out.below.size (fun i hi => by have : i = b := hi; have := H6.out.mt.own; omega)))).cell (k := t) HTZ.out
            simp only [Value.slice.injEq] at he1
            obtain ⟨rfl, he2, rfl⟩ := he1
            clear he2 hd5 hrow ht5 hnx hx5 hrc d0 d1 d2 HCH HCD
            generalize zs.getD t 0 = y at *
            obtain ⟨c, hc⟩ : ∃ c, C t = c := ⟨_, rfl⟩
            rw [hc] at f3 HNX hle hI
            have HCC := Lib.hid hc
            obtain ⟨d, hd⟩ : ∃ d, y - c = d := ⟨_, rfl⟩
            obtain ⟨s, hs⟩ : ∃ s, c + Z = s := ⟨_, rfl⟩
            rw [hd] at hle
            rw [hs] at HNX
            have hdw : IntKind.i64.wrap d = d := IntWalk.i64_in _ (by omega)
            have hsw : IntKind.i64.wrap s = s := IntWalk.i64_in _ (by omega)
            have HSB : Hid (-9223372036854775808 ≤ s ∧ s ≤ 9223372036854775807) := Lib.hid (by omega)
            have hgt : ¬ Z > d := by omega
            have hgd : decide (Z > d) = false := decide_eq_false hgt
            have hgd2 : decide (d < Z) = false := decide_eq_false hgt
            have HSS := Lib.hid hs
            clear hc hI hs
            go_wp2_with fail
            go_quiet (fail)
            go_wp2_with fail
            obtain ⟨w6, hw6⟩ : ∃ w6, w5.drewN nq = w6 := ⟨_, rfl⟩
            obtain ⟨w7, hw7⟩ : ∃ w7, w6.drewN 1 = w7 := ⟨_, rfl⟩
            have h57 : w5.drewN (nq + 1) = w7 := by rw [← hw7, ← hw6]; rfl
            have HE := Lib.hid (HNX.out (nq + 1))
            have r1 : w6.cell? ⟨wr.heap.size, 1, none⟩ = some (.int .i64 (t : Int)) := by rw [← hw6]; exact f1
            have r2 : w6.cell? ⟨wr.heap.size, 2, none⟩ = some (.int .i64 Z) := by rw [← hw6]; exact f2
            have r3 : w6.cell? ⟨g, t, none⟩ = some (.int .i64 c) := by rw [← hw6]; exact f3
            have s3 : w7.cell? ⟨g, t, none⟩ = some (.int .i64 c) := by rw [← h57]; exact f3
            have s4 : w7.frozen? ⟨g, t, none⟩ = false := by rw [← h57]; exact f4
            rw [h57] at HE
            rw [hw6]
            have HW7 := Lib.hid hw7
            clear f1 f2 f3 f4 hw6 hw7 h57 HNX cx
            go_still_tail 12, (by kernel_rfl)
            change wpList _ _ _ _ _ (w6.drewN 1)
            rw [HW7.out, HSS.out]
            try rw [show wrap64 s = s from IntWalk.wrap64_in _ HSB.out]
            go_wp2_with fail
            go_roundw
            case rel => exact ⟨k + 1, g, A, _, _, by go_num, rfl, rfl, by omega, by omega, HE⟩
            case measure => simp [intOf]; omega
          · have HCH := Lib.hid (wdcharge_any T Z w4 H6.out.mt H6.out.inv)
            have HRE : Hid (∀ W, MtDone w.heap.size w4 W b v zs S A C D T Z (chgA zs C T Z) → HoldM w W b v zs S A C D g) := Lib.hid (fun W hW => H6.out.refused hE hW)
            generalize chgA zs C T Z = E at *
            have kE : (E != 0) = true := by rw [bne_iff_ne]; exact hE
            clear hE
            go_wp2_with fail
            refine HCH.out.mono ?_
            rintro e w5 ⟨rfl, hd5⟩
            have H7 := Lib.hid (HRE.out w5 hd5)
            clear hd5 HCH HRE
            go_wp2_with fail
            go_roundw
            case rel => exact ⟨k + 1, g, A, C, D, by go_num, rfl, rfl, by omega, by omega, H7⟩
            case measure => simp [intOf]; omega
        · have HTK := Lib.hid (wdtick_any w4 H6.out.mt H6.out.inv)
          have hA : ¬ A = 1099511627776 := by omega
          obtain ⟨A2, hA2⟩ : ∃ A2, A + 1 = A2 := ⟨_, rfl⟩
          have hwA : IntKind.i64.wrap A2 = A2 := IntWalk.i64_in _ (by omega)
          have hmd : A2.tmod S = A2 % S := by rw [Int.tmod_eq_emod_of_nonneg (by omega)]
          have hm1 := Int.emod_nonneg A2 hS0
          have hm2 := Int.emod_lt_of_pos A2 (show 0 < S by omega)
          have hwm : IntKind.i64.wrap (A2 % S) = A2 % S := IntWalk.i64_in _ (by omega)
          by_cases hm : A2 % S = 0
          · have kM : (A2 % S == 0) = true := by rw [beq_iff_eq]; exact hm
            have HBE : Hid (∀ W, IsMt w.heap.size W b v zs S (tkA A) (tkC S A C) D → Touch (· = b) w4 W → HoldM w (W.alloc (.cells (madeCells #[Value.int .i64 0] n) 3)) b v zs S A2 zeroF D W.heap.size) := Lib.hid (fun W h1 h2 => by have := H6.out.begun hA (by rw [hA2]; exact hm) h1 h2; rw [hA2, HNN.out] at this; exact this)
            clear hm hm1 hm2
            go_wp2_with fail
            refine HTK.out.mono ?_
            rintro e w5 ⟨rfl, h1, h2⟩
            have H7 := Lib.hid (HBE.out w5 h1 h2)
            have hmk5 := HMK.out w5
            clear h1 h2 HTK HBE
            go_wp2_with fail
            go_roundw
            case rel => exact ⟨k + 1, w5.heap.size, A2, zeroF, D, by go_num, rfl, rfl, by omega, by omega, H7⟩
            case measure => simp [intOf]; omega
          · have kM : (A2 % S == 0) = false := by rw [beq_eq_false_iff_ne]; exact hm
            have HTE : Hid (∀ W, IsMt w.heap.size W b v zs S (tkA A) (tkC S A C) D → Touch (· = b) w4 W → HoldM w W b v zs S A2 C D g) := Lib.hid (fun W h1 h2 => by have := H6.out.ticked hA (by rw [hA2]; exact hm) h1 h2; rw [hA2] at this; exact this)
            clear hm hm1 hm2
            go_wp2_with fail
            refine HTK.out.mono ?_
            rintro e w5 ⟨rfl, h1, h2⟩
            have H7 := Lib.hid (HTE.out w5 h1 h2)
            clear h1 h2 HTK HTE
            go_wp2_with fail
            go_roundw
            case rel => exact ⟨k + 1, g, A2, C, D, by go_num, rfl, rfl, by omega, by omega, H7⟩
            case measure => simp [intOf]; omega
      · have hki : ¬ (k : Int) < (len : Int) := by omega
        go_wp2_with fail
        refine (five28_any _).mono ?_
        rintro e w4 ⟨rfl, hb⟩
        have HB := Lib.hid (hH.out.next hb).below
        clear hb
        go_wp2_with fail
        go_ret
        exact ⟨rfl, HB.out⟩
  · rw [decide_eq_false hm] at HRL
    clear hm
    go_enter Try.func8, Try.ntmps8
    go_wp2_with fail
    refine HRL.out.mono ?_
    rintro e w1 ⟨rfl, hw1⟩
    obtain rfl := hw1.symm
    go_wp2_with fail
    refine (five28_any _).mono ?_
    rintro e w1 ⟨rfl, hb⟩
    have HB := Lib.hid hb
    clear hb
    go_wp2_with fail
    go_ret
    exact ⟨rfl, HB.out⟩
end Go.Proofs.Ytjpahpbofgfgfaa
