/-
  LAYER 27's STATEMENTS: LedgerActs.
-/
import Derived.Test.YtjpahpbofgfgfaaLedL
namespace Go.Proofs.Ytjpahpbofgfgfaa
open Go.RowKit Go.ChangeShapes Go.WideShapes Go.ChangeAt Go.Deep
set_option linter.unusedVariables false
set_option linter.unusedSimpArgs false
/-- What is told of the tenant m, by the ledger and by the document. -/
def LgTold (w : World) (b : Nat) (v : Value) (m : Nat) (u p x : Int) : Prop := ∀ W, Below w.heap.size w W →
  (Calls Try.prog 19 #[.pointer (some ⟨b, 0, none⟩), .int .i64 (m : Int)] W fun e w' => e = .returned (.int .i64 u) ∧ Below W.heap.size W w') ∧
  (Calls Try.prog 18 #[v, .int .i64 (m : Int)] W fun e w' => e = .returned (.int .i64 u) ∧ Below W.heap.size W w') ∧
  (Calls Try.prog 20 #[.pointer (some ⟨b, 0, none⟩), .int .i64 (m : Int)] W fun e w' => e = .returned (.int .i64 (x - u)) ∧ Below W.heap.size W w') ∧
  (Calls Try.prog 21 #[.pointer (some ⟨b, 0, none⟩), .int .i64 (m : Int)] W fun e w' => e = .returned (.int .i64 p) ∧ Below W.heap.size W w') ∧
  (Calls Try.prog 22 #[v, .int .i64 (m : Int)] W fun e w' => e = .returned (.int .i64 p) ∧ Below W.heap.size W w') ∧
  (Calls Try.prog 23 #[.pointer (some ⟨b, 0, none⟩), .int .i64 (m : Int)] W fun e w' => e = .returned (.int .i64 x) ∧ Below W.heap.size W w')
theorem LgAct.told {w0 w : World} {b g k m : Nat} {zs : List Int} {v : Value} {ds : List (Int × Int)} (h : LgAct w0 w b g zs v ds k) (hk : k ≤ 1000) (hm : m < zs.length) :
    ∃ u p, (0 ≤ u ∧ u ≤ p ∧ p ≤ zs.getD m 0 ∧ zs.getD m 0 ≤ 1099511627776) ∧ LgTold w b v m u p (zs.getD m 0) := by
  have hok := h.ddok hk
  obtain ⟨⟨U, P, h1, h2, h3⟩, h4, _⟩ := h
  obtain ⟨e1, e2⟩ := h3 m hm
  have hI := h2 m hm
  have x1 : lk U zs.length (m : Int) = usedD ds (m : Int) := (lk_at U hm).trans e1
  have x2 : lk P zs.length (m : Int) = peakD ds (m : Int) := (lk_at P hm).trans e2
  have x3 : lk (limF zs) zs.length (m : Int) = zs.getD m 0 := lk_at (limF zs) hm
  rw [e1, e2] at hI
  refine ⟨usedD ds (m : Int), peakD ds (m : Int), hI, fun W hW => ?_⟩
  have hl : LgV W (.pointer (some ⟨b, 0, none⟩)) zs.length (limF zs) U P := Or.inr ⟨b, g, rfl, h1.far hW⟩
  have hd := h4.dd.below hW
  have hi3 : usedD ds (m : Int) ≤ zs.getD m 0 := Int.le_trans hI.2.1 hI.2.2.1
  have hi4 : zs.getD m 0 ≤ 1099511627776 := hI.2.2.2
  refine ⟨?_, rused27_any v ds _ W hd hok, ?_, ?_, rpeak27_any v ds _ W hd hok, ?_⟩
  · have := lgused_v (m : Int) W hl; rw [x1] at this; exact this
  · have := lgleft_v (m : Int) W hl (by rw [x1, x3]; omega); rw [x1, x3] at this; exact this
  · have := lgpeak_v (m : Int) W hl; rw [x2] at this; exact this
  · have := lglimit_v (m : Int) W hl; rw [x3] at this; exact this
theorem relR_zero {zs : List Int} {ds : List (Int × Int)} {T x : Int} (h : relR zs ds T x = 0) : 0 ≤ x := by
  unfold relR at h
  split at h
  · omega
  · split at h
    · omega
    · omega
theorem rsvR_zero {zs : List Int} {ds : List (Int × Int)} {T x : Int} (h : rsvR zs ds T x = 0) : 0 ≤ x := by
  unfold rsvR at h
  split at h
  · omega
  · split at h
    · omega
    · rename_i h1
      exact (Classical.not_not.1 h1).1
set_option maxRecDepth 100000 in
set_option maxHeartbeats 16000000 in
theorem ledgerActs.main (v : Value) (zs : List Int) (a : Option Addr) (len cap : Nat) (l : List Act3) (w : World) (hz : IsInts w v zs) (hzn : zs.length ≤ 9223372036854775807) (hl : IsActs3 w a len l) :
    Calls Try.prog 3 #[v, .slice a len cap] w fun e w' => e = .returned (.bool true) ∧ Below w.heap.size w w' := by
  have HRL := Lib.hid (rlimits_any v zs w hz hzn)
  have hml : len ≤ maxLen := hl.2.2
  unfold maxLen at hml
  have HL := Lib.hid hl
  have HZ := Lib.hid hz
  clear hl
  by_cases h100 : (len : Int) > 40
  · go_enter Try.func3, Try.ntmps3
    go_wp2_with fail
    refine (ten27_any _).mono ?_
    rintro e w1 ⟨rfl, hb⟩
    have HB := Lib.hid hb
    clear hb
    go_wp2_with fail
    go_ret
    exact ⟨rfl, HB.out⟩
  by_cases hm : lgMay zs
  · have HM := Lib.hid hm
    rw [decide_eq_true (show 1 ≤ zs.length ∧ zs.length ≤ 16 ∧ ∀ x ∈ zs, lgIs x from hm)] at HRL
    have HN := Lib.hid (lgnew_any v zs w hz hm)
    have hn16 := hm.2.1
    obtain ⟨az, cz, rfl, _⟩ := hz
    obtain ⟨n, hn⟩ : ∃ n, zs.length = n := ⟨_, rfl⟩
    have HNN := Lib.hid hn
    rw [hn] at hn16
    have e0 : Value.slice az zs.length cz = Value.slice az n cz := by rw [hn]
    rw [e0] at HN HRL HZ ⊢
    clear hm hn hzn e0
    go_enter Try.func3, Try.ntmps3
    go_wp2_with fail
    refine HN.out.mono ?_
    rintro e w2 h2
    obtain ⟨b, g, rfl, h3, hb3, o1, o2⟩ := h2
    have H3 := Lib.hid h3
    have HB3 := Lib.hid hb3
    have H5 : Hid (LgAct w w2 b g zs (.slice none 0 0) [] 0) := Lib.hid ⟨⟨_, _, h3, fun i hi => by
        have hx : lgIs (limF zs i) := by
          unfold limF
          rw [List.getD_eq_getElem?_getD, List.getElem?_eq_getElem hi]
          exact HM.out.2.2 _ (List.getElem_mem hi)
        exact ⟨Int.le_refl _, Int.le_refl _, hx.1, hx.2⟩, fun i hi => ⟨rfl, rfl⟩⟩, OwnDd.nil _ _, fun j hj => by simp [Value.ownBlock] at hj, hb3, ⟨o1, o2⟩, by simp, fun x hx => by simp at hx⟩
    clear h3 hb3 HN o1 o2
    have HRL2 := Lib.hid (rlimits_any (.slice az n cz) zs w2 (HZ.out.below HB3.out) (by have := HNN.out; omega))
    rw [decide_eq_true (show 1 ≤ zs.length ∧ zs.length ≤ 16 ∧ ∀ x ∈ zs, lgIs x from HM.out)] at HRL2
    go_wp2_with fail
    refine HRL2.out.mono ?_
    rintro e w3 ⟨rfl, hw3⟩
    obtain rfl := hw3.symm
    clear HRL HRL2
    go_wp2_with fail
    go_loopw [7, 9, 10, 11, 12, 13, 14, 15, 39] (fun vd _ _ _ _ _ _ _ vi wr => ∃ (k : Nat) (ds : List (Int × Int)), vi = .int .i64 (k : Int) ∧ k ≤ len ∧ Hid (LgAct w wr b g zs vd ds k)) (fun _ _ _ _ _ _ _ _ vi _ => len - (intOf vi).toNat)
    case atStart => exact ⟨0, [], rfl, by omega, H5⟩
    case round =>
      obtain ⟨k, ds, rfl, hk, hH⟩ := hrel
      obtain ⟨ad, cd, rfl⟩ := hH.out.row.slice
      obtain ⟨dn, hdn⟩ : ∃ dn, ds.length = dn := ⟨_, rfl⟩
      have HDN := Lib.hid hdn
      have hdk : dn ≤ 1000 := by have := hH.out.len; omega
      rw [hdn] at hH ⊢
      clear hdn
      by_cases hlt : k < len
      · have hki : (k : Int) < (len : Int) := by omega
        have HK : Hid (k ≤ 40) := Lib.hid (by omega)
        have HN1 : Hid (1 ≤ zs.length) := Lib.hid HM.out.1
        obtain ⟨o, bl, ol, hx, hok, rfl, _, c0, c1, c2⟩ := HL.out.at_ hH.out.below hlt
        obtain ⟨R, T, Z⟩ := o
        dsimp only at c0 c1 c2
        have hz1 : -9223372036854775808 ≤ Z ∧ Z ≤ 9223372036854775807 := ⟨hok.n1, hok.n2⟩
        obtain ⟨w4, hw4⟩ : ∃ w4, wr.alloc (.cells #[.bool R, .int .i64 T, .int .i64 Z] 32) = w4 := ⟨_, rfl⟩
        obtain ⟨w5, hw5⟩ : ∃ w5, w4.alloc (.cells #[.int .i64 T, .int .i64 Z] 34) = w5 := ⟨_, rfl⟩
        have hs4 : w4.heap.size = wr.heap.size + 1 := by rw [← hw4]; simp
        have hx4 : w4.heap[wr.heap.size]? = some (.cells #[.bool R, .int .i64 T, .int .i64 Z] 32 (0, 0)) := by rw [← hw4]; exact heap_alloc_new _ _
        have hx5 : w5.heap[wr.heap.size]? = some (.cells #[.bool R, .int .i64 T, .int .i64 Z] 32 (0, 0)) := by rw [← hw5]; exact (Below.heap_alloc _ _ _ (by omega)).trans hx4
        have hy5 : w5.heap[w4.heap.size]? = some (.cells #[.int .i64 T, .int .i64 Z] 34 (0, 0)) := by rw [← hw5]; exact heap_alloc_new _ _
        have d0 : w4.cell? ⟨wr.heap.size, 0, none⟩ = some (.bool R) := by rw [cell_of_row _ _ 0 _ _ _ hx4]; rfl
        have d1 : w4.cell? ⟨wr.heap.size, 1, none⟩ = some (.int .i64 T) := by rw [cell_of_row _ _ 1 _ _ _ hx4]; rfl
        have d2 : w4.cell? ⟨wr.heap.size, 2, none⟩ = some (.int .i64 Z) := by rw [cell_of_row _ _ 2 _ _ _ hx4]; rfl
        have e0 : w5.cell? ⟨wr.heap.size, 0, none⟩ = some (.bool R) := by rw [cell_of_row _ _ 0 _ _ _ hx5]; rfl
        have e1 : w5.cell? ⟨wr.heap.size, 1, none⟩ = some (.int .i64 T) := by rw [cell_of_row _ _ 1 _ _ _ hx5]; rfl
        have e2 : w5.cell? ⟨wr.heap.size, 2, none⟩ = some (.int .i64 Z) := by rw [cell_of_row _ _ 2 _ _ _ hx5]; rfl
        have e3 : w5.cell? ⟨w4.heap.size, 0, none⟩ = some (.int .i64 T) := by rw [cell_of_row _ _ 0 _ _ _ hy5]; rfl
        have e4 : w5.cell? ⟨w4.heap.size, 1, none⟩ = some (.int .i64 Z) := by rw [cell_of_row _ _ 1 _ _ _ hy5]; rfl
        have hb5 : Below wr.heap.size wr w5 := by rw [← hw5, ← hw4]; exact ((Below.refl _ _).alloc (Nat.le_refl _) _).alloc (by simp) _
        have H6 := Lib.hid (hH.out.next hb5)
        have HG : Hid (g < wr.heap.size ∧ b < wr.heap.size ∧ ∀ j, (Value.slice ad dn cd).ownBlock = some j → j < wr.heap.size) := Lib.hid (by
          obtain ⟨⟨U, P, q1, _⟩, q2, _⟩ := hH.out
          exact ⟨q1.lt.2, q1.lt.1, fun j hj => (q2.lt j hj).2⟩)
        have HS4 := Lib.hid hs4
        have HX5 := Lib.hid hx5
        have HY5 := Lib.hid hy5
        have HWB := Lib.hid (H6.out.below.size)
        have HWR := Lib.hid (hH.out.below.size)
        have HZ5 := Lib.hid (HZ.out.below H6.out.below)
        have HZ1 := Lib.hid hz1
        clear hx hok hx4 hx5 hy5 hb5 hz1 hs4
        obtain ⟨M, hM⟩ : ∃ M, IntKind.i64.wrap (0 - Z) = M := ⟨_, rfl⟩
        have hM2 : IntKind.i64.wrap (-Z) = M := by rw [← hM, Int.zero_sub]
        cases R
        · have HRF := Lib.hid (rreserve27_any (.slice az n cz) (.slice ad dn cd) zs ds T Z w5 HZ5.out HM.out.2.2 H6.out.row.dd (H6.out.ddok (by have := HK.out; omega)))
          have HCZ : Hid (rsvR zs ds T Z = 0 → 0 ≤ Z) := Lib.hid (fun h => rsvR_zero h)
          have HDO : Hid (∀ W, LgAct w W b g zs (.slice ad dn cd) ds k → Calls Try.prog 17 #[.pointer (some ⟨b, 0, none⟩), .int .i64 T, .int .i64 Z] W fun e w' => e = .returned (.int .i64 (rsvR zs ds T Z)) ∧ LgMid w w' b g zs (.slice ad dn cd) ds (ddNext ds T Z (rsvR zs ds T Z)) k ∧ Touch (· = g) W w') := Lib.hid (fun W hW => lga_rsv T Z hW HN1.out HZ1.out)
          generalize rsvR zs ds T Z = E at *
          go_wp2_with fail
          refine HRF.out.mono ?_
          rintro e w6 ⟨rfl, hb6⟩
          have hx6 := (hb6.block _ (Array.getElem?_eq_some_iff.1 HX5.out).1).trans HX5.out
          have hy6 := (hb6.block _ (Array.getElem?_eq_some_iff.1 HY5.out).1).trans HY5.out
          have f1 : w6.cell? ⟨wr.heap.size, 1, none⟩ = some (.int .i64 T) := by rw [cell_of_row _ _ 1 _ _ _ hx6]; rfl
          have f2 : w6.cell? ⟨wr.heap.size, 2, none⟩ = some (.int .i64 Z) := by rw [cell_of_row _ _ 2 _ _ _ hx6]; rfl
          have HY6 := Lib.hid hy6
          have HQ6 := Lib.hid (HDO.out w6 (H6.out.next hb6))
          have HW6 := Lib.hid (Nat.le_trans H6.out.below.size hb6.size)
          clear hb6 hx6 hy6 d0 d1 d2 e0 e1 e2 e3 e4 HDO HRF
          go_wp2_with fail
          refine HQ6.out.mono ?_
          rintro e w7 ⟨rfl, hmid, ht7⟩
          have hy7 := (ht7.block _ (Array.getElem?_eq_some_iff.1 HY6.out).1 (by have := HG.out.1; have := HS4.out; omega)).trans HY6.out
          have g0 : w7.cell? ⟨w4.heap.size, 0, none⟩ = some (.int .i64 T) := by rw [cell_of_row _ _ 0 _ _ _ hy7]; rfl
          have g1 : w7.cell? ⟨w4.heap.size, 1, none⟩ = some (.int .i64 Z) := by rw [cell_of_row _ _ 1 _ _ _ hy7]; rfl
          have g2 : w7.frozen? ⟨w4.heap.size, 1, none⟩ = false := frozen_of_row _ _ _ _ _ hy7
          have HMID := Lib.hid hmid
          have HY7 := Lib.hid hy7
          clear hmid ht7 hy7 HQ6 f1 f2
          by_cases hE : E = 0
          · subst hE
            have HOWN := Lib.hid HMID.out.row
            have HSZ : Hid (w.heap.size ≤ w7.heap.size) := Lib.hid HMID.out.below.size
            go_wp2_with (at_builtin; refine push_dd w7 rfl _ _ rfl w.heap.size _ ds T Z HOWN.out rfl rfl (by have := HDN.out; omega) HSZ.out ?_)
            intro v9 w9 hown9 ht9 hv9
            have hh : LgAct w w9 b g zs v9 (ds ++ [(T, Z)]) (k + 1) := (by have h := HMID.out; unfold ddNext at h; rw [if_pos rfl] at h; exact h.push hown9 ht9 hv9)
            obtain ⟨a9, c9, rfl⟩ := slice_of_own hown9
            obtain ⟨n9, hn9⟩ : ∃ n9, (ds ++ [(T, Z)]).length = n9 := ⟨_, rfl⟩
            obtain ⟨D9, hD9⟩ : ∃ D9, ds ++ [(T, Z)] = D9 := ⟨_, rfl⟩
            rw [hn9, hD9] at hh
            have HH := Lib.hid hh
            simp only [hn9]
            clear hown9 ht9 hv9 hh hn9 hD9
            obtain ⟨wa, rfl⟩ : ∃ wa : World, wa = wr := ⟨_, rfl⟩
            go_wp2_with fail
            go_loopw [13, 14, 15, 85] (fun _ _ _ vi wr => ∃ m : Nat, vi = .int .i64 (m : Int) ∧ m ≤ n ∧ Hid (Below w9.heap.size w9 wr)) (fun _ _ _ vi _ => n - (intOf vi).toNat)
            case atStart => exact ⟨0, rfl, by omega, Lib.hid (Below.refl _ _)⟩
            case round =>
              obtain ⟨m, rfl, hm, hB⟩ := hrel
              by_cases hmn : m < n
              · have hmi : (m : Int) < (n : Int) := by omega
                obtain ⟨bz, oz, cz2, he1, cx⟩ := (HZ.out.below (HH.out.below.trans (hB.out.mono HH.out.below.size))).cell (k := m) (by rw [HNN.out]; exact hmn)
                simp only [Value.slice.injEq] at he1
                obtain ⟨rfl, he2, rfl⟩ := he1
                clear he2
                obtain ⟨u, p, hup, htold⟩ := (HH.out.next hB.out).told (by have := HK.out; omega) (show m < zs.length by rw [HNN.out]; exact hmn)
                have HTD := Lib.hid htold
                clear htold
                generalize zs.getD m 0 = x at *
                obtain ⟨q1, q2, q3, q4⟩ := hup
                obtain ⟨d, hd⟩ : ∃ d, x - u = d := ⟨_, rfl⟩
                have HD : Hid (∀ W, Below wr.heap.size wr W → Calls Try.prog 20 #[.pointer (some ⟨b, 0, none⟩), .int .i64 (m : Int)] W fun e w' => e = .returned (.int .i64 d) ∧ Below W.heap.size W w') := Lib.hid (fun W hW => by rw [← hd]; exact (HTD.out W hW).2.2.1)
                have hdw : IntKind.i64.wrap d = d := IntWalk.i64_in _ (by omega)
                go_wp2_with fail
                refine (HTD.out _ (Below.refl _ _)).2.1.mono ?_
                rintro e x1 ⟨rfl, hb1⟩
                have HB1 := Lib.hid hb1
                clear hb1
                go_wp2_with fail
                refine (HTD.out _ HB1.out).1.mono ?_
                rintro e x2 ⟨rfl, hb2⟩
                have HB2 := Lib.hid (HB1.out.trans (hb2.mono HB1.out.size))
                clear hb2
                go_wp2_with fail
                refine (HD.out _ HB2.out).mono ?_
                rintro e x3 ⟨rfl, hb3⟩
                have HB3 := Lib.hid (HB2.out.trans (hb3.mono HB2.out.size))
                clear hb3
                go_wp2_with fail
                refine (HTD.out _ HB3.out).2.2.2.1.mono ?_
                rintro e x4 ⟨rfl, hb4⟩
                have HB4 := Lib.hid (HB3.out.trans (hb4.mono HB3.out.size))
                clear hb4
                go_wp2_with fail
                refine (HTD.out _ HB4.out).2.2.2.2.1.mono ?_
                rintro e x5 ⟨rfl, hb5⟩
                have HB5 := Lib.hid (HB4.out.trans (hb5.mono HB4.out.size))
                clear hb5
                go_wp2_with fail
                refine (HTD.out _ HB5.out).2.2.2.2.2.mono ?_
                rintro e x6 ⟨rfl, hb6⟩
                have HB6 := Lib.hid (hB.out.trans ((HB5.out.trans (hb6.mono HB5.out.size)).mono hB.out.size))
                clear hb6
                go_wp2_with fail
                go_roundw
                case rel => exact ⟨m + 1, by go_num, by omega, HB6⟩
                case measure => simp [intOf]; omega
              · have hmi : ¬ (m : Int) < (n : Int) := by omega
                have HE := Lib.hid (HH.out.next hB.out)
                go_wp2_with fail
                go_roundw
                case rel => exact ⟨k + 1, _, by go_num, by omega, HE⟩
                case measure => simp [intOf]; omega
          · have kE : (E == 0) = false := by rw [beq_eq_false_iff_ne]; exact hE
            have HH := Lib.hid (HMID.out.stay (by unfold ddNext; rw [if_neg hE]))
            clear hE
            obtain ⟨wa, rfl⟩ : ∃ wa : World, wa = wr := ⟨_, rfl⟩
            go_wp2_with fail
            go_loopw [13, 14, 15, 85] (fun _ _ _ vi wr => ∃ m : Nat, vi = .int .i64 (m : Int) ∧ m ≤ n ∧ Hid (Below w7.heap.size w7 wr)) (fun _ _ _ vi _ => n - (intOf vi).toNat)
            case atStart => exact ⟨0, rfl, by omega, Lib.hid (Below.refl _ _)⟩
            case round =>
              obtain ⟨m, rfl, hm, hB⟩ := hrel
              by_cases hmn : m < n
              · have hmi : (m : Int) < (n : Int) := by omega
                obtain ⟨bz, oz, cz2, he1, cx⟩ := (HZ.out.below (HH.out.below.trans (hB.out.mono HH.out.below.size))).cell (k := m) (by rw [HNN.out]; exact hmn)
                simp only [Value.slice.injEq] at he1
                obtain ⟨rfl, he2, rfl⟩ := he1
                clear he2
                obtain ⟨u, p, hup, htold⟩ := (HH.out.next hB.out).told (by have := HK.out; omega) (show m < zs.length by rw [HNN.out]; exact hmn)
                have HTD := Lib.hid htold
                clear htold
                generalize zs.getD m 0 = x at *
                obtain ⟨q1, q2, q3, q4⟩ := hup
                obtain ⟨d, hd⟩ : ∃ d, x - u = d := ⟨_, rfl⟩
                have HD : Hid (∀ W, Below wr.heap.size wr W → Calls Try.prog 20 #[.pointer (some ⟨b, 0, none⟩), .int .i64 (m : Int)] W fun e w' => e = .returned (.int .i64 d) ∧ Below W.heap.size W w') := Lib.hid (fun W hW => by rw [← hd]; exact (HTD.out W hW).2.2.1)
                have hdw : IntKind.i64.wrap d = d := IntWalk.i64_in _ (by omega)
                go_wp2_with fail
                refine (HTD.out _ (Below.refl _ _)).2.1.mono ?_
                rintro e x1 ⟨rfl, hb1⟩
                have HB1 := Lib.hid hb1
                clear hb1
                go_wp2_with fail
                refine (HTD.out _ HB1.out).1.mono ?_
                rintro e x2 ⟨rfl, hb2⟩
                have HB2 := Lib.hid (HB1.out.trans (hb2.mono HB1.out.size))
                clear hb2
                go_wp2_with fail
                refine (HD.out _ HB2.out).mono ?_
                rintro e x3 ⟨rfl, hb3⟩
                have HB3 := Lib.hid (HB2.out.trans (hb3.mono HB2.out.size))
                clear hb3
                go_wp2_with fail
                refine (HTD.out _ HB3.out).2.2.2.1.mono ?_
                rintro e x4 ⟨rfl, hb4⟩
                have HB4 := Lib.hid (HB3.out.trans (hb4.mono HB3.out.size))
                clear hb4
                go_wp2_with fail
                refine (HTD.out _ HB4.out).2.2.2.2.1.mono ?_
                rintro e x5 ⟨rfl, hb5⟩
                have HB5 := Lib.hid (HB4.out.trans (hb5.mono HB4.out.size))
                clear hb5
                go_wp2_with fail
                refine (HTD.out _ HB5.out).2.2.2.2.2.mono ?_
                rintro e x6 ⟨rfl, hb6⟩
                have HB6 := Lib.hid (hB.out.trans ((HB5.out.trans (hb6.mono HB5.out.size)).mono hB.out.size))
                clear hb6
                go_wp2_with fail
                go_roundw
                case rel => exact ⟨m + 1, by go_num, by omega, HB6⟩
                case measure => simp [intOf]; omega
              · have hmi : ¬ (m : Int) < (n : Int) := by omega
                have HE := Lib.hid (HH.out.next hB.out)
                go_wp2_with fail
                go_roundw
                case rel => exact ⟨k + 1, _, by go_num, by omega, HE⟩
                case measure => simp [intOf]; omega
        · have HRF := Lib.hid (rrelease27_any (.slice az n cz) (.slice ad dn cd) zs ds T Z w5 HZ5.out H6.out.row.dd (H6.out.ddok (by have := HK.out; omega)))
          have HCZ : Hid (relR zs ds T Z = 0 → 0 ≤ Z) := Lib.hid (fun h => relR_zero h)
          have HDO : Hid (∀ W, LgAct w W b g zs (.slice ad dn cd) ds k → Calls Try.prog 15 #[.pointer (some ⟨b, 0, none⟩), .int .i64 T, .int .i64 Z] W fun e w' => e = .returned (.int .i64 (relR zs ds T Z)) ∧ LgMid w w' b g zs (.slice ad dn cd) ds (ddNext ds T (-Z) (relR zs ds T Z)) k ∧ Touch (· = g) W w') := Lib.hid (fun W hW => lga_rel T Z hW HN1.out HZ1.out)
          generalize relR zs ds T Z = E at *
          go_wp2_with fail
          refine HRF.out.mono ?_
          rintro e w6 ⟨rfl, hb6⟩
          have hx6 := (hb6.block _ (Array.getElem?_eq_some_iff.1 HX5.out).1).trans HX5.out
          have hy6 := (hb6.block _ (Array.getElem?_eq_some_iff.1 HY5.out).1).trans HY5.out
          have f1 : w6.cell? ⟨wr.heap.size, 1, none⟩ = some (.int .i64 T) := by rw [cell_of_row _ _ 1 _ _ _ hx6]; rfl
          have f2 : w6.cell? ⟨wr.heap.size, 2, none⟩ = some (.int .i64 Z) := by rw [cell_of_row _ _ 2 _ _ _ hx6]; rfl
          have HY6 := Lib.hid hy6
          have HQ6 := Lib.hid (HDO.out w6 (H6.out.next hb6))
          have HW6 := Lib.hid (Nat.le_trans H6.out.below.size hb6.size)
          clear hb6 hx6 hy6 d0 d1 d2 e0 e1 e2 e3 e4 HDO HRF
          go_wp2_with fail
          refine HQ6.out.mono ?_
          rintro e w7 ⟨rfl, hmid, ht7⟩
          have hy7 := (ht7.block _ (Array.getElem?_eq_some_iff.1 HY6.out).1 (by have := HG.out.1; have := HS4.out; omega)).trans HY6.out
          have g0 : w7.cell? ⟨w4.heap.size, 0, none⟩ = some (.int .i64 T) := by rw [cell_of_row _ _ 0 _ _ _ hy7]; rfl
          have g1 : w7.cell? ⟨w4.heap.size, 1, none⟩ = some (.int .i64 Z) := by rw [cell_of_row _ _ 1 _ _ _ hy7]; rfl
          have g2 : w7.frozen? ⟨w4.heap.size, 1, none⟩ = false := frozen_of_row _ _ _ _ _ hy7
          have HMID := Lib.hid hmid
          have HY7 := Lib.hid hy7
          clear hmid ht7 hy7 HQ6 f1 f2
          obtain ⟨w8, hw8⟩ : ∃ w8, w7.setCell ⟨w4.heap.size, 1, none⟩ (.int .i64 M) = w8 := ⟨_, rfl⟩
          have HT8 : Hid (Touch (· = w4.heap.size) w7 w8) := Lib.hid (by rw [← hw8]; exact touch_cell (Touch.refl _ _))
          have hy8 : w8.heap[w4.heap.size]? = some (.cells #[.int .i64 T, .int .i64 M] 34 (0, 0)) := by
            rw [← hw8]
            exact heap_setCell_same w7 w4.heap.size 1 _ _ (.int .i64 M) HY7.out
          have i0 : w8.cell? ⟨w4.heap.size, 0, none⟩ = some (.int .i64 T) := by rw [cell_of_row _ _ 0 _ _ _ hy8]; rfl
          have i1 : w8.cell? ⟨w4.heap.size, 1, none⟩ = some (.int .i64 M) := by rw [cell_of_row _ _ 1 _ _ _ hy8]; rfl
          have HMD8 := Lib.hid (HMID.out.next HT8.out (fun j hj => by have e : j = w4.heap.size := hj; have := HS4.out; have := HG.out; have := HWR.out; exact ⟨by omega, by omega, by omega⟩) (fun j hj e => by have e : j = w4.heap.size := e; have := HS4.out; have := HG.out.2.2 j hj; omega))
          have HMI : Hid (E = 0 → M = -Z) := Lib.hid (fun h => by rw [← hM2]; exact IntWalk.i64_in _ (by have := HCZ.out h; have := HZ1.out; omega))
          clear hy8 HMID
          by_cases hE : E = 0
          · have HMZ := Lib.hid (HMI.out hE)
            subst hE
            have HOWN := Lib.hid HMD8.out.row
            have HSZ : Hid (w.heap.size ≤ w8.heap.size) := Lib.hid HMD8.out.below.size
            go_wp2_with (at_builtin; refine push_dd w8 rfl _ _ rfl w.heap.size _ ds T M HOWN.out rfl rfl (by have := HDN.out; omega) HSZ.out ?_)
            intro v9 w9 hown9 ht9 hv9
            have hh : LgAct w w9 b g zs v9 (ds ++ [(T, M)]) (k + 1) := (by have h := HMD8.out; unfold ddNext at h; rw [if_pos rfl, ← HMZ.out] at h; exact h.push hown9 ht9 hv9)
            obtain ⟨a9, c9, rfl⟩ := slice_of_own hown9
            obtain ⟨n9, hn9⟩ : ∃ n9, (ds ++ [(T, M)]).length = n9 := ⟨_, rfl⟩
            obtain ⟨D9, hD9⟩ : ∃ D9, ds ++ [(T, M)] = D9 := ⟨_, rfl⟩
            rw [hn9, hD9] at hh
            have HH := Lib.hid hh
            simp only [hn9]
            clear hown9 ht9 hv9 hh hn9 hD9
            obtain ⟨wa, rfl⟩ : ∃ wa : World, wa = wr := ⟨_, rfl⟩
            go_wp2_with fail
            go_loopw [13, 14, 15, 85] (fun _ _ _ vi wr => ∃ m : Nat, vi = .int .i64 (m : Int) ∧ m ≤ n ∧ Hid (Below w9.heap.size w9 wr)) (fun _ _ _ vi _ => n - (intOf vi).toNat)
            case atStart => exact ⟨0, rfl, by omega, Lib.hid (Below.refl _ _)⟩
            case round =>
              obtain ⟨m, rfl, hm, hB⟩ := hrel
              by_cases hmn : m < n
              · have hmi : (m : Int) < (n : Int) := by omega
                obtain ⟨bz, oz, cz2, he1, cx⟩ := (HZ.out.below (HH.out.below.trans (hB.out.mono HH.out.below.size))).cell (k := m) (by rw [HNN.out]; exact hmn)
                simp only [Value.slice.injEq] at he1
                obtain ⟨rfl, he2, rfl⟩ := he1
                clear he2
                obtain ⟨u, p, hup, htold⟩ := (HH.out.next hB.out).told (by have := HK.out; omega) (show m < zs.length by rw [HNN.out]; exact hmn)
                have HTD := Lib.hid htold
                clear htold
                generalize zs.getD m 0 = x at *
                obtain ⟨q1, q2, q3, q4⟩ := hup
                obtain ⟨d, hd⟩ : ∃ d, x - u = d := ⟨_, rfl⟩
                have HD : Hid (∀ W, Below wr.heap.size wr W → Calls Try.prog 20 #[.pointer (some ⟨b, 0, none⟩), .int .i64 (m : Int)] W fun e w' => e = .returned (.int .i64 d) ∧ Below W.heap.size W w') := Lib.hid (fun W hW => by rw [← hd]; exact (HTD.out W hW).2.2.1)
                have hdw : IntKind.i64.wrap d = d := IntWalk.i64_in _ (by omega)
                go_wp2_with fail
                refine (HTD.out _ (Below.refl _ _)).2.1.mono ?_
                rintro e x1 ⟨rfl, hb1⟩
                have HB1 := Lib.hid hb1
                clear hb1
                go_wp2_with fail
                refine (HTD.out _ HB1.out).1.mono ?_
                rintro e x2 ⟨rfl, hb2⟩
                have HB2 := Lib.hid (HB1.out.trans (hb2.mono HB1.out.size))
                clear hb2
                go_wp2_with fail
                refine (HD.out _ HB2.out).mono ?_
                rintro e x3 ⟨rfl, hb3⟩
                have HB3 := Lib.hid (HB2.out.trans (hb3.mono HB2.out.size))
                clear hb3
                go_wp2_with fail
                refine (HTD.out _ HB3.out).2.2.2.1.mono ?_
                rintro e x4 ⟨rfl, hb4⟩
                have HB4 := Lib.hid (HB3.out.trans (hb4.mono HB3.out.size))
                clear hb4
                go_wp2_with fail
                refine (HTD.out _ HB4.out).2.2.2.2.1.mono ?_
                rintro e x5 ⟨rfl, hb5⟩
                have HB5 := Lib.hid (HB4.out.trans (hb5.mono HB4.out.size))
                clear hb5
                go_wp2_with fail
                refine (HTD.out _ HB5.out).2.2.2.2.2.mono ?_
                rintro e x6 ⟨rfl, hb6⟩
                have HB6 := Lib.hid (hB.out.trans ((HB5.out.trans (hb6.mono HB5.out.size)).mono hB.out.size))
                clear hb6
                go_wp2_with fail
                go_roundw
                case rel => exact ⟨m + 1, by go_num, by omega, HB6⟩
                case measure => simp [intOf]; omega
              · have hmi : ¬ (m : Int) < (n : Int) := by omega
                have HE := Lib.hid (HH.out.next hB.out)
                go_wp2_with fail
                go_roundw
                case rel => exact ⟨k + 1, _, by go_num, by omega, HE⟩
                case measure => simp [intOf]; omega
          · have kE : (E == 0) = false := by rw [beq_eq_false_iff_ne]; exact hE
            have HH := Lib.hid (HMD8.out.stay (by unfold ddNext; rw [if_neg hE]))
            clear hE
            obtain ⟨wa, rfl⟩ : ∃ wa : World, wa = wr := ⟨_, rfl⟩
            go_wp2_with fail
            go_loopw [13, 14, 15, 85] (fun _ _ _ vi wr => ∃ m : Nat, vi = .int .i64 (m : Int) ∧ m ≤ n ∧ Hid (Below w8.heap.size w8 wr)) (fun _ _ _ vi _ => n - (intOf vi).toNat)
            case atStart => exact ⟨0, rfl, by omega, Lib.hid (Below.refl _ _)⟩
            case round =>
              obtain ⟨m, rfl, hm, hB⟩ := hrel
              by_cases hmn : m < n
              · have hmi : (m : Int) < (n : Int) := by omega
                obtain ⟨bz, oz, cz2, he1, cx⟩ := (HZ.out.below (HH.out.below.trans (hB.out.mono HH.out.below.size))).cell (k := m) (by rw [HNN.out]; exact hmn)
                simp only [Value.slice.injEq] at he1
                obtain ⟨rfl, he2, rfl⟩ := he1
                clear he2
                obtain ⟨u, p, hup, htold⟩ := (HH.out.next hB.out).told (by have := HK.out; omega) (show m < zs.length by rw [HNN.out]; exact hmn)
                have HTD := Lib.hid htold
                clear htold
                generalize zs.getD m 0 = x at *
                obtain ⟨q1, q2, q3, q4⟩ := hup
                obtain ⟨d, hd⟩ : ∃ d, x - u = d := ⟨_, rfl⟩
                have HD : Hid (∀ W, Below wr.heap.size wr W → Calls Try.prog 20 #[.pointer (some ⟨b, 0, none⟩), .int .i64 (m : Int)] W fun e w' => e = .returned (.int .i64 d) ∧ Below W.heap.size W w') := Lib.hid (fun W hW => by rw [← hd]; exact (HTD.out W hW).2.2.1)
                have hdw : IntKind.i64.wrap d = d := IntWalk.i64_in _ (by omega)
                go_wp2_with fail
                refine (HTD.out _ (Below.refl _ _)).2.1.mono ?_
                rintro e x1 ⟨rfl, hb1⟩
                have HB1 := Lib.hid hb1
                clear hb1
                go_wp2_with fail
                refine (HTD.out _ HB1.out).1.mono ?_
                rintro e x2 ⟨rfl, hb2⟩
                have HB2 := Lib.hid (HB1.out.trans (hb2.mono HB1.out.size))
                clear hb2
                go_wp2_with fail
                refine (HD.out _ HB2.out).mono ?_
                rintro e x3 ⟨rfl, hb3⟩
                have HB3 := Lib.hid (HB2.out.trans (hb3.mono HB2.out.size))
                clear hb3
                go_wp2_with fail
                refine (HTD.out _ HB3.out).2.2.2.1.mono ?_
                rintro e x4 ⟨rfl, hb4⟩
                have HB4 := Lib.hid (HB3.out.trans (hb4.mono HB3.out.size))
                clear hb4
                go_wp2_with fail
                refine (HTD.out _ HB4.out).2.2.2.2.1.mono ?_
                rintro e x5 ⟨rfl, hb5⟩
                have HB5 := Lib.hid (HB4.out.trans (hb5.mono HB4.out.size))
                clear hb5
                go_wp2_with fail
                refine (HTD.out _ HB5.out).2.2.2.2.2.mono ?_
                rintro e x6 ⟨rfl, hb6⟩
                have HB6 := Lib.hid (hB.out.trans ((HB5.out.trans (hb6.mono HB5.out.size)).mono hB.out.size))
                clear hb6
                go_wp2_with fail
                go_roundw
                case rel => exact ⟨m + 1, by go_num, by omega, HB6⟩
                case measure => simp [intOf]; omega
              · have hmi : ¬ (m : Int) < (n : Int) := by omega
                have HE := Lib.hid (HH.out.next hB.out)
                go_wp2_with fail
                go_roundw
                case rel => exact ⟨k + 1, _, by go_num, by omega, HE⟩
                case measure => simp [intOf]; omega
      · have hki : ¬ (k : Int) < (len : Int) := by omega
        have HTN : Hid (Calls Try.prog 24 #[.pointer (some ⟨b, 0, none⟩)] wr fun e w' => e = .returned (.int .i64 (n : Int)) ∧ w' = wr) := Lib.hid (by
          obtain ⟨⟨U, P, h1, _⟩, _⟩ := hH.out
          have := lgtenants_v wr (Or.inr ⟨b, g, rfl, h1⟩)
          rw [HNN.out] at this
          exact this)
        go_wp2_with fail
        refine HTN.out.mono ?_
        rintro e w4 ⟨rfl, hw4⟩
        obtain rfl := hw4.symm
        go_wp2_with fail
        refine (ten27_any _).mono ?_
        rintro e w4 ⟨rfl, hb⟩
        have HB := Lib.hid (hH.out.next hb).below
        clear hb
        go_wp2_with fail
        go_ret
        exact ⟨rfl, HB.out⟩
  · rw [decide_eq_false (show ¬ (1 ≤ zs.length ∧ zs.length ≤ 16 ∧ ∀ x ∈ zs, lgIs x) from hm)] at HRL
    have HBD := Lib.hid (lgnew_bad v zs w hz hzn hm)
    clear hm
    go_enter Try.func3, Try.ntmps3
    go_wp2_with fail
    refine HBD.out.mono ?_
    rintro e w1 ⟨rfl, rfl⟩
    go_wp2_with fail
    refine HRL.out.mono ?_
    rintro e w1 ⟨rfl, rfl⟩
    go_wp2_with fail
    refine (ten27_any _).mono ?_
    rintro e w1 ⟨rfl, hb⟩
    have HB := Lib.hid hb
    clear hb
    go_wp2_with fail
    go_ret
    exact ⟨rfl, HB.out⟩
end Go.Proofs.Ytjpahpbofgfgfaa
