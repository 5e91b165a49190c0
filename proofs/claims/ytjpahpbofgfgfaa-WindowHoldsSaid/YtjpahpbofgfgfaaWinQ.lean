/-
  LAYER 28's STATEMENTS: WindowActs.
-/
import Derived.Test.YtjpahpbofgfgfaaWinP
namespace Go.Proofs.Ytjpahpbofgfgfaa
open Go.RowKit Go.ChangeShapes Go.WideShapes Go.ChangeAt Go.Deep
set_option linter.unusedVariables false
set_option linter.unusedSimpArgs false
theorem WdNewP.act {w w' : World} {S : Int} {zs : List Int} {e : Ending} (h : WdNewP w w' S zs e) (hm : wdMay S zs) : ∃ b v, e = .returned (.tuple #[.pointer (some ⟨b, 0, none⟩), .int .i64 0]) ∧ WAct w w' b v zs S 0 zeroF zeroF (.slice none 0 0) [] 0 ∧ Below w.heap.size w w' := by
  obtain ⟨b, v, rfl, hl, hb⟩ := h
  exact ⟨b, v, rfl, ⟨hl, MtInv.new hm, fun i hi => ⟨rfl, rfl⟩, OwnCh.nil _ _, fun j hj => by simp [Value.ownBlock] at hj, hb, ⟨by simp, fun c hc => by simp at hc⟩⟩, hb⟩
set_option maxRecDepth 100000 in
set_option maxHeartbeats 32000000 in
theorem windowActs.main (S : Int) (v : Value) (zs : List Int) (a : Option Addr) (len cap : Nat) (l : List Act3) (w : World) (hz : IsInts w v zs) (hzn : zs.length ≤ 9223372036854775807) (hl : IsActs3 w a len l) :
    Calls Try.prog 7 #[.int .i64 S, v, .slice a len cap] w fun e w' => e = .returned (.bool true) ∧ Below w.heap.size w w' := by
  have hml : len ≤ maxLen := hl.2.2
  unfold maxLen at hml
  have HL := Lib.hid hl
  have HZ := Lib.hid hz
  clear hl
  by_cases h100 : (len : Int) > 40
  · go_enter Try.func7, Try.ntmps7
    go_wp2_with fail
    refine (five28_any _).mono ?_
    rintro e w1 ⟨rfl, hb⟩
    have HB := Lib.hid hb
    clear hb
    go_wp2_with fail
    go_ret
    exact ⟨rfl, HB.out⟩
  by_cases hm : wdMay S zs
  · have HM := Lib.hid hm
    have HN := Lib.hid (wdnew_any S v zs w hz hm)
    have HRL : Hid (∀ W, Below w.heap.size w W → Calls Try.prog 27 #[.int .i64 S, v] W fun e w' => e = .returned (.bool true) ∧ w' = W) := Lib.hid (fun W hW => by have := rmay28_any S v zs W (hz.below hW) hzn; rw [decide_eq_true hm] at this; exact this)
    obtain ⟨az, cz, rfl, _⟩ := hz
    have hS1 : 1 ≤ S := hm.1.1
    have hS2 : S ≤ 1048576 := hm.1.2
    have hn16 : zs.length ≤ 16 := hm.2.2.1
    obtain ⟨n, hn⟩ : ∃ n, zs.length = n := ⟨_, rfl⟩
    have HNN := Lib.hid hn
    have e0 : Value.slice az zs.length cz = Value.slice az n cz := by rw [hn]
    rw [e0] at HN HRL HZ ⊢
    rw [hn] at hn16
    have hS0 : S ≠ 0 := by omega
    have hS00 : (S == 0) = false := by rw [beq_eq_false_iff_ne]; exact hS0
    clear hm hn hzn e0
    go_enter Try.func7, Try.ntmps7
    go_wp2_with fail
    refine HN.out.mono ?_
    rintro e w2 h2
    obtain ⟨b, v, rfl, h3, hb3⟩ := h2.act HM.out
    have H3 := Lib.hid h3
    have HRL2 := Lib.hid (HRL.out w2 hb3)
    clear h2 h3 HRL hb3 HN
    go_wp2_with fail
    refine HRL2.out.mono ?_
    rintro e w3 ⟨rfl, hw3⟩
    obtain rfl := hw3.symm
    clear HRL2
    go_wp2_with fail
    go_loopw [9, 10, 12, 13, 14, 15, 16, 17, 18, 44] (fun v9 v10 _ _ _ _ _ _ _ vi wr => ∃ (k : Nat) (A : Int) (C D : Nat → Int) (l : List Chg), vi = .int .i64 (k : Int) ∧ v10 = .int .i64 A ∧ k ≤ len ∧ A ≤ k ∧ Hid (WAct w wr b v zs S A C D v9 l k)) (fun _ _ _ _ _ _ _ _ _ vi _ => len - (intOf vi).toNat)
    case atStart => exact ⟨0, 0, zeroF, zeroF, [], rfl, rfl, by omega, by omega, H3⟩
    case round =>
      obtain ⟨k, A, C, D, lc, rfl, rfl, hk, hAk, hH⟩ := hrel
      obtain ⟨ad, cd, rfl⟩ := hH.out.row.slice
      obtain ⟨dn, hdn⟩ : ∃ dn, lc.length = dn := ⟨_, rfl⟩
      have HDN := Lib.hid hdn
      have hdk : dn ≤ 1000 := by have := hH.out.all.len; omega
      rw [hdn] at hH ⊢
      clear hdn
      have hA0 : 0 ≤ A := hH.out.inv.2.1.1
      by_cases hlt : k < len
      · have hki : (k : Int) < (len : Int) := by omega
        have HK : Hid (k ≤ 40) := Lib.hid (by omega)
        obtain ⟨o, bl, ol, hx, hok, rfl, _, c0, c1, c2⟩ := HL.out.at_ hH.out.below hlt
        obtain ⟨R, T, Z⟩ := o
        dsimp only at c0 c1 c2
        obtain ⟨w4, hw4⟩ : ∃ w4, wr.alloc (.cells #[.bool R, .int .i64 T, .int .i64 Z] 50) = w4 := ⟨_, rfl⟩
        obtain ⟨w5, hw5⟩ : ∃ w5, w4.alloc (.cells #[.int .i64 T, .int .i64 Z, .int .i64 A] 52) = w5 := ⟨_, rfl⟩
        have hs4 : w4.heap.size = wr.heap.size + 1 := by rw [← hw4]; simp
        have hx4 : w4.heap[wr.heap.size]? = some (.cells #[.bool R, .int .i64 T, .int .i64 Z] 50 (0, 0)) := by rw [← hw4]; exact heap_alloc_new _ _
        have hx5 : w5.heap[wr.heap.size]? = some (.cells #[.bool R, .int .i64 T, .int .i64 Z] 50 (0, 0)) := by rw [← hw5]; exact (Below.heap_alloc _ _ _ (by omega)).trans hx4
        have hy5 : w5.heap[w4.heap.size]? = some (.cells #[.int .i64 T, .int .i64 Z, .int .i64 A] 52 (0, 0)) := by rw [← hw5]; exact heap_alloc_new _ _
        have d0 : w4.cell? ⟨wr.heap.size, 0, none⟩ = some (.bool R) := by rw [cell_of_row _ _ 0 _ _ _ hx4]; rfl
        have d1 : w4.cell? ⟨wr.heap.size, 1, none⟩ = some (.int .i64 T) := by rw [cell_of_row _ _ 1 _ _ _ hx4]; rfl
        have d2 : w4.cell? ⟨wr.heap.size, 2, none⟩ = some (.int .i64 Z) := by rw [cell_of_row _ _ 2 _ _ _ hx4]; rfl
        have e0 : w5.cell? ⟨wr.heap.size, 0, none⟩ = some (.bool R) := by rw [cell_of_row _ _ 0 _ _ _ hx5]; rfl
        have e1 : w5.cell? ⟨wr.heap.size, 1, none⟩ = some (.int .i64 T) := by rw [cell_of_row _ _ 1 _ _ _ hx5]; rfl
        have e2 : w5.cell? ⟨wr.heap.size, 2, none⟩ = some (.int .i64 Z) := by rw [cell_of_row _ _ 2 _ _ _ hx5]; rfl
        have e3 : w5.cell? ⟨w4.heap.size, 0, none⟩ = some (.int .i64 T) := by rw [cell_of_row _ _ 0 _ _ _ hy5]; rfl
        have e4 : w5.cell? ⟨w4.heap.size, 1, none⟩ = some (.int .i64 Z) := by rw [cell_of_row _ _ 1 _ _ _ hy5]; rfl
        have e5 : w5.cell? ⟨w4.heap.size, 2, none⟩ = some (.int .i64 A) := by rw [cell_of_row _ _ 2 _ _ _ hy5]; rfl
        have hb5 : Below wr.heap.size wr w5 := by rw [← hw5, ← hw4]; exact ((Below.refl _ _).alloc (Nat.le_refl _) _).alloc (by simp) _
        have H6 := Lib.hid (hH.out.next hb5)
        have HG : Hid (b < wr.heap.size) := Lib.hid hH.out.mt.lt
        have HS4 := Lib.hid hs4
        have HX5 := Lib.hid hx5
        have HY5 := Lib.hid hy5
        have HZ5 := Lib.hid (HZ.out.below H6.out.below)
        clear hx hok hx4 hx5 hy5 hb5 hs4
        cases R
        · have HRF := Lib.hid (rrefused28_any (.slice az n cz) (.slice ad dn cd) zs lc S T Z A w5 HZ5.out HM.out.2.2.2 H6.out.row.ch (H6.out.all.chok (by have := HK.out; omega) H6.out.inv.2.1.2) HM.out.1 H6.out.inv.2.1)
          have HDO : Hid (∀ W, WAct w W b v zs S A C D (.slice ad dn cd) lc k → Calls Try.prog 30 #[.pointer (some ⟨b, 0, none⟩), .int .i64 T, .int .i64 Z] W fun e w' => e = .returned (.int .i64 (refR zs lc S T Z A)) ∧ WMid w w' b v zs S A (.slice ad dn cd) lc (chNext lc T Z A (refR zs lc S T Z A)) k ∧ Touch (· = b) W w') := Lib.hid (fun W hW => wact_charge T Z hW)
          generalize refR zs lc S T Z A = E at *
          go_wp2_with fail
          refine HRF.out.mono ?_
          rintro e w6 ⟨rfl, hb6⟩
          have hx6 := (hb6.block _ (Array.getElem?_eq_some_iff.1 HX5.out).1).trans HX5.out
          have hy6 := (hb6.block _ (Array.getElem?_eq_some_iff.1 HY5.out).1).trans HY5.out
          have f1 : w6.cell? ⟨wr.heap.size, 1, none⟩ = some (.int .i64 T) := by rw [cell_of_row _ _ 1 _ _ _ hx6]; rfl
          have f2 : w6.cell? ⟨wr.heap.size, 2, none⟩ = some (.int .i64 Z) := by rw [cell_of_row _ _ 2 _ _ _ hx6]; rfl
          have HY6 := Lib.hid hy6
          have HQ6 := Lib.hid (HDO.out w6 (H6.out.next hb6))
          clear hb6 hx6 hy6 d0 d1 d2 e0 e1 e2 e3 e4 e5 HDO HRF
          go_wp2_with fail
          refine HQ6.out.mono ?_
          rintro e w7 ⟨rfl, hmid, ht7⟩
          have hy7 := (ht7.block _ (Array.getElem?_eq_some_iff.1 HY6.out).1 (by have := HG.out; have := HS4.out; omega)).trans HY6.out
          have g0 : w7.cell? ⟨w4.heap.size, 0, none⟩ = some (.int .i64 T) := by rw [cell_of_row _ _ 0 _ _ _ hy7]; rfl
          have g1 : w7.cell? ⟨w4.heap.size, 1, none⟩ = some (.int .i64 Z) := by rw [cell_of_row _ _ 1 _ _ _ hy7]; rfl
          have g2 : w7.cell? ⟨w4.heap.size, 2, none⟩ = some (.int .i64 A) := by rw [cell_of_row _ _ 2 _ _ _ hy7]; rfl
          have HMID := Lib.hid hmid
          clear hmid ht7 hy7 HQ6 f1 f2
          by_cases hE : E = 0
          · subst hE
            have HOWN := Lib.hid HMID.out.row
            have HSZ : Hid (w.heap.size ≤ w7.heap.size) := Lib.hid HMID.out.below.size
            go_wp2_with (at_builtin; refine push_ch w7 rfl _ _ rfl w.heap.size _ lc ⟨T, Z, A⟩ HOWN.out rfl rfl (by have := HDN.out; omega) HSZ.out ?_)
            intro v9 w9 hown9 ht9 hv9
            have hh : ∃ C D, WAct w w9 b v zs S A C D v9 (lc ++ [⟨T, Z, A⟩]) (k + 1) := (by have h := HMID.out; unfold chNext at h; rw [if_pos rfl] at h; exact h.push hown9 ht9 hv9)
            obtain ⟨C2, D2, hh⟩ := hh
            obtain ⟨a9, c9, rfl⟩ := slice_of_own hown9
            obtain ⟨n9, hn9⟩ : ∃ n9, (lc ++ [(⟨T, Z, A⟩ : Chg)]).length = n9 := ⟨_, rfl⟩
            obtain ⟨D9, hD9⟩ : ∃ D9, lc ++ [(⟨T, Z, A⟩ : Chg)] = D9 := ⟨_, rfl⟩
            rw [hn9, hD9] at hh
            have HH := Lib.hid hh
            simp only [hn9]
            clear hown9 ht9 hv9 hh hn9 hD9
            have hAr := HH.out.inv.2.1
            have hmd : A.tmod S = A % S := by rw [Int.tmod_eq_emod_of_nonneg hAr.1]
            have hwm : IntKind.i64.wrap (A % S) = A % S := by
              have h1 := Int.emod_nonneg A hS0
              have h2 := Int.emod_lt_of_pos A (show 0 < S by omega)
              exact IntWalk.i64_in _ (by omega)
            obtain ⟨Bg, hBg⟩ : ∃ Bg, (A % S == 0) = Bg := ⟨_, rfl⟩
            have HBg := Lib.hid hBg
            obtain ⟨wa, rfl⟩ : ∃ wa : World, wa = wr := ⟨_, rfl⟩
            go_wp2_with fail
            go_loopw [15, 16, 17, 18, 82] (fun v15 _ _ _ vi wr => ∃ m : Nat, vi = .int .i64 (m : Int) ∧ m ≤ n ∧ Hid (WAct w wr b v zs S A C2 D2 (.slice a9 n9 c9) D9 (k + 1) ∧ AllR w wr b v (.slice a9 n9 c9) v15 zs C2 m)) (fun _ _ _ _ vi _ => n - (intOf vi).toNat)
            case atStart => exact ⟨0, rfl, by omega, Lib.hid ⟨HH.out, AllR.nil _ _ _ _ _ _ _⟩⟩
            case round =>
              obtain ⟨m, rfl, hm, hB⟩ := hrel
              obtain ⟨aa, ca, hva⟩ := hB.out.2.row.slice
              rw [allF_len] at hva
              subst hva
              by_cases hmn : m < n
              · have hmi : (m : Int) < (n : Int) := by omega
                have HMZ : Hid (m < zs.length) := Lib.hid (by rw [HNN.out]; exact hmn)
                obtain ⟨bz, oz, cz2, he1, cx⟩ := (HZ.out.below hB.out.1.below).cell HMZ.out
                simp only [Value.slice.injEq] at he1
                obtain ⟨rfl, he2, rfl⟩ := he1
                clear he2
                have hnum := wact_num hB.out.1 HMZ.out
                have HCG := Lib.hid (wact_rcharged hB.out.1 HMZ.out (by have := HK.out; omega))
                have HLF : Hid (leftF zs C2 m = zs.getD m 0 - C2 m) := Lib.hid rfl
                generalize zs.getD m 0 = y at *
                obtain ⟨c, hc⟩ : ∃ c, C2 m = c := ⟨_, rfl⟩
                rw [hc] at HCG HLF hnum
                obtain ⟨d, hd⟩ : ∃ d, y - c = d := ⟨_, rfl⟩
                rw [hd] at HLF
                have hdw : IntKind.i64.wrap d = d := IntWalk.i64_in _ (by omega)
                clear hc
                go_wp2_with fail
                refine HCG.out.mono ?_
                rintro e x1 ⟨rfl, hb1⟩
                have HA1 := Lib.hid (hB.out.1.next hb1)
                have HR1 := Lib.hid (hB.out.2.next hb1)
                have HSZ1 : Hid (w.heap.size ≤ x1.heap.size) := Lib.hid HA1.out.below.size
                have HML : Hid ((allF zs C2 m).length + 1 ≤ 17592186044416) := Lib.hid (by rw [allF_len]; omega)
                clear hb1 hnum
                go_wp2_with (at_builtin; refine push_int2 x1 rfl _ _ rfl w.heap.size _ (allF zs C2 m) d HR1.out.row rfl rfl HML.out HSZ1.out ?_)
                intro v2 x2 hown2 hbel2 hsame2 hv2
                have h2 := HR1.out.push HA1.out (by rw [HLF.out]; exact hown2) hbel2 hsame2 hv2
                obtain ⟨a2, c2', rfl⟩ := hown2.slice
                have hln : (allF zs C2 m ++ [d]).length = m + 1 := by rw [List.length_append, allF_len]; rfl
                rw [hln] at h2
                simp only [hln]
                have H2 := Lib.hid h2
                have HLE := Lib.hid (wact_left h2.2 HMZ.out)
                rw [HLF.out] at HLE
                clear hown2 hbel2 hsame2 hv2 h2 hln
                go_wp2_with fail
                refine HLE.out.mono ?_
                rintro e x3 ⟨rfl, hb3⟩
                have H3' := Lib.hid (And.intro (H2.out.1.next hb3) (H2.out.2.next hb3))
                clear hb3
                go_wp2_with fail
                refine (wact_total H3'.out.2 HMZ.out).mono ?_
                rintro e x4 ⟨rfl, hb4⟩
                have H4' := Lib.hid (And.intro (H3'.out.1.next hb4) (H3'.out.2.next hb4))
                clear hb4
                go_wp2_with fail
                refine (wact_rtotal H4'.out.2 HMZ.out (by have := HK.out; omega)).mono ?_
                rintro e x5 ⟨rfl, hb5⟩
                have H5' := Lib.hid (And.intro (H4'.out.2.next hb5) (H4'.out.1.next hb5))
                clear hb5
                go_wp2_with fail
                go_roundw
                case rel => exact ⟨m + 1, by go_num, by omega, H5'⟩
                case measure => simp [intOf]; omega
              · have hmi : ¬ (m : Int) < (n : Int) := by omega
                have hmE : m = n := by omega
                subst hmE
                obtain ⟨wx, hwx⟩ : ∃ wx : World, wx = wr := ⟨_, rfl⟩
                have HAT : Hid (∀ W, Below wr.heap.size wr W → Calls Try.prog 35 #[.pointer (some ⟨b, 0, none⟩)] W fun e w' => e = .returned (.int .i64 A) ∧ Below wr.heap.size wr w') := Lib.hid (fun W hW => (wdat_any W (hB.out.1.mt.far hW)).mono fun e w' ⟨h1, h2⟩ => ⟨h1, by rw [h2]; exact hW⟩)
                have HBG : Hid (∀ W, Below wr.heap.size wr W → Calls Try.prog 36 #[.pointer (some ⟨b, 0, none⟩)] W fun e w' => e = .returned (.bool Bg) ∧ Below wr.heap.size wr w') := Lib.hid (fun W hW => by
                  have := wdbegins_any W (hB.out.1.mt.far hW) hB.out.1.inv
                  rw [HBg.out] at this
                  refine this.mono ?_
                  rintro e w' ⟨rfl, j, rfl⟩
                  exact ⟨rfl, hW.trans ((below_drewN _ _).mono hW.size)⟩)
                have HAL : Hid (∀ W, Below wr.heap.size wr W → Calls Try.prog 38 #[.pointer (some ⟨b, 0, none⟩)] W fun e w' => ∃ v2, e = .returned v2 ∧ Below wr.heap.size wr w' ∧ IsInts w' v2 (allF zs C2 m)) := Lib.hid (fun W hW => by
                  have := wdall_any W (hB.out.1.mt.far hW) hB.out.1.inv
                  rw [HNN.out] at this
                  refine this.mono ?_
                  rintro e w' ⟨v2, rfl, h1, h2⟩
                  exact ⟨v2, rfl, hW.trans (h2.mono hW.size), h1⟩)
                have HIN : Hid (∀ W v2, Below wr.heap.size wr W → IsInts W v2 (allF zs C2 m) → Calls Try.prog 37 #[v2, .slice aa m ca] W fun e w' => e = .returned (.bool true) ∧ Below wr.heap.size wr w') := Lib.hid (fun W v2 hW h2 => by
                  refine (ints_any v2 _ (allF zs C2 m) (allF zs C2 m) true W h2 (hB.out.2.row.ints.below hW) (by simp) (by rw [allF_len]; omega) (by rw [allF_len]; omega)).mono ?_
                  rintro e w' ⟨rfl, j, rfl⟩
                  exact ⟨rfl, hW.trans ((below_drewN _ _).mono hW.size)⟩)
                have HD1 := Lib.hid (below_drewN wr 1)
                have HBW := Lib.hid hB.out.1
                clear hwx
                go_wp2_with fail
                go_region_held3 (fun W => True) (trivial)
                  (first
                    | (go_at_call 35; refine (HAT.out _ (by exact HD1.out)).mono ?_; rintro e y1 ⟨rfl, k1⟩; have K1 := Lib.hid k1; clear k1)
                    | (go_at_call 36; refine (HBG.out _ (by exact K1.out)).mono ?_; rintro e y2 ⟨rfl, k2⟩; have K2 := Lib.hid k2; clear k2)
                    | (go_at_call 38; refine (HAL.out _ (by exact K2.out)).mono ?_; rintro e y3 ⟨v3, rfl, k3, i3⟩; have K3 := Lib.hid k3; have I3 := Lib.hid i3; clear k3 i3)
                    | (go_at_call 37; refine (HIN.out _ _ (by exact K3.out) (by exact I3.out)).mono ?_; rintro e y4 ⟨rfl, k4⟩; have K4 := Lib.hid k4; clear k4))
                all_goals
                  go_wp2_with fail
                  go_roundw
                  case rel => exact ⟨k + 1, A, C2, D2, D9, by go_num, rfl, by omega, by omega, Lib.hid (HBW.out.next K4.out)⟩
                  case measure => simp [intOf]; omega
          · have kE : (E == 0) = false := by rw [beq_eq_false_iff_ne]; exact hE
            obtain ⟨C2, D2, hh⟩ := HMID.out.stay (by unfold chNext; rw [if_neg hE])
            have HH := Lib.hid hh
            clear hE hh
            have hAr := HH.out.inv.2.1
            have hmd : A.tmod S = A % S := by rw [Int.tmod_eq_emod_of_nonneg hAr.1]
            have hwm : IntKind.i64.wrap (A % S) = A % S := by
              have h1 := Int.emod_nonneg A hS0
              have h2 := Int.emod_lt_of_pos A (show 0 < S by omega)
              exact IntWalk.i64_in _ (by omega)
            obtain ⟨Bg, hBg⟩ : ∃ Bg, (A % S == 0) = Bg := ⟨_, rfl⟩
            have HBg := Lib.hid hBg
            obtain ⟨wa, rfl⟩ : ∃ wa : World, wa = wr := ⟨_, rfl⟩
            go_wp2_with fail
            go_loopw [15, 16, 17, 18, 82] (fun v15 _ _ _ vi wr => ∃ m : Nat, vi = .int .i64 (m : Int) ∧ m ≤ n ∧ Hid (WAct w wr b v zs S A C2 D2 (.slice ad dn cd) lc (k + 1) ∧ AllR w wr b v (.slice ad dn cd) v15 zs C2 m)) (fun _ _ _ _ vi _ => n - (intOf vi).toNat)
            case atStart => exact ⟨0, rfl, by omega, Lib.hid ⟨HH.out, AllR.nil _ _ _ _ _ _ _⟩⟩
            case round =>
              obtain ⟨m, rfl, hm, hB⟩ := hrel
              obtain ⟨aa, ca, hva⟩ := hB.out.2.row.slice
              rw [allF_len] at hva
              subst hva
              by_cases hmn : m < n
              · have hmi : (m : Int) < (n : Int) := by omega
                have HMZ : Hid (m < zs.length) := Lib.hid (by rw [HNN.out]; exact hmn)
                obtain ⟨bz, oz, cz2, he1, cx⟩ := (HZ.out.below hB.out.1.below).cell HMZ.out
                simp only [Value.slice.injEq] at he1
                obtain ⟨rfl, he2, rfl⟩ := he1
                clear he2
                have hnum := wact_num hB.out.1 HMZ.out
                have HCG := Lib.hid (wact_rcharged hB.out.1 HMZ.out (by have := HK.out; omega))
                have HLF : Hid (leftF zs C2 m = zs.getD m 0 - C2 m) := Lib.hid rfl
                generalize zs.getD m 0 = y at *
                obtain ⟨c, hc⟩ : ∃ c, C2 m = c := ⟨_, rfl⟩
                rw [hc] at HCG HLF hnum
                obtain ⟨d, hd⟩ : ∃ d, y - c = d := ⟨_, rfl⟩
                rw [hd] at HLF
                have hdw : IntKind.i64.wrap d = d := IntWalk.i64_in _ (by omega)
                clear hc
                go_wp2_with fail
                refine HCG.out.mono ?_
                rintro e x1 ⟨rfl, hb1⟩
                have HA1 := Lib.hid (hB.out.1.next hb1)
                have HR1 := Lib.hid (hB.out.2.next hb1)
                have HSZ1 : Hid (w.heap.size ≤ x1.heap.size) := Lib.hid HA1.out.below.size
                have HML : Hid ((allF zs C2 m).length + 1 ≤ 17592186044416) := Lib.hid (by rw [allF_len]; omega)
                clear hb1 hnum
                go_wp2_with (at_builtin; refine push_int2 x1 rfl _ _ rfl w.heap.size _ (allF zs C2 m) d HR1.out.row rfl rfl HML.out HSZ1.out ?_)
                intro v2 x2 hown2 hbel2 hsame2 hv2
                have h2 := HR1.out.push HA1.out (by rw [HLF.out]; exact hown2) hbel2 hsame2 hv2
                obtain ⟨a2, c2', rfl⟩ := hown2.slice
                have hln : (allF zs C2 m ++ [d]).length = m + 1 := by rw [List.length_append, allF_len]; rfl
                rw [hln] at h2
                simp only [hln]
                have H2 := Lib.hid h2
                have HLE := Lib.hid (wact_left h2.2 HMZ.out)
                rw [HLF.out] at HLE
                clear hown2 hbel2 hsame2 hv2 h2 hln
                go_wp2_with fail
                refine HLE.out.mono ?_
                rintro e x3 ⟨rfl, hb3⟩
                have H3' := Lib.hid (And.intro (H2.out.1.next hb3) (H2.out.2.next hb3))
                clear hb3
                go_wp2_with fail
                refine (wact_total H3'.out.2 HMZ.out).mono ?_
                rintro e x4 ⟨rfl, hb4⟩
                have H4' := Lib.hid (And.intro (H3'.out.1.next hb4) (H3'.out.2.next hb4))
                clear hb4
                go_wp2_with fail
                refine (wact_rtotal H4'.out.2 HMZ.out (by have := HK.out; omega)).mono ?_
                rintro e x5 ⟨rfl, hb5⟩
                have H5' := Lib.hid (And.intro (H4'.out.2.next hb5) (H4'.out.1.next hb5))
                clear hb5
                go_wp2_with fail
                go_roundw
                case rel => exact ⟨m + 1, by go_num, by omega, H5'⟩
                case measure => simp [intOf]; omega
              · have hmi : ¬ (m : Int) < (n : Int) := by omega
                have hmE : m = n := by omega
                subst hmE
                obtain ⟨wx, hwx⟩ : ∃ wx : World, wx = wr := ⟨_, rfl⟩
                have HAT : Hid (∀ W, Below wr.heap.size wr W → Calls Try.prog 35 #[.pointer (some ⟨b, 0, none⟩)] W fun e w' => e = .returned (.int .i64 A) ∧ Below wr.heap.size wr w') := Lib.hid (fun W hW => (wdat_any W (hB.out.1.mt.far hW)).mono fun e w' ⟨h1, h2⟩ => ⟨h1, by rw [h2]; exact hW⟩)
                have HBG : Hid (∀ W, Below wr.heap.size wr W → Calls Try.prog 36 #[.pointer (some ⟨b, 0, none⟩)] W fun e w' => e = .returned (.bool Bg) ∧ Below wr.heap.size wr w') := Lib.hid (fun W hW => by
                  have := wdbegins_any W (hB.out.1.mt.far hW) hB.out.1.inv
                  rw [HBg.out] at this
                  refine this.mono ?_
                  rintro e w' ⟨rfl, j, rfl⟩
                  exact ⟨rfl, hW.trans ((below_drewN _ _).mono hW.size)⟩)
                have HAL : Hid (∀ W, Below wr.heap.size wr W → Calls Try.prog 38 #[.pointer (some ⟨b, 0, none⟩)] W fun e w' => ∃ v2, e = .returned v2 ∧ Below wr.heap.size wr w' ∧ IsInts w' v2 (allF zs C2 m)) := Lib.hid (fun W hW => by
                  have := wdall_any W (hB.out.1.mt.far hW) hB.out.1.inv
                  rw [HNN.out] at this
                  refine this.mono ?_
                  rintro e w' ⟨v2, rfl, h1, h2⟩
                  exact ⟨v2, rfl, hW.trans (h2.mono hW.size), h1⟩)
                have HIN : Hid (∀ W v2, Below wr.heap.size wr W → IsInts W v2 (allF zs C2 m) → Calls Try.prog 37 #[v2, .slice aa m ca] W fun e w' => e = .returned (.bool true) ∧ Below wr.heap.size wr w') := Lib.hid (fun W v2 hW h2 => by
                  refine (ints_any v2 _ (allF zs C2 m) (allF zs C2 m) true W h2 (hB.out.2.row.ints.below hW) (by simp) (by rw [allF_len]; omega) (by rw [allF_len]; omega)).mono ?_
                  rintro e w' ⟨rfl, j, rfl⟩
                  exact ⟨rfl, hW.trans ((below_drewN _ _).mono hW.size)⟩)
                have HD1 := Lib.hid (below_drewN wr 1)
                have HBW := Lib.hid hB.out.1
                clear hwx
                go_wp2_with fail
                go_region_held3 (fun W => True) (trivial)
                  (first
                    | (go_at_call 35; refine (HAT.out _ (by exact HD1.out)).mono ?_; rintro e y1 ⟨rfl, k1⟩; have K1 := Lib.hid k1; clear k1)
                    | (go_at_call 36; refine (HBG.out _ (by exact K1.out)).mono ?_; rintro e y2 ⟨rfl, k2⟩; have K2 := Lib.hid k2; clear k2)
                    | (go_at_call 38; refine (HAL.out _ (by exact K2.out)).mono ?_; rintro e y3 ⟨v3, rfl, k3, i3⟩; have K3 := Lib.hid k3; have I3 := Lib.hid i3; clear k3 i3)
                    | (go_at_call 37; refine (HIN.out _ _ (by exact K3.out) (by exact I3.out)).mono ?_; rintro e y4 ⟨rfl, k4⟩; have K4 := Lib.hid k4; clear k4))
                all_goals
                  go_wp2_with fail
                  go_roundw
                  case rel => exact ⟨k + 1, A, C2, D2, lc, by go_num, rfl, by omega, by omega, Lib.hid (HBW.out.next K4.out)⟩
                  case measure => simp [intOf]; omega
        · have HTK := Lib.hid (wdtick_any w5 H6.out.mt H6.out.inv)
          have hA : ¬ A = 1099511627776 := by omega
          obtain ⟨A2, hA2⟩ : ∃ A2, A + 1 = A2 := ⟨_, rfl⟩
          have hwA : IntKind.i64.wrap A2 = A2 := IntWalk.i64_in _ (by omega)
          have HTE : Hid (∀ W, IsMt w.heap.size W b v zs S (tkA A) (tkC S A C) D → Touch (· = b) w5 W → WAct w W b v zs S A2 (tkC S A C) D (.slice ad dn cd) lc (k + 1)) := Lib.hid (fun W h1 h2 => by have := H6.out.ticked hA h1 h2; rw [hA2] at this; exact this)
          obtain ⟨C2, hC2⟩ : ∃ C2, tkC S A C = C2 := ⟨_, rfl⟩
          rw [hC2] at HTE
          go_wp2_with fail
          refine HTK.out.mono ?_
          rintro e w7 ⟨rfl, h1, h2⟩
          rw [hC2] at h1
          have HH := Lib.hid (HTE.out w7 h1 h2)
          clear h1 h2 HTK HTE d0 d1 d2 e0 e1 e2 e3 e4 e5 hC2
          have hAr := HH.out.inv.2.1
          have hmd : A2.tmod S = A2 % S := by rw [Int.tmod_eq_emod_of_nonneg hAr.1]
          have hwm : IntKind.i64.wrap (A2 % S) = A2 % S := by
            have h1 := Int.emod_nonneg A2 hS0
            have h2 := Int.emod_lt_of_pos A2 (show 0 < S by omega)
            exact IntWalk.i64_in _ (by omega)
          obtain ⟨Bg, hBg⟩ : ∃ Bg, (A2 % S == 0) = Bg := ⟨_, rfl⟩
          have HBg := Lib.hid hBg
          obtain ⟨wa, rfl⟩ : ∃ wa : World, wa = wr := ⟨_, rfl⟩
          go_wp2_with fail
          go_loopw [15, 16, 17, 18, 82] (fun v15 _ _ _ vi wr => ∃ m : Nat, vi = .int .i64 (m : Int) ∧ m ≤ n ∧ Hid (WAct w wr b v zs S A2 C2 D (.slice ad dn cd) lc (k + 1) ∧ AllR w wr b v (.slice ad dn cd) v15 zs C2 m)) (fun _ _ _ _ vi _ => n - (intOf vi).toNat)
          case atStart => exact ⟨0, rfl, by omega, Lib.hid ⟨HH.out, AllR.nil _ _ _ _ _ _ _⟩⟩
          case round =>
            obtain ⟨m, rfl, hm, hB⟩ := hrel
            obtain ⟨aa, ca, hva⟩ := hB.out.2.row.slice
            rw [allF_len] at hva
            subst hva
            by_cases hmn : m < n
            · have hmi : (m : Int) < (n : Int) := by omega
              have HMZ : Hid (m < zs.length) := Lib.hid (by rw [HNN.out]; exact hmn)
              obtain ⟨bz, oz, cz2, he1, cx⟩ := (HZ.out.below hB.out.1.below).cell HMZ.out
              simp only [Value.slice.injEq] at he1
              obtain ⟨rfl, he2, rfl⟩ := he1
              clear he2
              have hnum := wact_num hB.out.1 HMZ.out
              have HCG := Lib.hid (wact_rcharged hB.out.1 HMZ.out (by have := HK.out; omega))
              have HLF : Hid (leftF zs C2 m = zs.getD m 0 - C2 m) := Lib.hid rfl
              generalize zs.getD m 0 = y at *
              obtain ⟨c, hc⟩ : ∃ c, C2 m = c := ⟨_, rfl⟩
              rw [hc] at HCG HLF hnum
              obtain ⟨d, hd⟩ : ∃ d, y - c = d := ⟨_, rfl⟩
              rw [hd] at HLF
              have hdw : IntKind.i64.wrap d = d := IntWalk.i64_in _ (by omega)
              clear hc
              go_wp2_with fail
              refine HCG.out.mono ?_
              rintro e x1 ⟨rfl, hb1⟩
              have HA1 := Lib.hid (hB.out.1.next hb1)
              have HR1 := Lib.hid (hB.out.2.next hb1)
              have HSZ1 : Hid (w.heap.size ≤ x1.heap.size) := Lib.hid HA1.out.below.size
              have HML : Hid ((allF zs C2 m).length + 1 ≤ 17592186044416) := Lib.hid (by rw [allF_len]; omega)
              clear hb1 hnum
              go_wp2_with (at_builtin; refine push_int2 x1 rfl _ _ rfl w.heap.size _ (allF zs C2 m) d HR1.out.row rfl rfl HML.out HSZ1.out ?_)
              intro v2 x2 hown2 hbel2 hsame2 hv2
              have h2 := HR1.out.push HA1.out (by rw [HLF.out]; exact hown2) hbel2 hsame2 hv2
              obtain ⟨a2, c2', rfl⟩ := hown2.slice
              have hln : (allF zs C2 m ++ [d]).length = m + 1 := by rw [List.length_append, allF_len]; rfl
              rw [hln] at h2
              simp only [hln]
              have H2 := Lib.hid h2
              have HLE := Lib.hid (wact_left h2.2 HMZ.out)
              rw [HLF.out] at HLE
              clear hown2 hbel2 hsame2 hv2 h2 hln
              go_wp2_with fail
              refine HLE.out.mono ?_
              rintro e x3 ⟨rfl, hb3⟩
              have H3' := Lib.hid (And.intro (H2.out.1.next hb3) (H2.out.2.next hb3))
              clear hb3
              go_wp2_with fail
              refine (wact_total H3'.out.2 HMZ.out).mono ?_
              rintro e x4 ⟨rfl, hb4⟩
              have H4' := Lib.hid (And.intro (H3'.out.1.next hb4) (H3'.out.2.next hb4))
              clear hb4
              go_wp2_with fail
              refine (wact_rtotal H4'.out.2 HMZ.out (by have := HK.out; omega)).mono ?_
              rintro e x5 ⟨rfl, hb5⟩
              have H5' := Lib.hid (And.intro (H4'.out.2.next hb5) (H4'.out.1.next hb5))
              clear hb5
              go_wp2_with fail
              go_roundw
              case rel => exact ⟨m + 1, by go_num, by omega, H5'⟩
              case measure => simp [intOf]; omega
            · have hmi : ¬ (m : Int) < (n : Int) := by omega
              have hmE : m = n := by omega
              subst hmE
              obtain ⟨wx, hwx⟩ : ∃ wx : World, wx = wr := ⟨_, rfl⟩
              have HAT : Hid (∀ W, Below wr.heap.size wr W → Calls Try.prog 35 #[.pointer (some ⟨b, 0, none⟩)] W fun e w' => e = .returned (.int .i64 A2) ∧ Below wr.heap.size wr w') := Lib.hid (fun W hW => (wdat_any W (hB.out.1.mt.far hW)).mono fun e w' ⟨h1, h2⟩ => ⟨h1, by rw [h2]; exact hW⟩)
              have HBG : Hid (∀ W, Below wr.heap.size wr W → Calls Try.prog 36 #[.pointer (some ⟨b, 0, none⟩)] W fun e w' => e = .returned (.bool Bg) ∧ Below wr.heap.size wr w') := Lib.hid (fun W hW => by
                have := wdbegins_any W (hB.out.1.mt.far hW) hB.out.1.inv
                rw [HBg.out] at this
                refine this.mono ?_
                rintro e w' ⟨rfl, j, rfl⟩
                exact ⟨rfl, hW.trans ((below_drewN _ _).mono hW.size)⟩)
              have HAL : Hid (∀ W, Below wr.heap.size wr W → Calls Try.prog 38 #[.pointer (some ⟨b, 0, none⟩)] W fun e w' => ∃ v2, e = .returned v2 ∧ Below wr.heap.size wr w' ∧ IsInts w' v2 (allF zs C2 m)) := Lib.hid (fun W hW => by
                have := wdall_any W (hB.out.1.mt.far hW) hB.out.1.inv
                rw [HNN.out] at this
                refine this.mono ?_
                rintro e w' ⟨v2, rfl, h1, h2⟩
                exact ⟨v2, rfl, hW.trans (h2.mono hW.size), h1⟩)
              have HIN : Hid (∀ W v2, Below wr.heap.size wr W → IsInts W v2 (allF zs C2 m) → Calls Try.prog 37 #[v2, .slice aa m ca] W fun e w' => e = .returned (.bool true) ∧ Below wr.heap.size wr w') := Lib.hid (fun W v2 hW h2 => by
                refine (ints_any v2 _ (allF zs C2 m) (allF zs C2 m) true W h2 (hB.out.2.row.ints.below hW) (by simp) (by rw [allF_len]; omega) (by rw [allF_len]; omega)).mono ?_
                rintro e w' ⟨rfl, j, rfl⟩
                exact ⟨rfl, hW.trans ((below_drewN _ _).mono hW.size)⟩)
              have HD1 := Lib.hid (below_drewN wr 1)
              have HBW := Lib.hid hB.out.1
              clear hwx
              go_wp2_with fail
              go_region_held3 (fun W => True) (trivial)
                (first
                  | (go_at_call 35; refine (HAT.out _ (by exact HD1.out)).mono ?_; rintro e y1 ⟨rfl, k1⟩; have K1 := Lib.hid k1; clear k1)
                  | (go_at_call 36; refine (HBG.out _ (by exact K1.out)).mono ?_; rintro e y2 ⟨rfl, k2⟩; have K2 := Lib.hid k2; clear k2)
                  | (go_at_call 38; refine (HAL.out _ (by exact K2.out)).mono ?_; rintro e y3 ⟨v3, rfl, k3, i3⟩; have K3 := Lib.hid k3; have I3 := Lib.hid i3; clear k3 i3)
                  | (go_at_call 37; refine (HIN.out _ _ (by exact K3.out) (by exact I3.out)).mono ?_; rintro e y4 ⟨rfl, k4⟩; have K4 := Lib.hid k4; clear k4))
              all_goals
                go_wp2_with fail
                go_roundw
                case rel => exact ⟨k + 1, A2, C2, D, lc, by go_num, rfl, by omega, by omega, Lib.hid (HBW.out.next K4.out)⟩
                case measure => simp [intOf]; omega
      · have hki : ¬ (k : Int) < (len : Int) := by omega
        have HAT := Lib.hid (wdat_any wr hH.out.mt)
        go_wp2_with fail
        refine HAT.out.mono ?_
        rintro e w4 ⟨rfl, hw4⟩
        obtain rfl := hw4.symm
        go_wp2_with fail
        refine (five28_any _).mono ?_
        rintro e w4 ⟨rfl, hb⟩
        have HB := Lib.hid (hH.out.next hb).below
        clear hb
        go_wp2_with fail
        go_ret
        exact ⟨rfl, HB.out⟩
  · have HBD := Lib.hid (wdnew_bad S v zs w hz hzn hm)
    have HRL := Lib.hid (rmay28_any S v zs w hz hzn)
    rw [decide_eq_false hm] at HRL
    clear hm
    go_enter Try.func7, Try.ntmps7
    go_wp2_with fail
    refine HBD.out.mono ?_
    rintro e w1 ⟨rfl, hw1⟩
    obtain rfl := hw1.symm
    go_wp2_with fail
    refine HRL.out.mono ?_
    rintro e w1 ⟨rfl, hw1⟩
    obtain rfl := hw1.symm
    go_wp2_with fail
    refine (five28_any _).mono ?_
    rintro e w1 ⟨rfl, hb⟩
    have HB := Lib.hid hb
    clear hb
    go_wp2_with fail
    go_ret
    exact ⟨rfl, HB.out⟩
end Go.Proofs.Ytjpahpbofgfgfaa
