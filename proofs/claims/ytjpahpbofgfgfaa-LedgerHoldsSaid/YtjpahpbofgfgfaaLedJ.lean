/-
  LAYER 27's STATEMENTS: LedgerHolds.
-/
import Derived.Test.YtjpahpbofgfgfaaLedI
namespace Go.Proofs.Ytjpahpbofgfgfaa
open Go.RowKit Go.ChangeShapes Go.WideShapes Go.ChangeAt Go.Deep
set_option linter.unusedVariables false
set_option linter.unusedSimpArgs false
/-- A ledger made by the call, of the limits L, at which all is as it must be. -/
def LgHold (w0 w : World) (b g n : Nat) (L : Nat → Int) : Prop := (∃ U P, IsLg w b g n L U P ∧ LgInv n L U P) ∧ Below w0.heap.size w0 w ∧ w0.heap.size ≤ b ∧ w0.heap.size ≤ g
theorem LgHold.next {w0 w w' : World} {b g n : Nat} {L : Nat → Int} (h : LgHold w0 w b g n L) (hb : Below w.heap.size w w') : LgHold w0 w' b g n L := by
  obtain ⟨⟨U, P, h1, h2⟩, h3, h4⟩ := h
  exact ⟨⟨U, P, h1.far hb, h2⟩, h3.trans (hb.mono h3.size), h4⟩
section
variable {w0 w w' : World} {b g n : Nat} {L : Nat → Int}
theorem hold_rsv (T x : Int) (h : LgHold w0 w b g n L) (hx : -9223372036854775808 ≤ x ∧ x ≤ 9223372036854775807) :
    Calls Try.prog 17 #[.pointer (some ⟨b, 0, none⟩), .int .i64 T, .int .i64 x] w fun e w' => (∃ E, e = .returned (.int .i64 E)) ∧ LgHold w0 w' b g n L := by
  obtain ⟨⟨U, P, h1, h2⟩, h3, h4⟩ := h
  refine (lgrsv_any T x w h1 h2 hx).mono ?_
  rintro e w' ⟨rfl, U', P', hs, hl, ht⟩
  exact ⟨⟨_, rfl⟩, ⟨U', P', hl, hs.inv_rsv h2⟩, h3.trans (ht.below h3.size (fun i hi => by have : i = g := hi; omega)), h4⟩
theorem hold_rel (T x : Int) (h : LgHold w0 w b g n L) (hx : -9223372036854775808 ≤ x ∧ x ≤ 9223372036854775807) :
    Calls Try.prog 15 #[.pointer (some ⟨b, 0, none⟩), .int .i64 T, .int .i64 x] w fun e w' => (∃ E, e = .returned (.int .i64 E)) ∧ LgHold w0 w' b g n L := by
  obtain ⟨⟨U, P, h1, h2⟩, h3, h4⟩ := h
  refine (lgrel_any T x w h1 h2 hx).mono ?_
  rintro e w' ⟨rfl, U', P', hs, hl, ht⟩
  exact ⟨⟨_, rfl⟩, ⟨U', P', hl, hs.inv_rel h2⟩, h3.trans (ht.below h3.size (fun i hi => by have : i = g := hi; omega)), h4⟩
end
theorem LgNewP.hold {w0 w w' : World} {zs : List Int} {e : Ending} (h : LgNewP w w' zs e) (hb : Below w0.heap.size w0 w) (hm : lgMay zs) : ∃ b g, e = .returned (.tuple #[.pointer (some ⟨b, 0, none⟩), .int .i64 0]) ∧ LgHold w0 w' b g zs.length (limF zs) := by
  obtain ⟨b, g, rfl, hl, hb2, h1, h2⟩ := h
  have := hb.size
  refine ⟨b, g, rfl, ⟨_, _, hl, fun i hi => ?_⟩, hb.trans (hb2.mono hb.size), by omega, by omega⟩
  have hx : lgIs (limF zs i) := by
    unfold limF
    rw [List.getD_eq_getElem?_getD, List.getElem?_eq_getElem hi]
    exact hm.2.2 _ (List.getElem_mem hi)
  exact ⟨Int.le_refl _, Int.le_refl _, hx.1, hx.2⟩
set_option maxRecDepth 100000 in
set_option maxHeartbeats 8000000 in
theorem ledgerHolds.main (v : Value) (zs : List Int) (a : Option Addr) (len cap : Nat) (l : List Act3) (w : World) (hz : IsInts w v zs) (hzn : zs.length ≤ 9223372036854775807) (hl : IsActs3 w a len l) :
    Calls Try.prog 4 #[v, .slice a len cap] w fun e w' => e = .returned (.bool true) ∧ Below w.heap.size w w' := by
  have HRL := Lib.hid (rlimits_any v zs w hz hzn)
  have hml : len ≤ maxLen := hl.2.2
  unfold maxLen at hml
  have HL := Lib.hid hl
  have HZ := Lib.hid hz
  clear hl
  by_cases h100 : (len : Int) > 100
  · go_enter Try.func4, Try.ntmps4
    go_wp2_with fail
    refine (ten27_any _).mono ?_
    rintro e w1 ⟨rfl, hb⟩
    have HB := Lib.hid hb
    clear hb
    go_wp2_with fail
    go_ret
    exact ⟨rfl, HB.out⟩
  by_cases hm : lgMay zs
  · have HM := Lib.hid hm
    rw [decide_eq_true (show 1 ≤ zs.length ∧ zs.length ≤ 16 ∧ ∀ x ∈ zs, lgIs x from hm)] at HRL
    have HN := Lib.hid (lgnew_any v zs w hz hm)
    have hn16 := hm.2.1
    obtain ⟨az, cz, rfl, _⟩ := hz
    obtain ⟨n, hn⟩ : ∃ n, zs.length = n := ⟨_, rfl⟩
    have HNN := Lib.hid hn
    rw [hn] at hn16
    have e0 : Value.slice az zs.length cz = Value.slice az n cz := by rw [hn]
    rw [e0] at HN HRL HZ ⊢
    clear hm hn hzn e0
    go_enter Try.func4, Try.ntmps4
    go_wp2_with fail
    refine HRL.out.mono ?_
    rintro e w1 ⟨rfl, rfl⟩
    go_wp2_with fail
    refine HN.out.mono ?_
    rintro e w2 h2
    obtain ⟨b, g, rfl, h3⟩ := h2.hold (Below.refl _ _) HM.out
    rw [HNN.out] at h3
    have H3 := Lib.hid h3
    clear h2 h3 HRL HN
    go_wp2_with fail
    go_loopw [8, 9, 10, 11, 28] (fun _ _ _ _ vi wr => ∃ k : Nat, vi = .int .i64 (k : Int) ∧ k ≤ len ∧ Hid (LgHold w1 wr b g n (limF zs))) (fun _ _ _ _ vi _ => len - (intOf vi).toNat)
    case atStart => exact ⟨0, rfl, by omega, H3⟩
    case round =>
      obtain ⟨k, rfl, hk, hH⟩ := hrel
      by_cases hlt : k < len
      · have hki : (k : Int) < (len : Int) := by omega
        obtain ⟨o, bl, ol, hx, hok, rfl, _, c0, c1, c2⟩ := HL.out.at_ hH.out.2.1 hlt
        obtain ⟨R, T, Z⟩ := o
        dsimp only at c0 c1 c2
        have HOK := Lib.hid hok
        have hz1 : -9223372036854775808 ≤ Z ∧ Z ≤ 9223372036854775807 := ⟨hok.n1, hok.n2⟩
        obtain ⟨w3, hw3⟩ : ∃ w3, wr.alloc (.cells #[.bool R, .int .i64 T, .int .i64 Z] 32) = w3 := ⟨_, rfl⟩
        have hx3 : w3.heap[wr.heap.size]? = some (.cells #[.bool R, .int .i64 T, .int .i64 Z] 32 (0, 0)) := by rw [← hw3]; exact heap_alloc_new _ _
        have H4 := Lib.hid (hH.out.next (show Below wr.heap.size wr w3 by rw [← hw3]; exact (Below.refl _ _).alloc (Nat.le_refl _) _))
        have d0 : w3.cell? ⟨wr.heap.size, 0, none⟩ = some (.bool R) := by rw [cell_of_row _ _ 0 _ _ _ hx3]; rfl
        have d1 : w3.cell? ⟨wr.heap.size, 1, none⟩ = some (.int .i64 T) := by rw [cell_of_row _ _ 1 _ _ _ hx3]; rfl
        have d2 : w3.cell? ⟨wr.heap.size, 2, none⟩ = some (.int .i64 Z) := by rw [cell_of_row _ _ 2 _ _ _ hx3]; rfl
        have HZ1 := Lib.hid hz1
        clear hx hok hx3 hz1
        cases R
        · go_wp2_with fail
          refine (hold_rsv T Z H4.out HZ1.out).mono ?_
          rintro e w4 ⟨⟨E, rfl⟩, h4⟩
          obtain ⟨⟨U, P, h5, h6⟩, h7⟩ := h4
          have H5 := Lib.hid h5
          have H6 := Lib.hid h6
          have H7 := Lib.hid h7
          clear h5 h6 h7 d0 d1 d2
          obtain ⟨wa, rfl⟩ : ∃ wa : World, wa = wr := ⟨_, rfl⟩
          go_wp2_with fail
          go_loopw [9, 10, 11, 48] (fun _ _ _ vi wr => ∃ m : Nat, vi = .int .i64 (m : Int) ∧ m ≤ n ∧ Hid (Below w4.heap.size w4 wr)) (fun _ _ _ vi _ => n - (intOf vi).toNat)
          case atStart => exact ⟨0, rfl, by omega, Lib.hid (Below.refl _ _)⟩
          case round =>
            obtain ⟨m, rfl, hm, hB⟩ := hrel
            by_cases hmn : m < n
            · have hmi : (m : Int) < (n : Int) := by omega
              have hbz : Below w1.heap.size w1 wr := H7.out.1.trans (hB.out.mono H7.out.1.size)
              obtain ⟨bz, oz, cz2, he1, cx⟩ := (HZ.out.below hbz).cell (k := m) (by rw [HNN.out]; exact hmn)
              simp only [Value.slice.injEq] at he1
              obtain ⟨rfl, he2, rfl⟩ := he1
              clear he2
              obtain ⟨i1, i2, i3, i4⟩ := H6.out m hmn
              have H8 := Lib.hid (H5.out.far hB.out)
              have EU : Hid (lk U n (m : Int) = U m) := Lib.hid (lk_at U hmn)
              have EP : Hid (lk P n (m : Int) = P m) := Lib.hid (lk_at P hmn)
              have EL : Hid (lk (limF zs) n (m : Int) = zs.getD m 0) := Lib.hid (lk_at (limF zs) hmn)
              have i3' : P m ≤ zs.getD m 0 := i3
              have i4' : zs.getD m 0 ≤ 1099511627776 := i4
              clear i3 i4
              have QU := Lib.hid (fun W (hW : Below wr.heap.size wr W) => by have := lgused_v (m : Int) W (Or.inr ⟨b, g, rfl, H8.out.far hW⟩); rw [EU.out] at this; exact this)
              have QP := Lib.hid (fun W (hW : Below wr.heap.size wr W) => by have := lgpeak_v (m : Int) W (Or.inr ⟨b, g, rfl, H8.out.far hW⟩); rw [EP.out] at this; exact this)
              have QL := Lib.hid (fun W (hW : Below wr.heap.size wr W) => by have := lgleft_v (m : Int) W (Or.inr ⟨b, g, rfl, H8.out.far hW⟩) (by rw [EL.out, EU.out]; omega); rw [EL.out, EU.out] at this; exact this)
              generalize zs.getD m 0 = x at *
              generalize U m = u at *
              generalize P m = q at *
              obtain ⟨d, hd⟩ : ∃ d, x - u = d := ⟨_, rfl⟩
              rw [hd] at QL
              have hdu : d + u = x := by omega
              clear hd EU EP EL
              have t1 : ¬ u < 0 := by omega
              have t2 : ¬ u > x := by omega
              have t3 : ¬ q < u := by omega
              have t4 : ¬ q > x := by omega
              have t5 : IntKind.i64.wrap x = x := IntWalk.i64_in _ (by omega)
              go_wp2_with fail
              refine (QU.out _ (Below.refl _ _)).mono ?_
              rintro e w5 ⟨rfl, hb5⟩
              have HB5 := Lib.hid hb5
              clear hb5
              go_wp2_with fail
              refine (QL.out _ HB5.out).mono ?_
              rintro e w6 ⟨rfl, hb6⟩
              have HB6 := Lib.hid (HB5.out.trans (hb6.mono HB5.out.size))
              clear hb6
              go_wp2_with fail
              refine (QP.out _ HB6.out).mono ?_
              rintro e w7 ⟨rfl, hb7⟩
              have HB7 := Lib.hid (HB6.out.trans (hb7.mono HB6.out.size))
              clear hb7
              go_wp2_with fail
              refine (QP.out _ HB7.out).mono ?_
              rintro e w8 ⟨rfl, hb8⟩
              have HB8 := Lib.hid (hB.out.trans ((HB7.out.trans (hb8.mono HB7.out.size)).mono hB.out.size))
              clear hb8
              go_wp2_with fail
              go_roundw
              case rel => exact ⟨m + 1, by go_num, by omega, HB8⟩
              case measure => simp [intOf]; omega
            · have hmi : ¬ (m : Int) < (n : Int) := by omega
              have HE : Hid (LgHold w1 wr b g n (limF zs)) := Lib.hid ⟨⟨U, P, H5.out.far hB.out, H6.out⟩, H7.out.1.trans (hB.out.mono H7.out.1.size), H7.out.2⟩
              go_wp2_with fail
              go_roundw
              case rel => exact ⟨k + 1, by go_num, by omega, HE⟩
              case measure => simp [intOf]; omega
        · go_wp2_with fail
          refine (hold_rel T Z H4.out HZ1.out).mono ?_
          rintro e w4 ⟨⟨E, rfl⟩, h4⟩
          obtain ⟨⟨U, P, h5, h6⟩, h7⟩ := h4
          have H5 := Lib.hid h5
          have H6 := Lib.hid h6
          have H7 := Lib.hid h7
          clear h5 h6 h7 d0 d1 d2
          obtain ⟨wa, rfl⟩ : ∃ wa : World, wa = wr := ⟨_, rfl⟩
          go_wp2_with fail
          go_loopw [9, 10, 11, 48] (fun _ _ _ vi wr => ∃ m : Nat, vi = .int .i64 (m : Int) ∧ m ≤ n ∧ Hid (Below w4.heap.size w4 wr)) (fun _ _ _ vi _ => n - (intOf vi).toNat)
          case atStart => exact ⟨0, rfl, by omega, Lib.hid (Below.refl _ _)⟩
          case round =>
            obtain ⟨m, rfl, hm, hB⟩ := hrel
            by_cases hmn : m < n
            · have hmi : (m : Int) < (n : Int) := by omega
              have hbz : Below w1.heap.size w1 wr := H7.out.1.trans (hB.out.mono H7.out.1.size)
              obtain ⟨bz, oz, cz2, he1, cx⟩ := (HZ.out.below hbz).cell (k := m) (by rw [HNN.out]; exact hmn)
              simp only [Value.slice.injEq] at he1
              obtain ⟨rfl, he2, rfl⟩ := he1
              clear he2
              obtain ⟨i1, i2, i3, i4⟩ := H6.out m hmn
              have H8 := Lib.hid (H5.out.far hB.out)
              have EU : Hid (lk U n (m : Int) = U m) := Lib.hid (lk_at U hmn)
              have EP : Hid (lk P n (m : Int) = P m) := Lib.hid (lk_at P hmn)
              have EL : Hid (lk (limF zs) n (m : Int) = zs.getD m 0) := Lib.hid (lk_at (limF zs) hmn)
              have i3' : P m ≤ zs.getD m 0 := i3
              have i4' : zs.getD m 0 ≤ 1099511627776 := i4
              clear i3 i4
              have QU := Lib.hid (fun W (hW : Below wr.heap.size wr W) => by have := lgused_v (m : Int) W (Or.inr ⟨b, g, rfl, H8.out.far hW⟩); rw [EU.out] at this; exact this)
              have QP := Lib.hid (fun W (hW : Below wr.heap.size wr W) => by have := lgpeak_v (m : Int) W (Or.inr ⟨b, g, rfl, H8.out.far hW⟩); rw [EP.out] at this; exact this)
              have QL := Lib.hid (fun W (hW : Below wr.heap.size wr W) => by have := lgleft_v (m : Int) W (Or.inr ⟨b, g, rfl, H8.out.far hW⟩) (by rw [EL.out, EU.out]; omega); rw [EL.out, EU.out] at this; exact this)
              generalize zs.getD m 0 = x at *
              generalize U m = u at *
              generalize P m = q at *
              obtain ⟨d, hd⟩ : ∃ d, x - u = d := ⟨_, rfl⟩
              rw [hd] at QL
              have hdu : d + u = x := by omega
              clear hd EU EP EL
              have t1 : ¬ u < 0 := by omega
              have t2 : ¬ u > x := by omega
              have t3 : ¬ q < u := by omega
              have t4 : ¬ q > x := by omega
              have t5 : IntKind.i64.wrap x = x := IntWalk.i64_in _ (by omega)
              go_wp2_with fail
              refine (QU.out _ (Below.refl _ _)).mono ?_
              rintro e w5 ⟨rfl, hb5⟩
              have HB5 := Lib.hid hb5
              clear hb5
              go_wp2_with fail
              refine (QL.out _ HB5.out).mono ?_
              rintro e w6 ⟨rfl, hb6⟩
              have HB6 := Lib.hid (HB5.out.trans (hb6.mono HB5.out.size))
              clear hb6
              go_wp2_with fail
              refine (QP.out _ HB6.out).mono ?_
              rintro e w7 ⟨rfl, hb7⟩
              have HB7 := Lib.hid (HB6.out.trans (hb7.mono HB6.out.size))
              clear hb7
              go_wp2_with fail
              refine (QP.out _ HB7.out).mono ?_
              rintro e w8 ⟨rfl, hb8⟩
              have HB8 := Lib.hid (hB.out.trans ((HB7.out.trans (hb8.mono HB7.out.size)).mono hB.out.size))
              clear hb8
              go_wp2_with fail
              go_roundw
              case rel => exact ⟨m + 1, by go_num, by omega, HB8⟩
              case measure => simp [intOf]; omega
            · have hmi : ¬ (m : Int) < (n : Int) := by omega
              have HE : Hid (LgHold w1 wr b g n (limF zs)) := Lib.hid ⟨⟨U, P, H5.out.far hB.out, H6.out⟩, H7.out.1.trans (hB.out.mono H7.out.1.size), H7.out.2⟩
              go_wp2_with fail
              go_roundw
              case rel => exact ⟨k + 1, by go_num, by omega, HE⟩
              case measure => simp [intOf]; omega
      · have hki : ¬ (k : Int) < (len : Int) := by omega
        go_wp2_with fail
        refine (ten27_any _).mono ?_
        rintro e w4 ⟨rfl, hb⟩
        have HB := Lib.hid (hH.out.next hb).2.1
        clear hb
        go_wp2_with fail
        go_ret
        exact ⟨rfl, HB.out⟩
  · rw [decide_eq_false (show ¬ (1 ≤ zs.length ∧ zs.length ≤ 16 ∧ ∀ x ∈ zs, lgIs x) from hm)] at HRL
    clear hm
    go_enter Try.func4, Try.ntmps4
    go_wp2_with fail
    refine HRL.out.mono ?_
    rintro e w1 ⟨rfl, rfl⟩
    go_wp2_with fail
    refine (ten27_any _).mono ?_
    rintro e w1 ⟨rfl, hb⟩
    have HB := Lib.hid hb
    clear hb
    go_wp2_with fail
    go_ret
    exact ⟨rfl, HB.out⟩
end Go.Proofs.Ytjpahpbofgfgfaa
