/-
  LAYER 3's STATEMENTS: RlePieces.
-/
import Derived.Test.YtfaalgogagpimaaDoorRleLawA
namespace Go.Proofs.YtfaalgogagpimaaDoor
open Go.RowKit RleM
set_option linter.unusedVariables false
theorem byte_of_wf {C : Int} (h : (Lit.int .u8 C).wf = true) : ∃ c : UInt8, C = (c.toNat : Int) := by
  have h2 : 0 ≤ C ∧ C ≤ 255 := by
    simp only [Lit.wf] at h
    simpa [IntKind.min, IntKind.max, IntKind.signed, IntKind.bits] using h
  exact ⟨UInt8.ofNat C.toNat, by rw [UInt8.toNat_ofNat']; omega⟩
set_option maxRecDepth 100000 in
set_option maxHeartbeats 2000000 in
theorem rlePieces.walk (s : ByteArray) (C X : Int) (w : World) (hT : Sizes w) (w0 : s.size ≤ maxLen) (w1 : (Lit.int .u8 C).wf = true ∧ (Lit.int .i64 X).wf = true) :
    Calls Tryd.prog 3 #[.string s, .agg #[.int .u8 C, .int .i64 X]] w fun e w' => e = .returned (.bool true) ∧ Below w.heap.size w w' := by
  unfold maxLen at w0
  obtain ⟨c, rfl⟩ := byte_of_wf w1.1
  have HT := Lib.hid hT
  have HTA := Lib.hid (hT.touch ((Touch.refl (fun _ => False) w).alloc (.cells #[.int .u8 (c.toNat : Int), .int .i64 X] 23)) (fun h => h))
  have HB0 := Lib.hid ((Below.refl w.heap.size w).alloc (Nat.le_refl _) (.cells #[.int .u8 (c.toNat : Int), .int .i64 X] 23))
  clear hT w1
  by_cases hx0 : (2000 : Int) < s.size
  · go_enter Tryd.func3, Tryd.ntmps3
    go_wp2_with fail
    refine (six_any _ HTA.out).mono ?_
    rintro e w8 ⟨rfl, hb8⟩
    have H8 := Lib.hid (HB0.out.trans (hb8.mono (by simp)))
    clear hb8
    go_wp2_with fail
    go_ret
    exact ⟨rfl, H8.out⟩
  · have hcnt := pieces_count s.data.toList
    have hz : s.data.toList.length = s.size := rfl
    obtain ⟨ps, hps⟩ : ∃ ps, pieces s.data.toList = ps := ⟨_, rfl⟩
    rw [hps] at hcnt
    have hpl : ps.length ≤ 2000 := by omega
    have HPS := Lib.hid hps
    clear hcnt hz hps
    have hh0 := heap_alloc_new w (.cells #[.int .u8 (c.toNat : Int), .int .i64 X] 23)
    have HH0 := Lib.hid hh0
    clear hh0
    go_enter Tryd.func3, Tryd.ntmps3
    go_wp2_with fail
    refine (piecesOf_any s _ (by omega)).mono ?_
    rintro e w1 ⟨v1, rfl, hown1, hb1⟩
    rw [HPS.out] at hown1
    have P1 := Lib.hid (pcs_of_own hown1)
    have K1 := Lib.hid ((hb1.block w.heap.size (by simp)).trans HH0.out)
    have B1 := Lib.hid (HB0.out.trans (hb1.mono (by simp)))
    clear hown1 hb1
    go_wp2_with fail
    refine (refPieces_any s w1 (by omega)).mono ?_
    rintro e w2 ⟨v2, rfl, hown2, hb2⟩
    rw [HPS.out] at hown2
    have P2 := Lib.hid (pcs_of_own hown2)
    have P1b := Lib.hid (P1.out.later hb2)
    have hlt1 := (Array.getElem?_eq_some_iff.1 K1.out).1
    have K2 := Lib.hid ((hb2.block w.heap.size hlt1).trans K1.out)
    have B2 := Lib.hid (B1.out.trans (hb2.mono B1.out.size))
    clear hown2 hb2
    obtain ⟨a1, cap1, rfl, hc1⟩ := P1b.out
    obtain ⟨a2, cap2, rfl, hc2⟩ := P2.out
    clear hc1 hc2
    have hs2 := B2.out.size
    go_wp2_with fail
    go_loopw [7, 8, 26] (fun _ _ i wr => ∃ k : Nat, k ≤ ps.length ∧ i = .int .i64 k ∧ Hid (Below w2.heap.size w2 wr)) (fun _ _ i _ => ps.length - (intOf i).toNat)
    case atStart => exact ⟨0, by omega, rfl, Lib.hid (Below.refl _ _)⟩
    case round =>
      obtain ⟨k, hk, rfl, hB⟩ := hrel
      by_cases hlt : k < ps.length
      · obtain ⟨p, hp⟩ : ∃ p, ps[k]? = some p := ⟨_, List.getElem?_eq_getElem hlt⟩
        obtain ⟨_, _, e1, hc1⟩ := P1b.out.later hB.out
        obtain ⟨_, _, e2, hc2⟩ := P2.out.later hB.out
        simp only [Value.slice.injEq] at e1 e2
        obtain ⟨rfl, _, rfl⟩ := e1
        obtain ⟨rfl, _, rfl⟩ := e2
        obtain ⟨g1, ha1, _, gl1, c10, c11⟩ := hc1 k p hp
        obtain ⟨g2, ha2, _, gl2, c20, c21⟩ := hc2 k p hp
        subst ha1 ha2
        have hbs := hB.out.size
        clear hc1 hc2 hp
        go_wp2_with fail
        go_quiet (fail)
        go_wp2_with fail
        go_roundw
        case rel => exact ⟨k + 1, by omega, by go_num, Lib.hid (((hB.out.alloc hbs _).trans (show Below _ _ _ from ⟨rfl, rfl, rfl, Nat.le_refl _, fun _ _ => rfl⟩)))⟩
        case measure => simp [intOf]; omega
      · obtain rfl : k = ps.length := by omega
        have hlt2 := (Array.getElem?_eq_some_iff.1 K2.out).1
        have hk3 := (hB.out.block w.heap.size hlt2).trans K2.out
        have c0 : wr.cell? ⟨w.heap.size, 0, none⟩ = some (.int .u8 (c.toNat : Int)) := by rw [cell_of_row _ _ _ _ _ _ hk3]; rfl
        have c1 : wr.cell? ⟨w.heap.size, 1, none⟩ = some (.int .i64 X) := by rw [cell_of_row _ _ _ _ _ _ hk3]; rfl
        have K3 := Lib.hid hk3
        have B3 := Lib.hid (B2.out.trans (hB.out.mono hs2))
        have HT3 := Lib.hid (HT.out.below B3.out HT.out.lt)
        clear hk3
        by_cases hbad : X < 1 ∨ 255 < X
        · go_wp2_with fail
          refine (piece_bad (c.toNat : Int) X wr hbad).mono ?_
          rintro e w4 ⟨rfl, hb4⟩
          have d0 : w4.cell? ⟨w.heap.size, 0, none⟩ = some (.int .u8 (c.toNat : Int)) := (hb4.cell (p := ⟨w.heap.size, 0, none⟩) (by have := B3.out.size; have := (Array.getElem?_eq_some_iff.1 K3.out).1; omega)).trans c0
          have d1 : w4.cell? ⟨w.heap.size, 1, none⟩ = some (.int .i64 X) := (hb4.cell (p := ⟨w.heap.size, 1, none⟩) (by have := B3.out.size; have := (Array.getElem?_eq_some_iff.1 K3.out).1; omega)).trans c1
          have B4 := Lib.hid (B3.out.trans (hb4.mono B3.out.size))
          clear hb4
          rcases hbad with hbad | hbad
          · go_wp2_with fail
            refine (six_any w4 (HT.out.below B4.out HT.out.lt)).mono ?_
            rintro e w6 ⟨rfl, hb6⟩
            have B6 := Lib.hid (B4.out.trans (hb6.mono B4.out.size))
            clear hb6
            go_wp2_with fail
            go_ret
            exact ⟨rfl, B6.out⟩
          · have hb1 : ¬ X < 1 := by omega
            go_wp2_with fail
            refine (six_any w4 (HT.out.below B4.out HT.out.lt)).mono ?_
            rintro e w6 ⟨rfl, hb6⟩
            have B6 := Lib.hid (B4.out.trans (hb6.mono B4.out.size))
            clear hb6
            go_wp2_with fail
            go_ret
            exact ⟨rfl, B6.out⟩
        · obtain ⟨n, rfl⟩ : ∃ n : Nat, X = n := ⟨X.toNat, by omega⟩
          have hb1 : ¬ (n : Int) < 1 := by omega
          have hb2 : ¬ (255 : Int) < (n : Int) := by omega
          have hn1 : 1 ≤ n := by omega
          have hn2 : n ≤ 255 := by omega
          clear hbad
          go_wp2_with fail
          refine (piece_any (c, n) wr HT3.out hn1 hn2).mono ?_
          rintro e w4 ⟨rfl, hb4⟩
          have d0 : w4.cell? ⟨w.heap.size, 0, none⟩ = some (.int .u8 (c.toNat : Int)) := (hb4.cell (p := ⟨w.heap.size, 0, none⟩) (by have := B3.out.size; have := (Array.getElem?_eq_some_iff.1 K3.out).1; omega)).trans c0
          have d1 : w4.cell? ⟨w.heap.size, 1, none⟩ = some (.int .i64 (n : Int)) := (hb4.cell (p := ⟨w.heap.size, 1, none⟩) (by have := B3.out.size; have := (Array.getElem?_eq_some_iff.1 K3.out).1; omega)).trans c1
          have B4 := Lib.hid (B3.out.trans (hb4.mono B3.out.size))
          clear hb4
          go_wp2_with fail
          refine (refPiece_any (c, n) w4 hn2).mono ?_
          rintro e w5 ⟨rfl, hb5⟩
          have B5 := Lib.hid (B4.out.trans (hb5.mono B4.out.size))
          clear hb5
          go_wp2_with fail
          refine (six_any w5 (HT.out.below B5.out HT.out.lt)).mono ?_
          rintro e w6 ⟨rfl, hb6⟩
          have B6 := Lib.hid (B5.out.trans (hb6.mono B5.out.size))
          clear hb6
          go_wp2_with fail
          go_ret
          exact ⟨rfl, B6.out⟩
end Go.Proofs.YtfaalgogagpimaaDoor
