/-
  LAYER 3's STATEMENTS: RleApart.
-/
import Derived.Test.YtfaalgogagpimaaDoorRleLawA
namespace Go.Proofs.YtfaalgogagpimaaDoor
open Go.RowKit RleM
set_option linter.unusedVariables false
theorem flat_take {ps : List Pc} {k : Nat} {p : Pc} (h : ps[k]? = some p) : flat (ps.take (k + 1)) = flat (ps.take k) ++ List.replicate p.2 p.1 := by
  rw [List.take_add_one, h]
  simp [flat]
theorem flat_at {ps : List Pc} {k : Nat} {p : Pc} (h : ps[k]? = some p) {j : Nat} (hj : j < p.2) : (flat ps)[(flat (ps.take k)).length + j]? = some p.1 := by
  have e : flat ps = flat (ps.take k) ++ (List.replicate p.2 p.1 ++ flat (ps.drop (k + 1))) := by
    conv => lhs; rw [← List.take_append_drop (k + 1) ps]
    rw [flat_append, flat_take h, List.append_assoc]
  rw [e, List.getElem?_append_right (by omega), List.getElem?_append_left (by simp; omega)]
  simp [hj]
theorem flat_take_le (ps : List Pc) (k : Nat) : (flat (ps.take k)).length ≤ (flat ps).length := by
  conv => rhs; rw [← List.take_append_drop k ps]
  rw [flat_append, List.length_append]; omega
theorem good_adj : ∀ {ps : List Pc} {k : Nat} {q p : Pc}, RleM.Good ps → ps[k]? = some q → ps[k + 1]? = some p → p.1 ≠ q.1 ∨ q.2 = 255
  | [], k, q, p, _, h, _ => by simp at h
  | a :: ps, 0, q, p, hg, h1, h2 => by
    have e : a = q := by simpa using h1
    subst e
    exact hg.2.2.1 p (by rw [List.head?_eq_getElem?]; simpa using h2)
  | a :: ps, k + 1, q, p, hg, h1, h2 => good_adj (k := k) hg.2.2.2 (by simpa using h1) (by simpa using h2)
set_option maxRecDepth 100000 in
set_option maxHeartbeats 4000000 in
theorem rleApart.walk (s : ByteArray) (w : World) (hT : Sizes w) (w0 : s.size ≤ maxLen) :
    Calls Tryd.prog 7 #[.string s] w fun e w' => e = .returned (.bool true) ∧ Below w.heap.size w w' := by
  unfold maxLen at w0
  have HT := Lib.hid hT
  clear hT
  by_cases hx0 : (2000 : Int) < s.size
  · go_enter Tryd.func7, Tryd.ntmps7
    go_wp2_with fail
    refine (six_any _ HT.out).mono ?_
    rintro e w8 ⟨rfl, hb8⟩
    have H8 := Lib.hid hb8
    clear hb8
    go_wp2_with fail
    go_ret
    exact ⟨rfl, H8.out⟩
  · have hcnt := pieces_count s.data.toList
    have hz : s.data.toList.length = s.size := rfl
    obtain ⟨ps, hps⟩ : ∃ ps, pieces s.data.toList = ps := ⟨_, rfl⟩
    have hfl := flat_pieces s.data.toList
    have hgd := good s.data.toList
    rw [hps] at hcnt hfl hgd
    have hpl : ps.length ≤ 2000 := by omega
    have HPS := Lib.hid hps
    have HFL := Lib.hid hfl
    have HGD := Lib.hid hgd
    have hfz : (flat ps).length = s.size := by rw [hfl]; rfl
    have HFZ := Lib.hid hfz
    have HAL := Lib.hid (show ∀ k, (flat (ps.take k)).length ≤ s.size from fun k => by rw [← hfz]; exact flat_take_le ps k)
    clear hcnt hz hps hfl hgd hfz
    go_enter Tryd.func7, Tryd.ntmps7
    go_wp2_with fail
    refine (piecesOf_any s _ (by omega)).mono ?_
    rintro e w1 ⟨v1, rfl, hown1, hb1⟩
    rw [HPS.out] at hown1
    have P1 := Lib.hid (pcs_of_own hown1)
    have B1 := Lib.hid hb1
    clear hown1 hb1
    obtain ⟨a1, cap1, rfl, hc1⟩ := P1.out
    clear hc1
    have hs1 := B1.out.size
    go_wp2_with fail
    go_loopw [3, 5, 6, 7, 16] (fun t _ _ _ i wr => ∃ k : Nat, k ≤ ps.length ∧ i = .int .i64 k ∧ t = .int .i64 ((flat (ps.take k)).length : Int) ∧ Hid (Below w1.heap.size w1 wr)) (fun _ _ _ _ i _ => ps.length - (intOf i).toNat)
    case atStart => exact ⟨0, by omega, rfl, rfl, Lib.hid (Below.refl _ _)⟩
    case round =>
      obtain ⟨k, hk, rfl, rfl, hB⟩ := hrel
      have hal := HAL.out k
      by_cases hlt : k < ps.length
      · obtain ⟨p, hp⟩ : ∃ p, ps[k]? = some p := ⟨_, List.getElem?_eq_getElem hlt⟩
        obtain ⟨_, _, e1, hc1⟩ := P1.out.later hB.out
        simp only [Value.slice.injEq] at e1
        obtain ⟨rfl, _, rfl⟩ := e1
        obtain ⟨g1, ha1, _, gl1, c10, c11⟩ := hc1 k p hp
        subst ha1
        have hbs := hB.out.size
        obtain ⟨hp1, hp2⟩ := good_mem HGD.out (List.mem_of_getElem? hp)
        have hal2 := HAL.out (k + 1)
        have HFT := Lib.hid (flat_take hp)
        have hfa : (flat (ps.take k)).length + p.2 ≤ s.size := by rw [flat_take hp, List.length_append, List.length_replicate] at hal2; exact hal2
        have HAT := Lib.hid (show ∀ j, j < p.2 → s.data.toList[(flat (ps.take k)).length + j]? = some p.1 from fun j hj => by rw [← HFL.out]; exact flat_at hp hj)
        have HN := Lib.hid (show (flat (ps.take (k + 1))).length = (flat (ps.take k)).length + p.2 by rw [flat_take hp, List.length_append, List.length_replicate])
        have HP := Lib.hid hp
        have HC1 := Lib.hid hc1
        have q1 : ¬ ((p.2 : Int) < 1) := by omega
        have q2 : ¬ ((255 : Int) < (p.2 : Int)) := by omega
        clear hc1 hp hal2
        generalize (flat (ps.take k)).length = A at *
        have q3 : ¬ ((s.size : Int) < (A : Int) + (p.2 : Int)) := by omega
        go_wp2_with fail
        have e0 : (wr.alloc (.cells #[.int .u8 (p.1.toNat : Int), .int .i64 (p.2 : Int)] 23)).cell? ⟨wr.heap.size, 0, none⟩ = some (.int .u8 (p.1.toNat : Int)) := by
          rw [cell_of_row _ _ _ _ _ _ (heap_alloc_new wr _)]; rfl
        have e1 : (wr.alloc (.cells #[.int .u8 (p.1.toNat : Int), .int .i64 (p.2 : Int)] 23)).cell? ⟨wr.heap.size, 1, none⟩ = some (.int .i64 (p.2 : Int)) := by
          rw [cell_of_row _ _ _ _ _ _ (heap_alloc_new wr _)]; rfl
        have eg0 : ∀ o, (wr.alloc (.cells #[.int .u8 (p.1.toNat : Int), .int .i64 (p.2 : Int)] 23)).cell? ⟨g1, o, none⟩ = wr.cell? ⟨g1, o, none⟩ := fun o => World.cell?_alloc_lt _ _ ⟨g1, o, none⟩ (by show g1 < _; exact gl1)
        have HEG := Lib.hid eg0
        clear eg0
        have HWB := Lib.hid (hB.out.alloc hbs (.cells #[.int .u8 (p.1.toNat : Int), .int .i64 (p.2 : Int)] 23))
        generalize hWA : wr.alloc (.cells #[.int .u8 (p.1.toNat : Int), .int .i64 (p.2 : Int)] 23) = wa at *
        clear hWA
        go_loopw [7, 40] (fun _ i wi => ∃ j m : Nat, j ≤ p.2 ∧ i = .int .i64 j ∧ wi = wa.drewN m) (fun _ i _ => p.2 - (intOf i).toNat)
        case atStart => exact ⟨0, 0, by omega, rfl, rfl⟩
        case round =>
          obtain ⟨j, m, hj, rfl, rfl⟩ := hrel
          by_cases hjl : j < p.2
          · have hix : ∀ W, (Instr.index 9 (.string s) (.int .i64 (IntKind.i64.wrap ((A : Int) + (j : Int))))).run Tryd.prog W = .ok (.int .u8 (p.1.toNat : Int)) W := fun W => by
              rw [IntWalk.i64_in _ (by omega), run_index_string W 9 s .i64 ((A : Int) + (j : Int)) Tryd.underlying9]
              have e : ((A : Int) + (j : Int)).toNat = A + j := by omega
              have e2 := HAT.out j hjl
              have e3 : A + j < s.size := by omega
              rw [data_get e3] at e2
              have e4 : s[A + j] = p.1 := Option.some.inj e2
              rw [dif_pos (by omega)]
              simp [e, e4]
            go_wp2_with fail
            go_quiet (fail)
            clear hix
            go_wp2_with fail
            go_roundw
            case rel => exact ⟨j + 1, _, by omega, by go_num, rfl⟩
            case measure => simp [intOf]; omega
          · obtain rfl : j = p.2 := by omega
            by_cases hk0 : 0 < k
            · have hkm : k - 1 < ps.length := by omega
              obtain ⟨q, hq⟩ : ∃ q, ps[k - 1]? = some q := ⟨_, List.getElem?_eq_getElem hkm⟩
              obtain ⟨g2, ha2, _, gl2, c20, c21⟩ := HC1.out (k - 1) q hq
              obtain rfl : g1 = g2 := by simpa using ha2
              have hadj := good_adj (k := k - 1) HGD.out hq (by rw [show k - 1 + 1 = k from by omega]; exact HP.out)
              have hia : ∀ W, (Instr.indexAt 25 (.slice (some ⟨g1, 0, none⟩) ps.length cap1) (.int .i64 (IntKind.i64.wrap ((k : Int) - 1)))).run Tryd.prog W = .ok (.pointer (some ⟨g1, (k - 1) * 2, none⟩)) W := fun W => by
                have hs : (sizeOf (Tryd.prog.elem 25)).run Tryd.prog W = .ok 2 W := by kernel_rfl
                have e : ((k : Int) - 1).toNat = k - 1 := by omega
                rw [IntWalk.i64_in _ (by omega), run_indexAt_slice W 25 _ _ _ .i64 _ (by kernel_rfl), if_pos (by omega), hs]
                show Result.ok (Value.pointer (some (Addr.add ⟨g1, 0, none⟩ (((k : Int) - 1).toNat * 2)))) W = _
                rw [Addr.add_lit, Nat.zero_add, e]
              have n1 : wa.cell? ⟨g1, (k - 1) * 2, none⟩ = some (.int .u8 (q.1.toNat : Int)) := (HEG.out _).trans c20
              have n2 : wa.cell? ⟨g1, (k - 1) * 2 + 1, none⟩ = some (.int .i64 (q.2 : Int)) := (HEG.out _).trans c21
              have HHC := Lib.hid c20
              clear c20 c21 hq ha2
              by_cases hqe : p.1 = q.1
              · have hb := byte_eq hqe.symm
                have hq255 : q.2 = 255 := by
                  rcases hadj with h | h
                  · exact absurd hqe h
                  · exact h
                have hb2 : ((q.2 : Int) != 255) = false := by rw [hq255]; rfl
                have HQE := Lib.hid hqe
                clear hadj hqe hq255
                go_wp2_with fail
                go_quiet (fail)
                go_wp2_with fail
                go_roundw
                case rel => exact ⟨k + 1, by omega, by go_num, iv (by rw [HN.out]; omega), Lib.hid (HWB.out.trans (show Below _ _ _ from ⟨rfl, rfl, rfl, Nat.le_refl _, fun _ _ => rfl⟩))⟩
                case measure => simp [intOf]; omega
              · have hb : ((q.1.toNat : Int) == (p.1.toNat : Int)) = false := byte_ne (fun h => hqe h.symm)
                have HQE := Lib.hid hqe
                clear hadj hqe
                go_wp2_with fail
                go_quiet (fail)
                go_wp2_with fail
                go_roundw
                case rel => exact ⟨k + 1, by omega, by go_num, iv (by rw [HN.out]; omega), Lib.hid (HWB.out.trans (show Below _ _ _ from ⟨rfl, rfl, rfl, Nat.le_refl _, fun _ _ => rfl⟩))⟩
                case measure => simp [intOf]; omega
            · have hd0 : decide (0 < k) = false := by simp only [decide_eq_false_iff_not]; exact hk0
              go_wp2_with fail
              go_quiet (fail)
              go_wp2_with fail
              go_roundw
              case rel => exact ⟨k + 1, by omega, by go_num, iv (by rw [HN.out]; omega), Lib.hid (HWB.out.trans (show Below _ _ _ from ⟨rfl, rfl, rfl, Nat.le_refl _, fun _ _ => rfl⟩))⟩
              case measure => simp [intOf]; omega
      · obtain rfl : k = ps.length := by omega
        have hA : ((flat (ps.take ps.length)).length : Int) = (s.size : Int) := by rw [List.take_of_length_le (Nat.le_refl _), HFZ.out]
        have B3 := Lib.hid (B1.out.trans (hB.out.mono hs1))
        rw [hA]
        go_wp2_with fail
        refine (six_any wr (HT.out.below B3.out HT.out.lt)).mono ?_
        rintro e w6 ⟨rfl, hb6⟩
        have B6 := Lib.hid (B3.out.trans (hb6.mono B3.out.size))
        clear hb6
        go_wp2_with fail
        go_ret
        exact ⟨rfl, B6.out⟩
end Go.Proofs.YtfaalgogagpimaaDoor
