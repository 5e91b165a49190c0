/-
  LAYER 4's STATEMENTS: FeedUnpacks.
-/
import Derived.Test.YtfaalgogagpimaaDoorFeedRefB
import Derived.Test.YtfaalgogagpimaaDoorFeedLawB
namespace Go.Proofs.YtfaalgogagpimaaDoor
open Go.RowKit RleM
set_option linter.unusedVariables false
theorem below_draw {w : World} (n : Nat) : Below w.heap.size w (w.drewN n) := ⟨rfl, rfl, rfl, Nat.le_refl _, fun _ _ => rfl⟩
theorem UnSt.draw {w wr : World} {ub : Nat} {l : List UInt8} {a : UInt8} {n : Nat} {O : List UInt8} (h : UnSt w wr ub l a n O) (m : Nat) : UnSt w (wr.drewN m) ub l a n O :=
  ⟨h.row, h.run, h.below.trans ((below_draw m).mono h.below.size)⟩
set_option maxRecDepth 100000 in
set_option maxHeartbeats 4000000 in
theorem feedUnpacks.walk (s : ByteArray) (w : World) (hT : Sizes w) (w0 : s.size ≤ maxLen) :
    Calls Tryd.prog 9 #[.string s] w fun e w' => e = .returned (.bool true) ∧ Below w.heap.size w w' := by
  unfold maxLen at w0
  have HT := Lib.hid hT
  have hgl := hT.lt
  clear hT
  by_cases hx0 : (60 : Int) < s.size
  · go_enter Tryd.func9, Tryd.ntmps9
    go_wp2_with fail
    refine (five4_any _ HT.out).mono ?_
    rintro e w8 ⟨rfl, hb8⟩
    have H8 := Lib.hid hb8
    clear hb8
    go_wp2_with fail
    go_ret
    exact ⟨rfl, H8.out⟩
  · go_enter Tryd.func9, Tryd.ntmps9
    go_wp2_with fail
    refine (newUnp_any w).mono ?_
    rintro e w1 ⟨rfl, hu1, hb1⟩
    have HU1 := Lib.hid hu1
    have HB1 := Lib.hid hb1
    clear hu1 hb1
    go_wp2_with fail
    go_loopw [4, 5, 6, 7, 8, 9, 10, 20] (fun t _ _ _ _ _ _ i wr => ∃ (k : Nat) (a : UInt8) (n : Nat) (O : List UInt8), k ≤ s.size ∧ i = .int .i64 k ∧ t = .string ⟨O.toArray⟩ ∧ Hid (UnSt w wr w.heap.size (s.data.toList.take k) a n O)) (fun _ _ _ _ _ _ _ i _ => s.size - (intOf i).toNat)
    case atStart => exact ⟨0, 0, 0, [], by omega, rfl, rfl, Lib.hid ⟨HU1.out, rfl, HB1.out⟩⟩
    case round =>
      obtain ⟨k, a, n, O, hk, rfl, rfl, hU⟩ := hrel
      have hkz : (k : Int) ≤ (s.size : Int) := by omega
      have hurl := urun_le _ (0, 0) _ (by decide) hU.out.run
      have hn4 : n ≤ 4 := hurl.1
      have hol : O.length ≤ 255 * 60 := by
        have h := hurl.2
        simp only [List.length_take] at h
        omega
      clear hurl
      by_cases hlt : k < s.size
      · have HEX := Lib.hid (show urun (0, 0) (s.extract 0 k).data.toList = some ((a, n), O) by rw [ext_take1]; exact hU.out.run)
        have hzx : (s.extract 0 k).size ≤ 1000 := by simp [ByteArray.size_extract]; omega
        by_cases hn : n = 4
        · subst hn
          by_cases hc : (251 : Int) < (s[k].toNat : Int)
          · have hnone : ustep (a, 4) s[k] = none := by unfold ustep; rw [if_pos rfl, if_pos (by omega)]
            have HUB := Lib.hid (show uout a 4 s[k] = ([], 25) by unfold uout; rw [hnone])
            have HUS := Lib.hid (show ust a 4 s[k] = (a, 4) by unfold ust; rw [hnone])
            clear hnone
            have HDB := Lib.hid (show dec s.data.toList = ([], 25) by
              have h5 : urun (0, 0) (s.data.toList.take (k + 1)) = none := by
                rw [urun_step hlt hU.out.run]
                unfold ustep
                rw [if_pos rfl, if_pos (by omega)]; rfl
              have h6 := dec_none (m := s.data.toList.drop (k + 1)) h5
              rwa [List.take_append_drop] at h6)
            go_wp2_with fail
            refine (wantsRef_any (s.extract 0 k) a 4 O true rfl wr (by omega) HEX.out).mono ?_
            rintro e w' ⟨rfl, m, rfl⟩
            go_wp2_with fail
            refine (wants_any w.heap.size a 4 true rfl _ (by exact hU.out.row)).mono ?_
            rintro e w' ⟨rfl, rfl⟩
            have HU2 := Lib.hid (hU.out.draw m)
            generalize wr.drewN m = w2 at *
            go_wp2_with fail
            refine (uput_any w.heap.size a 4 s[k] w2 HU2.out.row (by omega)).mono ?_
            rintro e w3 ⟨rfl, hu3, ht3⟩
            rw [HUS.out] at hu3
            rw [HUB.out]
            have HU3 := Lib.hid hu3
            have HB3 := Lib.hid (HU2.out.below.trans (ht3.below HU2.out.below.size (fun i hi => by have : i = w.heap.size := hi; omega)))
            clear hu3 ht3
            go_wp2_with fail
            refine (refDecode_any s w3 (by omega)).mono ?_
            rintro e w' ⟨rfl, m2, rfl⟩
            rw [HDB.out]
            go_wp2_with fail
            refine (wants_any w.heap.size a 4 true rfl _ (by exact HU3.out)).mono ?_
            rintro e w' ⟨rfl, rfl⟩
            have HB4 := Lib.hid (HB3.out.trans ((below_draw m2).mono HB3.out.size))
            generalize w3.drewN m2 = w4 at *
            go_wp2_with fail
            refine (five4_any w4 (HT.out.below HB4.out hgl)).mono ?_
            rintro e w8 ⟨rfl, hb8⟩
            have HB8 := Lib.hid (HB4.out.trans (hb8.mono HB4.out.size))
            clear hb8
            go_wp2_with fail
            go_ret
            exact ⟨rfl, HB8.out⟩
          · have hr : ustep (a, 4) s[k] = some ((a, 0), List.replicate s[k].toNat a) := by unfold ustep; rw [if_pos rfl, if_neg (by omega)]
            have HR := Lib.hid hr
            have hol3 : (List.replicate s[k].toNat a).length ≤ 255 := (ustep_le hn4 s[k] hr).2
            have HEX2 := Lib.hid (show urun (0, 0) (s.extract 0 (k + 1)).data.toList = some ((a, 0), O ++ List.replicate s[k].toNat a) by
              rw [ext_take1, urun_step hlt hU.out.run, hr]; rfl)
            have hzx2 : (s.extract 0 (k + 1)).size ≤ 1000 := by simp [ByteArray.size_extract]; omega
            have hsz : (⟨O.toArray⟩ : ByteArray).size + (⟨(List.replicate s[k].toNat a).toArray⟩ : ByteArray).size ≤ 1000000 := by rw [text_size, text_size]; omega
            have hk1 : (0 : Int) ≤ (k : Int) + 1 := by omega
            have hk2 : (k : Int) + 1 ≤ (s.size : Int) := by omega
            clear hr
            go_wp2_with fail
            refine (wantsRef_any (s.extract 0 k) a 4 O true rfl wr (by omega) HEX.out).mono ?_
            rintro e w' ⟨rfl, m, rfl⟩
            go_wp2_with fail
            refine (wants_any w.heap.size a 4 true rfl _ (by exact hU.out.row)).mono ?_
            rintro e w' ⟨rfl, rfl⟩
            have HU2 := Lib.hid (hU.out.draw m)
            generalize wr.drewN m = w2 at *
            go_wp2_with fail
            refine (uput_run hlt HU2.out (Nat.le_refl _) HR.out).mono ?_
            rintro e w3 ⟨rfl, hu3⟩
            have HU3 := Lib.hid hu3
            clear hu3
            generalize hOUT : (List.replicate s[k].toNat a) = OUT at *
            have HOUT := Lib.hid hOUT
            clear hOUT
            go_wp2_with fail
            refine (told_any (s.extract 0 (k + 1)) _ _ _ w3 (by omega) HEX2.out).mono ?_
            rintro e w' ⟨rfl, m2, rfl⟩
            rw [← text_append]
            have HU4 := Lib.hid (HU3.out.draw m2)
            generalize w3.drewN m2 = w4 at *
            go_wp2_with fail
            go_roundw
            case rel => exact ⟨k + 1, _, _, O ++ OUT, by omega, by go_num, by rw [← text_append], HU4⟩
            case measure => simp [intOf]; omega
        · have hn5 : ((n : Int) == 4) = false := by rw [beq_eq_false_iff_ne]; omega
          have HN5 := Lib.hid hn5
          have hr : ustep (a, n) s[k] = some ((s[k], if s[k] = a then n + 1 else 1), [s[k]]) := by unfold ustep; rw [if_neg hn]
          clear hn5
          have HR := Lib.hid hr
          have hol3 : ([s[k]]).length ≤ 255 := (ustep_le hn4 s[k] hr).2
          have HEX2 := Lib.hid (show urun (0, 0) (s.extract 0 (k + 1)).data.toList = some ((s[k], if s[k] = a then n + 1 else 1), O ++ [s[k]]) by
            rw [ext_take1, urun_step hlt hU.out.run, hr]; rfl)
          have hzx2 : (s.extract 0 (k + 1)).size ≤ 1000 := by simp [ByteArray.size_extract]; omega
          have hsz : (⟨O.toArray⟩ : ByteArray).size + (⟨([s[k]]).toArray⟩ : ByteArray).size ≤ 1000000 := by rw [text_size, text_size]; omega
          have hk1 : (0 : Int) ≤ (k : Int) + 1 := by omega
          have hk2 : (k : Int) + 1 ≤ (s.size : Int) := by omega
          clear hr
          go_wp2_with fail
          refine (wantsRef_any (s.extract 0 k) a n O false HN5.out wr (by omega) HEX.out).mono ?_
          rintro e w' ⟨rfl, m, rfl⟩
          go_wp2_with fail
          refine (wants_any w.heap.size a n false HN5.out _ (by exact hU.out.row)).mono ?_
          rintro e w' ⟨rfl, rfl⟩
          have HU2 := Lib.hid (hU.out.draw m)
          generalize wr.drewN m = w2 at *
          go_wp2_with fail
          refine (uput_run hlt HU2.out (Nat.le_refl _) HR.out).mono ?_
          rintro e w3 ⟨rfl, hu3⟩
          have HU3 := Lib.hid hu3
          clear hu3
          generalize hOUT : ([s[k]]) = OUT at *
          have HOUT := Lib.hid hOUT
          clear hOUT
          go_wp2_with fail
          refine (told_any (s.extract 0 (k + 1)) _ _ _ w3 (by omega) HEX2.out).mono ?_
          rintro e w' ⟨rfl, m2, rfl⟩
          rw [← text_append]
          have HU4 := Lib.hid (HU3.out.draw m2)
          generalize w3.drewN m2 = w4 at *
          go_wp2_with fail
          go_roundw
          case rel => exact ⟨k + 1, _, _, O ++ OUT, by omega, by go_num, by rw [← text_append], HU4⟩
          case measure => simp [intOf]; omega
      · obtain rfl : k = s.size := by omega
        have hfin : s.data.toList.take s.size = s.data.toList := List.take_of_length_le (Nat.le_refl _)
        have hrun := hU.out.run
        rw [hfin] at hrun
        have hd := dec_some hrun
        have HU0 := Lib.hid hU.out.row
        have HB0 := Lib.hid hU.out.below
        clear hrun hfin
        by_cases hn : n = 4
        · subst hn
          rw [if_pos rfl] at hd
          have HD := Lib.hid hd
          clear hd
          go_wp2_with fail
          refine (refDecode_any s wr (by omega)).mono ?_
          rintro e w' ⟨rfl, m, rfl⟩
          rw [HD.out]
          go_wp2_with fail
          refine (uend_bad w.heap.size a _ (by exact HU0.out)).mono ?_
          rintro e w' ⟨rfl, rfl⟩
          have HB9 := Lib.hid (HB0.out.trans ((below_draw m).mono HB0.out.size))
          generalize wr.drewN m = w9 at *
          go_wp2_with fail
          refine (five4_any w9 (HT.out.below HB9.out hgl)).mono ?_
          rintro e w8 ⟨rfl, hb8⟩
          have HB8 := Lib.hid (HB9.out.trans (hb8.mono HB9.out.size))
          clear hb8
          go_wp2_with fail
          go_ret
          exact ⟨rfl, HB8.out⟩
        · rw [if_neg hn] at hd
          have HD := Lib.hid hd
          clear hd
          go_wp2_with fail
          refine (refDecode_any s wr (by omega)).mono ?_
          rintro e w' ⟨rfl, m, rfl⟩
          rw [HD.out]
          go_wp2_with fail
          refine (uend_any w.heap.size a n _ (by exact HU0.out) hn).mono ?_
          rintro e w7 ⟨rfl, hu7, ht7⟩
          have HB9 := Lib.hid ((HB0.out.trans ((below_draw m).mono HB0.out.size)).trans (ht7.below (by exact HB0.out.size) (fun i hi => by have : i = w.heap.size := hi; omega)))
          clear hu7 ht7
          go_wp2_with fail
          refine (five4_any w7 (HT.out.below HB9.out hgl)).mono ?_
          rintro e w8 ⟨rfl, hb8⟩
          have HB8 := Lib.hid (HB9.out.trans (hb8.mono HB9.out.size))
          clear hb8
          go_wp2_with fail
          go_ret
          exact ⟨rfl, HB8.out⟩
end Go.Proofs.YtfaalgogagpimaaDoor
