/-
  LAYER 4's STATEMENTS: FeedPacks.
-/
import Derived.Test.YtfaalgogagpimaaDoorFeedRef
namespace Go.Proofs.YtfaalgogagpimaaDoor
open Go.RowKit RleM
set_option linter.unusedVariables false
theorem ext_take0 (s : ByteArray) (k : Nat) : (s.extract 0 k).data.toList = s.data.toList.take k := by
  rw [ByteArray.data_extract]
  simp [List.extract_eq_take_drop]
theorem pk_on {w w3 wz w9 : World} {pb : Nat} {l : List UInt8} (h : PkSt w w3 pb l) (t : Below w3.heap.size w3 wz) (b : Below wz.drew.heap.size wz.drew w9) : PkSt w w9 pb l := by
  have b2 : Below wz.heap.size wz w9 := ⟨b.os, b.tape, b.output, b.size, b.block⟩
  exact ⟨(h.row.other (Touch.ofBelow (S := fun _ => False) t) (fun h => h)).other (Touch.ofBelow (S := fun _ => False) b2) (fun h => h), h.below.trans ((t.trans (b2.mono t.size)).mono h.below.size)⟩
set_option maxRecDepth 100000 in
set_option maxHeartbeats 4000000 in
theorem feedPacks.walk (s : ByteArray) (w : World) (hT : Sizes w) (w0 : s.size ≤ maxLen) :
    Calls Tryd.prog 8 #[.string s] w fun e w' => e = .returned (.bool true) ∧ Below w.heap.size w w' := by
  unfold maxLen at w0
  have HT := Lib.hid hT
  have hgl := hT.lt
  clear hT
  by_cases hx0 : (600 : Int) < s.size
  · go_enter Tryd.func8, Tryd.ntmps8
    go_wp2_with fail
    refine (five4_any _ HT.out).mono ?_
    rintro e w8 ⟨rfl, hb8⟩
    have H8 := Lib.hid hb8
    clear hb8
    go_wp2_with fail
    go_ret
    exact ⟨rfl, H8.out⟩
  · have hsl : s.data.toList.length = s.size := rfl
    have HSL := Lib.hid hsl
    clear hsl
    go_enter Tryd.func8, Tryd.ntmps8
    go_wp2_with fail
    refine (newPacker_any w).mono ?_
    rintro e w1 ⟨rfl, hp1, hb1⟩
    have HP1 := Lib.hid hp1
    have HB1 := Lib.hid hb1
    clear hp1 hb1
    go_wp2_with fail
    go_loopw [4, 5, 6, 7, 15] (fun t _ _ _ i wr => ∃ (k : Nat) (O : List UInt8), k ≤ s.size ∧ i = .int .i64 k ∧ t = .string ⟨O.toArray⟩ ∧ Hid (O = (prun (0, 0) (s.data.toList.take k)).1) ∧ O.length ≤ 6000 ∧ Hid (PkSt w wr w.heap.size (s.data.toList.take k))) (fun _ _ _ _ i _ => s.size - (intOf i).toNat)
    case atStart => exact ⟨0, [], by omega, rfl, rfl, Lib.hid rfl, by simp, Lib.hid ⟨HP1.out, HB1.out⟩⟩
    case round =>
      obtain ⟨k, O, hk, rfl, rfl, hO, hOl, hS⟩ := hrel
      by_cases hlt : k < s.size
      · obtain ⟨QS, hq⟩ := sure_run s.data.toList (k + 1) (by rw [HSL.out]; omega)
        have HQ := Lib.hid hq
        clear hq
        have hpl := (prun_inv (s.data.toList.take (k + 1)) (0, 0) pinv0).2
        rw [List.length_take] at hpl
        have hpl2 : (prun (0, 0) (s.data.toList.take (k + 1))).1.length ≤ 6000 := by omega
        clear hpl
        by_cases hm : (k : Int) % 7 = 0
        · have hc1 : (((k : Int) % 7) == 0) = true := by rw [beq_iff_eq]; exact hm
          clear hm
          go_wp2_with fail
          refine (pput_run hlt hS.out HT.out (Nat.le_refl _)).mono ?_
          rintro e w2 ⟨A, rfl, hA, hAe, hS2⟩
          have HA := Lib.hid hAe
          have HS2 := Lib.hid hS2
          have hsz : (⟨O.toArray⟩ : ByteArray).size + (⟨A.toArray⟩ : ByteArray).size ≤ 100000 := by rw [text_size, text_size]; omega
          have HOA := Lib.hid (show O ++ A = (prun (0, 0) (s.data.toList.take (k + 1))).1 by rw [HA.out, hO.out])
          have hol2 : (O ++ A).length ≤ 6000 := by rw [HOA.out]; exact hpl2
          clear hAe hS2
          have hk1 : (0 : Int) ≤ (k : Int) + 1 := by omega
          have hk2 : (k : Int) + 1 ≤ (s.size : Int) := by omega
          go_wp2_with fail
          refine (sure_any (s.extract 0 (k + 1)) _ _ _ QS w2 (by simp [ByteArray.size_extract]; omega) (by rw [ext_take0]; exact HQ.out)).mono ?_
          rintro e w3 ⟨rfl, hb3⟩
          rw [← HOA.out, ← text_append]
          have hrow := HS2.out.row
          have HP3 := Lib.hid (hrow.other (Touch.ofBelow (S := fun _ => False) hb3) (fun h => h))
          have HB3 := Lib.hid (HS2.out.below.trans (hb3.mono HS2.out.below.size))
          clear hb3 hrow
          have HRO : Hid (PkSt w w3 w.heap.size (s.data.toList.take (k + 1))) := Lib.hid ⟨HP3.out, HB3.out⟩
          generalize (prun (0, 0) (s.data.toList.take (k + 1))).2.1 = pc at *
          generalize (prun (0, 0) (s.data.toList.take (k + 1))).2.2 = pn at *
          have e0 : (w3.alloc (.cells #[.int .u8 (pc.toNat : Int), .int .i64 (pn : Int)] 23)).cell? ⟨w3.heap.size, 0, none⟩ = some (.int .u8 (pc.toNat : Int)) := by rw [cell_of_row _ _ _ _ _ _ (heap_alloc_new w3 _)]; rfl
          have e1 : (w3.alloc (.cells #[.int .u8 (pc.toNat : Int), .int .i64 (pn : Int)] 23)).cell? ⟨w3.heap.size, 1, none⟩ = some (.int .i64 (pn : Int)) := by rw [cell_of_row _ _ _ _ _ _ (heap_alloc_new w3 _)]; rfl
          have hlt4 : w3.heap.size < (w3.alloc (.cells #[.int .u8 (pc.toNat : Int), .int .i64 (pn : Int)] 23)).heap.size := by simp
          have HP4 := Lib.hid (HP3.out.other ((Touch.refl (fun _ => False) _).alloc (.cells #[.int .u8 (pc.toNat : Int), .int .i64 (pn : Int)] 23)) (fun h => h))
          have HB4 := Lib.hid ((Below.refl w3.heap.size w3).alloc (Nat.le_refl _) (.cells #[.int .u8 (pc.toNat : Int), .int .i64 (pn : Int)] 23))
          go_wp2_with fail
          generalize w3.alloc (.cells #[.int .u8 (pc.toNat : Int), .int .i64 (pn : Int)] 23) = wz at *
          go_region_with (first | (go_at_call 28; refine (prow_any w.heap.size pc pn _ (by exact HP4.out)).mono ?_; rintro e w9 ⟨rfl, hb9⟩; have k0 : w9.cell? ⟨w3.heap.size, 0, none⟩ = some (.int .u8 (pc.toNat : Int)) := (hb9.cell (p := ⟨w3.heap.size, 0, none⟩) hlt4).trans e0; have k1 : w9.cell? ⟨w3.heap.size, 1, none⟩ = some (.int .i64 (pn : Int)) := (hb9.cell (p := ⟨w3.heap.size, 1, none⟩) hlt4).trans e1; have HB9 := Lib.hid hb9; clear hb9))
          all_goals
            go_wp2_with fail
            go_roundw
            case rel => exact ⟨k + 1, O ++ A, by omega, by go_num, by rw [← text_append], HOA, hol2, Lib.hid (pk_on HRO.out HB4.out HB9.out)⟩
            case measure => simp [intOf]; omega
        · have hc1 : (((k : Int) % 7) == 0) = false := by rw [beq_eq_false_iff_ne]; exact hm
          clear hm
          by_cases he : k + 1 = s.size
          · have hc2 : (((k : Int) + 1) == (s.size : Int)) = true := by rw [beq_iff_eq]; omega
            have hc3 : (k + 1 == s.size) = true := by rw [beq_iff_eq]; exact he
            clear he
            go_wp2_with fail
            refine (pput_run hlt hS.out HT.out (Nat.le_refl _)).mono ?_
            rintro e w2 ⟨A, rfl, hA, hAe, hS2⟩
            have HA := Lib.hid hAe
            have HS2 := Lib.hid hS2
            have hsz : (⟨O.toArray⟩ : ByteArray).size + (⟨A.toArray⟩ : ByteArray).size ≤ 100000 := by rw [text_size, text_size]; omega
            have HOA := Lib.hid (show O ++ A = (prun (0, 0) (s.data.toList.take (k + 1))).1 by rw [HA.out, hO.out])
            have hol2 : (O ++ A).length ≤ 6000 := by rw [HOA.out]; exact hpl2
            clear hAe hS2
            have hk1 : (0 : Int) ≤ (k : Int) + 1 := by omega
            have hk2 : (k : Int) + 1 ≤ (s.size : Int) := by omega
            go_wp2_with fail
            refine (sure_any (s.extract 0 (k + 1)) _ _ _ QS w2 (by simp [ByteArray.size_extract]; omega) (by rw [ext_take0]; exact HQ.out)).mono ?_
            rintro e w3 ⟨rfl, hb3⟩
            rw [← HOA.out, ← text_append]
            have hrow := HS2.out.row
            have HP3 := Lib.hid (hrow.other (Touch.ofBelow (S := fun _ => False) hb3) (fun h => h))
            have HB3 := Lib.hid (HS2.out.below.trans (hb3.mono HS2.out.below.size))
            clear hb3 hrow
            have HRO : Hid (PkSt w w3 w.heap.size (s.data.toList.take (k + 1))) := Lib.hid ⟨HP3.out, HB3.out⟩
            generalize (prun (0, 0) (s.data.toList.take (k + 1))).2.1 = pc at *
            generalize (prun (0, 0) (s.data.toList.take (k + 1))).2.2 = pn at *
            have e0 : (w3.alloc (.cells #[.int .u8 (pc.toNat : Int), .int .i64 (pn : Int)] 23)).cell? ⟨w3.heap.size, 0, none⟩ = some (.int .u8 (pc.toNat : Int)) := by rw [cell_of_row _ _ _ _ _ _ (heap_alloc_new w3 _)]; rfl
            have e1 : (w3.alloc (.cells #[.int .u8 (pc.toNat : Int), .int .i64 (pn : Int)] 23)).cell? ⟨w3.heap.size, 1, none⟩ = some (.int .i64 (pn : Int)) := by rw [cell_of_row _ _ _ _ _ _ (heap_alloc_new w3 _)]; rfl
            have hlt4 : w3.heap.size < (w3.alloc (.cells #[.int .u8 (pc.toNat : Int), .int .i64 (pn : Int)] 23)).heap.size := by simp
            have HP4 := Lib.hid (HP3.out.other ((Touch.refl (fun _ => False) _).alloc (.cells #[.int .u8 (pc.toNat : Int), .int .i64 (pn : Int)] 23)) (fun h => h))
            have HB4 := Lib.hid ((Below.refl w3.heap.size w3).alloc (Nat.le_refl _) (.cells #[.int .u8 (pc.toNat : Int), .int .i64 (pn : Int)] 23))
            go_wp2_with fail
            generalize w3.alloc (.cells #[.int .u8 (pc.toNat : Int), .int .i64 (pn : Int)] 23) = wz at *
            go_region_with (first | (go_at_call 28; refine (prow_any w.heap.size pc pn _ (by exact HP4.out)).mono ?_; rintro e w9 ⟨rfl, hb9⟩; have k0 : w9.cell? ⟨w3.heap.size, 0, none⟩ = some (.int .u8 (pc.toNat : Int)) := (hb9.cell (p := ⟨w3.heap.size, 0, none⟩) hlt4).trans e0; have k1 : w9.cell? ⟨w3.heap.size, 1, none⟩ = some (.int .i64 (pn : Int)) := (hb9.cell (p := ⟨w3.heap.size, 1, none⟩) hlt4).trans e1; have HB9 := Lib.hid hb9; clear hb9))
            all_goals
              go_wp2_with fail
              go_roundw
              case rel => exact ⟨k + 1, O ++ A, by omega, by go_num, by rw [← text_append], HOA, hol2, Lib.hid (pk_on HRO.out HB4.out HB9.out)⟩
              case measure => simp [intOf]; omega
          · have hc2 : (((k : Int) + 1) == (s.size : Int)) = false := by rw [beq_eq_false_iff_ne]; omega
            have hc3 : (k + 1 == s.size) = false := by rw [beq_eq_false_iff_ne]; exact he
            clear he
            go_wp2_with fail
            refine (pput_run hlt hS.out HT.out (Nat.le_refl _)).mono ?_
            rintro e w2 ⟨A, rfl, hA, hAe, hS2⟩
            have HA := Lib.hid hAe
            have HS2 := Lib.hid hS2
            have hsz : (⟨O.toArray⟩ : ByteArray).size + (⟨A.toArray⟩ : ByteArray).size ≤ 100000 := by rw [text_size, text_size]; omega
            have HOA := Lib.hid (show O ++ A = (prun (0, 0) (s.data.toList.take (k + 1))).1 by rw [HA.out, hO.out])
            have hol2 : (O ++ A).length ≤ 6000 := by rw [HOA.out]; exact hpl2
            clear hAe hS2
            go_wp2_with fail
            go_roundw
            case rel => exact ⟨k + 1, O ++ A, by omega, by go_num, by rw [← text_append], HOA, hol2, HS2⟩
            case measure => simp [intOf]; omega
      · obtain rfl : k = s.size := by omega
        have hfin : s.data.toList.take s.size = s.data.toList := List.take_of_length_le (Nat.le_refl _)
        have hrow := hS.out.row
        have HBW := Lib.hid hS.out.below
        obtain ⟨hi1, hi2⟩ := prun_inv s.data.toList (0, 0) pinv0
        have hse := sure_encode s.data.toList
        have hO2 := hO.out
        rw [hfin] at hrow hO2
        rw [← hO2] at hse
        have HI0 := Lib.hid hi1.zero
        have hi254 := hi1.le
        clear hi1 hi2 hfin hO2
        generalize (prun (0, 0) s.data.toList).2.1 = pc at *
        generalize (prun (0, 0) s.data.toList).2.2 = pn at *
        have HROW := Lib.hid hrow
        have HSE := Lib.hid hse
        have hpr := packR_le pc pn
        have hsz : (⟨O.toArray⟩ : ByteArray).size + (⟨(packR pc pn).toArray⟩ : ByteArray).size ≤ 10000 := by rw [text_size, text_size]; omega
        clear hrow hse
        go_wp2_with fail
        refine (pend_any w.heap.size pc pn wr HROW.out (HT.out.below HBW.out hgl) (by omega) HI0.out (by omega)).mono ?_
        rintro e w3 ⟨rfl, hp3, ht3⟩
        have HP3 := Lib.hid hp3
        have HB3 := Lib.hid (HBW.out.trans (ht3.below HBW.out.size (fun i hi => by have : i = w.heap.size := hi; omega)))
        clear hp3 ht3
        go_wp2_with fail
        refine (refEncode_any s w3 (by omega)).mono ?_
        rintro e w4 ⟨rfl, hb4⟩
        rw [← HSE.out, ← text_append]
        have HP4 := Lib.hid (HP3.out.other (Touch.ofBelow (S := fun _ => False) hb4) (fun h => h))
        have HB4 := Lib.hid (HB3.out.trans (hb4.mono HB3.out.size))
        clear hb4
        go_wp2_with fail
        refine (prow_any w.heap.size 0 0 w4 HP4.out).mono ?_
        rintro e w5 ⟨rfl, hb5⟩
        have HP5 := Lib.hid (HP4.out.other (Touch.ofBelow (S := fun _ => False) hb5) (fun h => h))
        have HB5 := Lib.hid (HB4.out.trans (hb5.mono HB4.out.size))
        clear hb5
        go_wp2_with fail
        refine (pend_any w.heap.size 0 0 w5 HP5.out (HT.out.below HB5.out hgl) (by omega) (fun _ => rfl) (by omega)).mono ?_
        rintro e w6 ⟨rfl, hp6, ht6⟩
        have HB6 := Lib.hid (HB5.out.trans (ht6.below HB5.out.size (fun i hi => by have : i = w.heap.size := hi; omega)))
        have hpn0 : packR 0 0 = [] := rfl
        rw [hpn0]
        clear hp6 ht6
        go_wp2_with fail
        refine (five4_any w6 (HT.out.below HB6.out hgl)).mono ?_
        rintro e w7 ⟨rfl, hb7⟩
        have HB7 := Lib.hid (HB6.out.trans (hb7.mono HB6.out.size))
        clear hb7
        go_wp2_with fail
        go_ret
        exact ⟨rfl, HB7.out⟩
end Go.Proofs.YtfaalgogagpimaaDoor
