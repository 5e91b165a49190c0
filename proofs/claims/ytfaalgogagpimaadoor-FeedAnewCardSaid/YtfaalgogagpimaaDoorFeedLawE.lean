/-
  LAYER 4's STATEMENTS: FeedAnew.
-/
import Derived.Test.YtfaalgogagpimaaDoorFeedLawA
import Derived.Test.YtfaalgogagpimaaDoorRleRefB
namespace Go.Proofs.YtfaalgogagpimaaDoor
open Go.RowKit RleM
set_option linter.unusedVariables false
/-- An unpacker's state, errors passed over. -/
def ufrom (x : UInt8) (l : List UInt8) : UInt8 × Nat := l.foldl (fun st y => ust st.1 st.2 y) (x, 0)
theorem ust_le {a : UInt8} {n : Nat} (h : n ≤ 4) (x : UInt8) : (ust a n x).2 ≤ 4 ∧ (uout a n x).1.length ≤ 255 ∧ (uout a n x).2 ≤ 25 := by
  unfold ust uout
  cases hr : ustep (a, n) x with
  | none => exact ⟨h, by simp, by simp⟩
  | some r => exact ⟨(ustep_le h x hr).1, (ustep_le h x hr).2, by simp⟩
theorem ufrom_snoc (x : UInt8) (l : List UInt8) (y : UInt8) : ufrom x (l ++ [y]) = ust (ufrom x l).1 (ufrom x l).2 y := by simp [ufrom]
theorem ufrom_le (x : UInt8) : ∀ l : List UInt8, (ufrom x l).2 ≤ 4 := by
  have h : ∀ (l : List UInt8) (st : UInt8 × Nat), st.2 ≤ 4 → (l.foldl (fun st y => ust st.1 st.2 y) st).2 ≤ 4 := by
    intro l
    induction l with
    | nil => intro st h; exact h
    | cons y l ih => intro st h; exact ih _ (ust_le h y).1
  exact fun l => h l _ (Nat.zero_le _)
theorem ust_zero (x y : UInt8) : ust x 0 y = (y, 1) ∧ uout x 0 y = ([y], 0) := by
  have : ustep (x, 0) y = some ((y, 1), [y]) := by unfold ustep; simp
  exact ⟨(uout_some this).2, (uout_some this).1⟩
theorem ufrom_same (x : UInt8) : ∀ l : List UInt8, l ≠ [] → ufrom x l = ufrom 0 l
  | [], h => absurd rfl h
  | y :: l, _ => by
    unfold ufrom
    simp only [List.foldl_cons]
    rw [(ust_zero x y).1, (ust_zero 0 y).1]
theorem uout_same (x : UInt8) (l : List UInt8) (y : UInt8) : uout (ufrom x l).1 (ufrom x l).2 y = uout (ufrom 0 l).1 (ufrom 0 l).2 y := by
  cases l with
  | nil => exact (ust_zero x y).2.trans (ust_zero 0 y).2.symm
  | cons z l => rw [ufrom_same x (z :: l) (by simp)]
/-- What the last byte told. -/
def vout (s : ByteArray) : Nat → List UInt8 × Nat
  | 0 => ([], 0)
  | j + 1 => uout (ufrom 0 (s.data.toList.take j)).1 (ufrom 0 (s.data.toList.take j)).2 (s.data.toList.getD j 0)
theorem getD_at {s : ByteArray} {k : Nat} (hk : k < s.size) : s.data.toList.getD k 0 = s[k] := by
  have h := byte_at (s := s) rfl hk
  simp [List.getD, h]
theorem take_at {s : ByteArray} {k : Nat} (hk : k < s.size) : s.data.toList.take (k + 1) = s.data.toList.take k ++ [s[k]] := by
  rw [List.take_add_one, byte_at (s := s) rfl hk]; rfl
theorem below_on {w wr w' : World} {b : Nat} (h : Below w.heap.size w wr) (t : Touch (· = b) wr w') (hb : w.heap.size ≤ b) : Below w.heap.size w w' :=
  h.trans (t.below h.size (fun i hi => by have : i = b := hi; omega))
set_option maxRecDepth 100000 in
set_option maxHeartbeats 8000000 in
theorem feedAnew.walk (a b : ByteArray) (w : World) (hT : Sizes w) (w0 : a.size ≤ maxLen) (w1 : b.size ≤ maxLen) :
    Calls Tryd.prog 11 #[.string a, .string b] w fun e w' => e = .returned (.bool true) ∧ Below w.heap.size w w' := by
  unfold maxLen at w0 w1
  have HT := Lib.hid hT
  have hgl := hT.lt
  clear hT
  by_cases hx0 : (60 : Int) < a.size
  · go_enter Tryd.func11, Tryd.ntmps11
    go_wp2_with fail
    refine (five4_any _ HT.out).mono ?_
    rintro e w8 ⟨rfl, hb8⟩
    have H8 := Lib.hid hb8
    clear hb8
    go_wp2_with fail
    go_ret
    exact ⟨rfl, H8.out⟩
  by_cases hx1 : (60 : Int) < b.size
  · go_enter Tryd.func11, Tryd.ntmps11
    go_wp2_with fail
    refine (five4_any _ HT.out).mono ?_
    rintro e w8 ⟨rfl, hb8⟩
    have H8 := Lib.hid hb8
    clear hb8
    go_wp2_with fail
    go_ret
    exact ⟨rfl, H8.out⟩
  have hsl : b.data.toList.length = b.size := rfl
  have HSL := Lib.hid hsl
  clear hsl
  go_enter Tryd.func11, Tryd.ntmps11
  go_wp2_with fail
  refine (newPacker_any w).mono ?_
  rintro e w1 ⟨rfl, hp1, hb1⟩
  have HP1 := Lib.hid hp1
  have HB1 := Lib.hid hb1
  clear hp1 hb1
  go_wp2_with fail
  go_loopw [6, 30] (fun _ i wr => ∃ k : Nat, k ≤ a.size ∧ i = .int .i64 k ∧ Hid (PkSt w wr w.heap.size (a.data.toList.take k))) (fun _ i _ => a.size - (intOf i).toNat)
  case atStart => exact ⟨0, by omega, rfl, Lib.hid ⟨HP1.out, HB1.out⟩⟩
  case round =>
    obtain ⟨k, hk, rfl, hS⟩ := hrel
    by_cases hlt : k < a.size
    · go_wp2_with fail
      refine (pput_run hlt hS.out HT.out (Nat.le_refl _)).mono ?_
      rintro e w2 ⟨A, rfl, _, _, hS2⟩
      have HS2 := Lib.hid hS2
      clear hS2
      go_wp2_with fail
      go_roundw
      case rel => exact ⟨k + 1, by omega, by go_num, HS2⟩
      case measure => simp [intOf]; omega
    · obtain rfl : k = a.size := by omega
      obtain ⟨hi1, _⟩ := prun_inv (a.data.toList.take a.size) (0, 0) pinv0
      have hrow := hS.out.row
      have HB2 := Lib.hid hS.out.below
      generalize prun (0, 0) (a.data.toList.take a.size) = pr at *
      have HROW := Lib.hid hrow
      have HI := Lib.hid hi1
      have hi254 := hi1.le
      clear hrow hS hi1
      go_wp2_with fail
      refine (pend_any w.heap.size pr.2.1 pr.2.2 wr HROW.out (HT.out.below HB2.out hgl) (by omega) HI.out.zero (by omega)).mono ?_
      rintro e w3 ⟨rfl, hp3, ht3⟩
      have HP3 := Lib.hid hp3
      have HB3 := Lib.hid (below_on HB2.out ht3 (Nat.le_refl _))
      clear hp3 ht3 hi254
      go_wp2_with fail
      go_loopw [7, 8, 43] (fun t _ i wr => ∃ (k : Nat) (O : List UInt8), k ≤ b.size ∧ i = .int .i64 k ∧ t = .string ⟨O.toArray⟩ ∧ Hid (O = (prun (0, 0) (b.data.toList.take k)).1) ∧ O.length ≤ 600 ∧ Hid (PkSt w wr w.heap.size (b.data.toList.take k))) (fun _ _ i _ => b.size - (intOf i).toNat)
      case atStart => exact ⟨0, [], by omega, rfl, rfl, Lib.hid rfl, by simp, Lib.hid ⟨HP3.out, HB3.out⟩⟩
      case round =>
        obtain ⟨k, O, hk, rfl, rfl, hO, hOl, hS⟩ := hrel
        by_cases hlt : k < b.size
        · have hpl := (prun_inv (b.data.toList.take (k + 1)) (0, 0) pinv0).2
          rw [List.length_take] at hpl
          have hpl2 : (prun (0, 0) (b.data.toList.take (k + 1))).1.length ≤ 600 := by omega
          clear hpl
          go_wp2_with fail
          refine (pput_run hlt hS.out HT.out (Nat.le_refl _)).mono ?_
          rintro e w2 ⟨A, rfl, hA, hAe, hS2⟩
          have HS2 := Lib.hid hS2
          have HOA := Lib.hid (show O ++ A = (prun (0, 0) (b.data.toList.take (k + 1))).1 by rw [hAe, hO.out])
          have hsz : (⟨O.toArray⟩ : ByteArray).size + (⟨A.toArray⟩ : ByteArray).size ≤ 100000 := by rw [text_size, text_size]; omega
          have hol2 : (O ++ A).length ≤ 600 := by rw [HOA.out]; exact hpl2
          clear hS2 hAe
          go_wp2_with fail
          go_roundw
          case rel => exact ⟨k + 1, O ++ A, by omega, by go_num, by rw [← text_append], HOA, hol2, HS2⟩
          case measure => simp [intOf]; omega
        · obtain rfl : k = b.size := by omega
          have hfin : b.data.toList.take b.size = b.data.toList := List.take_of_length_le (Nat.le_refl _)
          obtain ⟨hi1, _⟩ := prun_inv b.data.toList (0, 0) pinv0
          have hse := sure_encode b.data.toList
          have hrow := hS.out.row
          have hO2 := hO.out
          rw [hfin] at hrow hO2
          rw [← hO2] at hse
          have HB4 := Lib.hid hS.out.below
          clear hfin hO2
          generalize (prun (0, 0) b.data.toList).2 = st at *
          have HROW4 := Lib.hid hrow
          have HI4 := Lib.hid hi1
          have hi254 := hi1.le
          have HSE := Lib.hid hse
          have hpr := packR_le st.1 st.2
          have hsz : (⟨O.toArray⟩ : ByteArray).size + (⟨(packR st.1 st.2).toArray⟩ : ByteArray).size ≤ 10000 := by rw [text_size, text_size]; omega
          clear hrow hS hi1 hse
          go_wp2_with fail
          refine (pend_any w.heap.size st.1 st.2 wr HROW4.out (HT.out.below HB4.out hgl) (by omega) HI4.out.zero (by omega)).mono ?_
          rintro e w5 ⟨rfl, hp5, ht5⟩
          have HB5 := Lib.hid (below_on HB4.out ht5 (Nat.le_refl _))
          clear hp5 ht5 hi254
          go_wp2_with fail
          rw [text_append, HSE.out]
          clear hsz hpr
          refine (newUnp_any w5).mono ?_
          rintro e w6 ⟨rfl, hu6, hb6⟩
          have HU6 := Lib.hid hu6
          have HB6 := Lib.hid (HB5.out.trans (hb6.mono HB5.out.size))
          have hub : w.heap.size ≤ w5.heap.size := HB5.out.size
          clear hu6 hb6
          generalize w5.heap.size = ub at *
          go_wp2_with fail
          go_loopw [10, 61] (fun _ i wr => ∃ k : Nat, k ≤ a.size ∧ i = .int .i64 k ∧ Hid (IsUnp wr ub (ufrom 0 (a.data.toList.take k)).1 (ufrom 0 (a.data.toList.take k)).2) ∧ Hid (Below w.heap.size w wr)) (fun _ i _ => a.size - (intOf i).toNat)
          case atStart => exact ⟨0, by omega, rfl, HU6, HB6⟩
          case round =>
            obtain ⟨k, hk, rfl, hU, hB⟩ := hrel
            by_cases hlt : k < a.size
            · have hle := ufrom_le 0 (a.data.toList.take k)
              have HTA := Lib.hid (ufrom_snoc 0 (a.data.toList.take k) a[k])
              go_wp2_with fail
              refine (uput_any ub _ _ a[k] wr hU.out hle).mono ?_
              rintro e w7 ⟨rfl, hu7, ht7⟩
              have HU7 := Lib.hid (show IsUnp w7 ub (ufrom 0 (a.data.toList.take (k + 1))).1 (ufrom 0 (a.data.toList.take (k + 1))).2 by rw [take_at hlt, HTA.out]; exact hu7)
              have HB7 := Lib.hid (below_on hB.out ht7 hub)
              clear hu7 ht7
              go_wp2_with fail
              go_roundw
              case rel => exact ⟨k + 1, by omega, by go_num, HU7, HB7⟩
              case measure => simp [intOf]; omega
            · obtain rfl : k = a.size := by omega
              have hle := ufrom_le 0 (a.data.toList.take a.size)
              generalize ufrom 0 (a.data.toList.take a.size) = us at *
              obtain ⟨x, n⟩ := us
              simp only at hle hU
              by_cases hn : n = 4
              · subst hn
                go_wp2_with fail
                refine (uend_bad ub x wr hU.out).mono ?_
                rintro e w' ⟨rfl, rfl⟩
                go_wp2_with fail
                refine (refEncode_any b wr (by omega)).mono ?_
                rintro e wf1 ⟨rfl, hf1⟩
                have HF1 := Lib.hid (hB.out.trans (hf1.mono hB.out.size))
                clear hf1
                go_wp2_with fail
                refine (five4_any wf1 (HT.out.below HF1.out hgl)).mono ?_
                rintro e wf2 ⟨rfl, hf2⟩
                have HF2 := Lib.hid (HF1.out.trans (hf2.mono HF1.out.size))
                clear hf2
                go_wp2_with fail
                go_ret
                exact ⟨rfl, HF2.out⟩
              · go_wp2_with fail
                refine (uend_any ub x n wr hU.out hn).mono ?_
                rintro e w7 ⟨rfl, hu7, ht7⟩
                have HU7 := Lib.hid hu7
                have HB7 := Lib.hid (below_on hB.out ht7 hub)
                clear hu7 ht7
                go_wp2_with fail
                go_loopw [11, 12, 13, 14, 15, 16, 17, 82, 96] (fun _ _ _ _ _ _ _ i _ wr => ∃ k : Nat, k ≤ b.size ∧ i = .int .i64 k ∧ Hid (IsUnp wr ub (ufrom x (b.data.toList.take k)).1 (ufrom x (b.data.toList.take k)).2) ∧ Hid (Below w.heap.size w wr)) (fun _ _ _ _ _ _ _ i _ _ => b.size - (intOf i).toNat)
                case atStart => exact ⟨0, by omega, rfl, HU7, HB7⟩
                case round =>
                  obtain ⟨k, hk, rfl, hU, hB⟩ := hrel
                  by_cases hlt : k < b.size
                  · have hle := ufrom_le x (b.data.toList.take k)
                    have HTA := Lib.hid (ufrom_snoc x (b.data.toList.take k) b[k])
                    have HSM := Lib.hid (uout_same x (b.data.toList.take k) b[k])
                    have HVO := Lib.hid (show vout b (k + 1) = uout (ufrom 0 (b.data.toList.take k)).1 (ufrom 0 (b.data.toList.take k)).2 b[k] by show uout _ _ (b.data.toList.getD k 0) = _; rw [getD_at hlt])
                    go_wp2_with fail
                    refine (uput_any ub _ _ b[k] wr hU.out hle).mono ?_
                    rintro e w8 ⟨rfl, hu8, ht8⟩
                    rw [HSM.out, ← HVO.out]
                    have HU8 := Lib.hid (show IsUnp w8 ub (ufrom x (b.data.toList.take (k + 1))).1 (ufrom x (b.data.toList.take (k + 1))).2 by rw [take_at hlt, HTA.out]; exact hu8)
                    have HB8 := Lib.hid (below_on hB.out ht8 hub)
                    have hul := hu8.lt
                    clear hu8 ht8
                    generalize hVX : (vout b (k + 1)).1 = VX at *
                    generalize hVE : (vout b (k + 1)).2 = VE at *
                    have HVX := Lib.hid hVX
                    have HVE := Lib.hid hVE
                    clear hVX hVE
                    go_wp2_with fail
                    refine (newUnp_any w8).mono ?_
                    rintro e w9 ⟨rfl, hu9, hb9⟩
                    have HV9 := Lib.hid hu9
                    have HU9 := Lib.hid (HU8.out.other (Touch.ofBelow (S := fun _ => False) hb9) (fun h => h))
                    have HB9 := Lib.hid (HB8.out.trans (hb9.mono HB8.out.size))
                    have hvb : w.heap.size ≤ w8.heap.size := HB8.out.size
                    clear hu9 hb9
                    generalize w8.heap.size = vb at *
                    go_wp2_with fail
                    go_loopw [15, 16, 17, 96] (fun t f _ i wr => ∃ j : Nat, j ≤ k + 1 ∧ i = .int .i64 j ∧ t = .string ⟨(vout b j).1.toArray⟩ ∧ f = .int .i64 ((vout b j).2 : Int) ∧ Hid (IsUnp wr vb (ufrom 0 (b.data.toList.take j)).1 (ufrom 0 (b.data.toList.take j)).2) ∧ Hid (IsUnp wr ub (ufrom x (b.data.toList.take (k + 1))).1 (ufrom x (b.data.toList.take (k + 1))).2) ∧ Hid (Below w.heap.size w wr)) (fun _ _ _ i _ => k + 1 - (intOf i).toNat)
                    case atStart => exact ⟨0, by omega, rfl, rfl, rfl, HV9, HU9, HB9⟩
                    case round =>
                      obtain ⟨j, hj, rfl, rfl, rfl, hV, hU2, hB2⟩ := hrel
                      by_cases hjl : j < k + 1
                      · have hjb : j < b.size := by omega
                        have hle2 := ufrom_le 0 (b.data.toList.take j)
                        have HTB := Lib.hid (ufrom_snoc 0 (b.data.toList.take j) b[j])
                        have HVJ := Lib.hid (show vout b (j + 1) = uout (ufrom 0 (b.data.toList.take j)).1 (ufrom 0 (b.data.toList.take j)).2 b[j] by show uout _ _ (b.data.toList.getD j 0) = _; rw [getD_at hjb])
                        generalize (vout b j).1 = V1 at *
                        generalize (vout b j).2 = V2 at *
                        go_wp2_with fail
                        refine (uput_any vb _ _ b[j] wr hV.out hle2).mono ?_
                        rintro e w10 ⟨rfl, hu10, ht10⟩
                        rw [← HVJ.out]
                        have HV10 := Lib.hid (show IsUnp w10 vb (ufrom 0 (b.data.toList.take (j + 1))).1 (ufrom 0 (b.data.toList.take (j + 1))).2 by rw [take_at hjb, HTB.out]; exact hu10)
                        have HU10 := Lib.hid (hU2.out.other ht10 (by omega))
                        have HB10 := Lib.hid (below_on hB2.out ht10 hvb)
                        clear hu10 ht10
                        go_wp2_with fail
                        go_roundw
                        case rel => exact ⟨j + 1, by omega, by go_num, rfl, rfl, HV10, HU10, HB10⟩
                        case measure => simp [intOf]; omega
                      · obtain rfl : j = k + 1 := by omega
                        rw [HVX.out, HVE.out]
                        by_cases hve : VE = 0
                        · subst hve
                          go_wp2_with fail
                          go_roundw
                          case rel => exact ⟨k + 1, by omega, by go_num, hU2, hB2⟩
                          case measure => simp [intOf]; omega
                        · have hve2 : ((VE : Int) != 0) = true := by simpa using hve
                          go_wp2_with fail
                          refine (refEncode_any b wr (by omega)).mono ?_
                          rintro e wf1 ⟨rfl, hf1⟩
                          have HF1 := Lib.hid (hB2.out.trans (hf1.mono hB2.out.size))
                          clear hf1
                          go_wp2_with fail
                          refine (five4_any wf1 (HT.out.below HF1.out hgl)).mono ?_
                          rintro e wf2 ⟨rfl, hf2⟩
                          have HF2 := Lib.hid (HF1.out.trans (hf2.mono HF1.out.size))
                          clear hf2
                          go_wp2_with fail
                          go_ret
                          exact ⟨rfl, HF2.out⟩
                  · obtain rfl : k = b.size := by omega
                    go_wp2_with fail
                    refine (refEncode_any b wr (by omega)).mono ?_
                    rintro e wf1 ⟨rfl, hf1⟩
                    have HF1 := Lib.hid (hB.out.trans (hf1.mono hB.out.size))
                    clear hf1
                    go_wp2_with fail
                    refine (five4_any wf1 (HT.out.below HF1.out hgl)).mono ?_
                    rintro e wf2 ⟨rfl, hf2⟩
                    have HF2 := Lib.hid (HF1.out.trans (hf2.mono HF1.out.size))
                    clear hf2
                    go_wp2_with fail
                    go_ret
                    exact ⟨rfl, HF2.out⟩
end Go.Proofs.YtfaalgogagpimaaDoor
