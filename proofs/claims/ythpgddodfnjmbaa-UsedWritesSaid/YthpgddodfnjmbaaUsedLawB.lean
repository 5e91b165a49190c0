/-
  LAYER 5's STATEMENTS: UsedWrites.
-/
import Derived.Test.YthpgddodfnjmbaaUsedLawA
namespace Go.Proofs.Ythpgddodfnjmbaa
open Go.RowKit BitM UsedM
set_option linter.unusedVariables false
set_option maxHeartbeats 1000000 in
theorem pack_any (q : List Bool) (w : World) (hq : q.length ≤ 1000000) : Calls Try.prog 30 #[.string (txt q)] w fun e w' => e = .returned (.string ⟨(byts (q ++ padding q)).toArray⟩) ∧ Below w.heap.size w w' := by
  have HP := Lib.hid (fun w => padded_any q w (by omega))
  have hpl : (q ++ padding q).length ≤ 1000008 := by
    unfold padding
    rw [List.length_append, field_length]; omega
  have HB := Lib.hid (fun w => bytes_any (q ++ padding q) w (by omega))
  generalize txt (q ++ padding q) = T at *
  generalize (⟨(byts (q ++ padding q)).toArray⟩ : ByteArray) = R at *
  generalize txt q = T0 at *
  go_enter Try.func30, Try.ntmps30
  go_wp2_with fail
  refine (HP.out w).mono ?_
  rintro e w' ⟨rfl, rfl⟩
  go_wp2_with fail
  refine (HB.out w).mono ?_
  rintro e w1 ⟨rfl, hb⟩
  have HBB := Lib.hid hb
  clear hb
  go_wp2_with fail
  go_ret
  exact ⟨rfl, HBB.out⟩
set_option maxRecDepth 100000 in
set_option maxHeartbeats 1000000 in
theorem usedWrites.far (s : ByteArray) (v n : Int) (w : World) (h : 300 < s.size ∨ (s.size ≤ 300 ∧ ∀ w, Calls Try.prog 22 #[.int .u32 v, .int .i64 n] w fun e w' => e = .returned (.bool false) ∧ w = w')) :
    Calls Try.prog 4 #[.string s, .int .u32 v, .int .i64 n] w fun e w' => e = .returned (.bool true) ∧ Below w.heap.size w w' := by
  rcases h with h | ⟨h, hf⟩
  · have hlt : (300 : Int) < (s.size : Int) := by omega
    go_enter Try.func4, Try.ntmps4
    go_wp2_with fail
    refine (letter_any w).mono ?_
    rintro e w7 ⟨rfl, hb⟩
    have B7 := Lib.hid hb
    clear hb
    go_wp2_with fail
    go_ret
    exact ⟨rfl, B7.out⟩
  · have hlt : ((s.size : Int)) ≤ 300 := by omega
    have HF := Lib.hid hf
    clear hf
    go_enter Try.func4, Try.ntmps4
    go_wp2_with fail
    refine (HF.out w).mono ?_
    rintro e w' ⟨rfl, rfl⟩
    go_wp2_with fail
    refine (letter_any w).mono ?_
    rintro e w7 ⟨rfl, hb⟩
    have B7 := Lib.hid hb
    clear hb
    go_wp2_with fail
    go_ret
    exact ⟨rfl, B7.out⟩
set_option maxRecDepth 100000 in
set_option maxHeartbeats 1000000 in
theorem usedWrites.no (s : ByteArray) (X N : Nat) (w : World) (hs : s.size ≤ 300) (hN : N ≤ 32) (hX : X < 2 ^ N) (hy : ¬ IsSyms s.data.toList) :
    Calls Try.prog 4 #[.string s, .int .u32 (X : Int), .int .i64 (N : Int)] w fun e w' => e = .returned (.bool true) ∧ Below w.heap.size w w' := by
  have hlt : ((s.size : Int)) ≤ 300 := by omega
  have hX32 : X < 4294967296 := Nat.lt_of_lt_of_le hX (Nat.pow_le_pow_right (by omega) hN : 2 ^ N ≤ 2 ^ 32)
  have HFI := Lib.hid (fun w => fits_yes X N w hN hX hX32)
  have HPU := Lib.hid (fun b v w h => put_any b v [] 0 X N w h hN hX (by simp))
  have HFT := Lib.hid (fun w => fieldTxt_any X N w hN hX32)
  have HRI := Lib.hid (fun w => refIs_any s false w (by omega) ⟨fun e => (by cases e), fun e => absurd e hy⟩)
  have HWN := Lib.hid (fun b w => write_no b s w (by omega) hy)
  have HLE := Lib.hid (field_length X N)
  generalize txt (field X N) = TF at *
  clear hX hy
  go_enter Try.func4, Try.ntmps4
  go_wp2_with fail
  refine (HFI.out w).mono ?_
  rintro e w' ⟨rfl, rfl⟩
  go_wp2_with fail
  refine (newWriter_any w).mono ?_
  rintro e w1 ⟨rfl, hw1, hb1⟩
  have W1 := Lib.hid hw1
  have B1 := Lib.hid hb1
  clear hw1 hb1
  go_wp2_with fail
  refine (HPU.out w.heap.size _ w1 W1.out).mono ?_
  rintro e w2 ⟨rfl, v2, hw2, ht2, _⟩
  rw [List.nil_append] at hw2
  have W2 := Lib.hid hw2
  have B2 := Lib.hid (B1.out.trans (ht2.below (Nat.le_trans B1.out.size (Nat.le_refl _)) (fun i hi => (W1.out.lt i hi).2)))
  clear hw2 ht2
  go_wp2_with fail
  refine (HWN.out w.heap.size w2).mono ?_
  rintro e w' ⟨rfl, m, rfl⟩
  have W3 := Lib.hid (W2.out.other (touch_drewN (fun _ => False) w2 m) (fun _ _ h => h))
  have B3 := Lib.hid (B2.out.trans ((below_drewN w2 m).mono B2.out.size))
  go_wp2_with fail
  refine (HFT.out _).mono ?_
  rintro e w' ⟨rfl, rfl⟩
  go_wp2_with fail
  refine (HRI.out _).mono ?_
  rintro e w4 ⟨rfl, hb4⟩
  have W4 := Lib.hid (W3.out.other (Touch.ofBelow (S := fun _ => False) hb4) (fun _ _ h => h))
  have B4 := Lib.hid (B3.out.trans (hb4.mono B3.out.size))
  clear hb4
  go_wp2_with fail
  refine (wlen_any _ _ _ _ w4 W4.out).mono ?_
  rintro e w' ⟨rfl, rfl⟩
  rw [HLE.out]
  go_wp2_with fail
  refine (letter_any w4).mono ?_
  rintro e w7 ⟨rfl, hb⟩
  have B7 := Lib.hid (B4.out.trans (hb.mono B4.out.size))
  clear hb
  go_wp2_with fail
  go_ret
  exact ⟨rfl, B7.out⟩
set_option maxRecDepth 100000 in
set_option maxHeartbeats 1000000 in
theorem usedWrites.yes (s : ByteArray) (X N : Nat) (w : World) (hs : s.size ≤ 300) (hN : N ≤ 32) (hX : X < 2 ^ N) (hy : IsSyms s.data.toList) :
    Calls Try.prog 4 #[.string s, .int .u32 (X : Int), .int .i64 (N : Int)] w fun e w' => e = .returned (.bool true) ∧ Below w.heap.size w w' := by
  have hlt : ((s.size : Int)) ≤ 300 := by omega
  have hX32 : X < 4294967296 := Nat.lt_of_lt_of_le hX (Nat.pow_le_pow_right (by omega) hN : 2 ^ N ≤ 2 ^ 32)
  have HFI := Lib.hid (fun w => fits_yes X N w hN hX hX32)
  have HPU := Lib.hid (fun b v w h => put_any b v [] 0 X N w h hN hX (by simp))
  have HFT := Lib.hid (fun w => fieldTxt_any X N w hN hX32)
  have HRI := Lib.hid (fun w => refIs_any s true w (by omega) ⟨fun _ => hy, fun _ => rfl⟩)
  have HLE := Lib.hid (field_length X N)
  have HRB := Lib.hid (fun w => refBits_any s w (by omega))
  have HWY := Lib.hid (fun b v w h => write_yes b v (field X N) 0 s w h (Nat.le_trans hs (by decide)) hy (by rw [HLE.out]; omega))
  have hz1 : (txt (field X N)).size ≤ 32 := by rw [txt_size, HLE.out]; exact hN
  generalize has s.data.toList = S at *
  have hub : (ubits S).length ≤ 272 := by rw [ubits_length]; have := cnt_le S 16; omega
  have hz2 : (txt (ubits S)).size ≤ 272 := by rw [txt_size]; exact hub
  have HAP := Lib.hid (txt_append (field X N) (ubits S))
  have hql : (field X N ++ ubits S).length ≤ 1000 := by rw [List.length_append, HLE.out]; omega
  have HPA := Lib.hid (fun w => pack_any (field X N ++ ubits S) w (by omega))
  obtain ⟨Q, hQ⟩ : ∃ Q, field X N ++ ubits S = Q := ⟨_, rfl⟩
  simp only [hQ] at HAP hql HPA
  have HQ := Lib.hid hQ
  clear hQ
  generalize hTF : txt (field X N) = TF at *
  generalize txt (ubits S) = TU at *
  clear hX hy
  go_enter Try.func4, Try.ntmps4
  go_wp2_with fail
  refine (HFI.out w).mono ?_
  rintro e w' ⟨rfl, rfl⟩
  go_wp2_with fail
  refine (newWriter_any w).mono ?_
  rintro e w1 ⟨rfl, hw1, hb1⟩
  have W1 := Lib.hid hw1
  have B1 := Lib.hid hb1
  clear hw1 hb1
  go_wp2_with fail
  refine (HPU.out w.heap.size _ w1 W1.out).mono ?_
  rintro e w2 ⟨rfl, v2, hw2, ht2, _⟩
  rw [List.nil_append] at hw2
  have W2 := Lib.hid hw2
  have B2 := Lib.hid (B1.out.trans (ht2.below (Nat.le_trans B1.out.size (Nat.le_refl _)) (fun i hi => (W1.out.lt i hi).2)))
  clear hw2 ht2
  go_wp2_with fail
  refine (HWY.out w.heap.size v2 w2 W2.out).mono ?_
  rintro e w3 ⟨rfl, v3, hw3, ht3, _⟩
  rw [HQ.out] at hw3
  have W3 := Lib.hid hw3
  have B3 := Lib.hid (B2.out.trans (ht3.below B2.out.size (fun i hi => (W2.out.lt i hi).2)))
  clear hw3 ht3
  go_wp2_with fail
  refine (HFT.out _).mono ?_
  rintro e w' ⟨rfl, rfl⟩
  go_wp2_with fail
  refine (HRI.out _).mono ?_
  rintro e w4 ⟨rfl, hb4⟩
  have W4 := Lib.hid (W3.out.other (Touch.ofBelow (S := fun _ => False) hb4) (fun _ _ h => h))
  have B4 := Lib.hid (B3.out.trans (hb4.mono B3.out.size))
  clear hb4
  go_wp2_with fail
  refine (HRB.out w4).mono ?_
  rintro e w' ⟨rfl, rfl⟩
  go_wp2_with fail
  refine (wpad_any _ _ _ _ w4 W4.out (by omega)).mono ?_
  rintro e w5 ⟨rfl, v5, hw5, ht5, _⟩
  have W5 := Lib.hid hw5
  have B5 := Lib.hid (B4.out.trans (ht5.below B4.out.size (fun i hi => (W4.out.lt i hi).2)))
  clear hw5 ht5
  go_wp2_with fail
  refine (wtake_any _ _ _ _ w5 W5.out).mono ?_
  rintro e w6 ⟨rfl, hw6, ht6⟩
  have B6 := Lib.hid (B5.out.trans (ht6.below B5.out.size (fun i hi => (W5.out.lt i hi).2)))
  rw [List.drop_zero, HAP.out]
  generalize (⟨(byts (Q ++ padding Q)).toArray⟩ : ByteArray) = R at *
  clear hw6 ht6
  go_wp2_with fail
  refine (HPA.out w6).mono ?_
  rintro e w8 ⟨rfl, hb8⟩
  have B8 := Lib.hid (B6.out.trans (hb8.mono B6.out.size))
  clear hb8
  go_wp2_with fail
  refine (letter_any w8).mono ?_
  rintro e w7 ⟨rfl, hb⟩
  have B7 := Lib.hid (B8.out.trans (hb.mono B8.out.size))
  clear hb
  go_wp2_with fail
  go_ret
  exact ⟨rfl, B7.out⟩
theorem usedWrites.walk (s : ByteArray) (v n : Int) (w : World) (hs : s.size ≤ maxLen) (hv : (Lit.int .u32 v).wf = true) (hn : (Lit.int .i64 n).wf = true) :
    Calls Try.prog 4 #[.string s, .int .u32 v, .int .i64 n] w fun e w' => e = .returned (.bool true) ∧ Below w.heap.size w w' := by
  obtain ⟨X, rfl, hX⟩ : ∃ X : Nat, v = (X : Int) ∧ X < 4294967296 := by
    simp only [Lit.wf, Bool.and_eq_true, decide_eq_true_eq] at hv
    have h1 : (0 : Int) ≤ v := hv.1
    have h2 : v ≤ 4294967295 := hv.2
    exact ⟨v.toNat, by omega, by omega⟩
  by_cases hl : s.size ≤ 300
  · by_cases ho : n < 0 ∨ 32 < n
    · exact usedWrites.far s _ n w (Or.inr ⟨hl, fun w => fits_out _ n w ho⟩)
    · obtain ⟨N, rfl⟩ : ∃ N : Nat, n = (N : Int) := ⟨n.toNat, by omega⟩
      have hN : N ≤ 32 := by omega
      by_cases hf : X < 2 ^ N
      · by_cases hy : IsSyms s.data.toList
        · exact usedWrites.yes s X N w hl hN hf hy
        · exact usedWrites.no s X N w hl hN hf hy
      · exact usedWrites.far s _ _ w (Or.inr ⟨hl, fun w => fits_big X N w hN (by omega) hX⟩)
  · exact usedWrites.far s _ n w (Or.inl (by omega))
end Go.Proofs.Ythpgddodfnjmbaa
