/-
  LAYER 5's STATEMENTS: UsedSymbols, UsedLeast, UsedBack.
-/
import Derived.Test.YthpgddodfnjmbaaUsedRefB
namespace Go.Proofs.Ythpgddodfnjmbaa
open Go.RowKit BitM UsedM
set_option linter.unusedVariables false
theorem syms_text (l : List UInt8) : (⟨(syms (has l) 256).toArray⟩ : ByteArray).data.toList = syms (has l) 256 := rfl
/-- The bytes of a text are those of its symbols. -/
theorem has_symbols (l : List UInt8) : has (syms (has l) 256) = has l := by
  funext b
  by_cases hb : b < 256
  · exact has_syms _ b hb
  · rw [has_big _ b (by omega), has_big _ b (by omega)]
set_option maxRecDepth 100000 in
set_option maxHeartbeats 1000000 in
theorem usedSymbols.walk (s : ByteArray) (w : World) (hs : s.size ≤ maxLen) : Calls Try.prog 3 #[.string s] w fun e w' => e = .returned (.bool true) ∧ Below w.heap.size w w' := by
  have hs2 : s.size ≤ 9223372036854775807 := by unfold maxLen at hs; omega
  by_cases hl : s.size ≤ 300
  · have hlt : ((s.size : Int)) ≤ 300 := by omega
    by_cases hy : IsSyms s.data.toList
    · have HBI := Lib.hid (fun w => bits_yes s w hs hy)
      have HRI := Lib.hid (fun w => refIs_any s true w hs2 ⟨fun _ => hy, fun _ => rfl⟩)
      have HRB := Lib.hid (fun w => refBits_any s w hs2)
      have HSY := Lib.hid (fun w => symbols_any s w hs)
      have HRS := Lib.hid (fun w => refSymbols_any s w hs2)
      have hz := txt_size (ubits (has s.data.toList))
      generalize (⟨(syms (has s.data.toList) 256).toArray⟩ : ByteArray) = T at *
      generalize (ubits (has s.data.toList)).length = L at *
      generalize txt (ubits (has s.data.toList)) = TB at *
      have HYY := Lib.hid hy
      clear hy
      go_enter Try.func3, Try.ntmps3
      go_wp2_with fail
      refine (HBI.out w).mono ?_
      rintro e w1 ⟨rfl, hb⟩
      have B1 := Lib.hid hb
      clear hb
      go_wp2_with fail
      refine (HSY.out w1).mono ?_
      rintro e w2 ⟨rfl, hb⟩
      have B2 := Lib.hid (B1.out.trans (hb.mono B1.out.size))
      clear hb
      go_wp2_with fail
      refine (HRS.out w2).mono ?_
      rintro e w3 ⟨rfl, hb⟩
      have B3 := Lib.hid (B2.out.trans (hb.mono B2.out.size))
      clear hb
      go_wp2_with fail
      refine (is_yes s w3 hs2 HYY.out).mono ?_
      rintro e w4 ⟨rfl, n, rfl⟩
      have B4 := Lib.hid (B3.out.trans ((below_drewN w3 n).mono B3.out.size))
      go_wp2_with fail
      refine (HRI.out (w3.drewN n)).mono ?_
      rintro e w5 ⟨rfl, hb⟩
      have B5 := Lib.hid (B4.out.trans (hb.mono B4.out.size))
      clear hb
      go_wp2_with fail
      refine (HRI.out w5).mono ?_
      rintro e w6 ⟨rfl, hb⟩
      have B6 := Lib.hid (B5.out.trans (hb.mono B5.out.size))
      clear hb
      go_wp2_with fail
      refine (HRB.out w6).mono ?_
      rintro e w' ⟨rfl, rfl⟩
      go_wp2_with fail
      refine (letter_any w6).mono ?_
      rintro e w7 ⟨rfl, hb⟩
      have B7 := Lib.hid (B6.out.trans (hb.mono B6.out.size))
      clear hb
      go_wp2_with fail
      go_ret
      exact ⟨rfl, B7.out⟩
    · have HBI := Lib.hid (fun w => bits_no s w hs2 hy)
      have HRI := Lib.hid (fun w => refIs_any s false w hs2 ⟨fun e => (by cases e), fun e => absurd e hy⟩)
      have HSY := Lib.hid (fun w => symbols_any s w hs)
      have HRS := Lib.hid (fun w => refSymbols_any s w hs2)
      generalize (⟨(syms (has s.data.toList) 256).toArray⟩ : ByteArray) = T at *
      have HYY := Lib.hid hy
      clear hy
      go_enter Try.func3, Try.ntmps3
      go_wp2_with fail
      refine (HBI.out w).mono ?_
      rintro e w' ⟨rfl, m, rfl⟩
      have B1 := Lib.hid (below_drewN w m)
      go_wp2_with fail
      refine (HSY.out (w.drewN m)).mono ?_
      rintro e w2 ⟨rfl, hb⟩
      have B2 := Lib.hid (B1.out.trans (hb.mono B1.out.size))
      clear hb
      go_wp2_with fail
      refine (HRS.out w2).mono ?_
      rintro e w3 ⟨rfl, hb⟩
      have B3 := Lib.hid (B2.out.trans (hb.mono B2.out.size))
      clear hb
      go_wp2_with fail
      refine (is_no s w3 hs2 HYY.out).mono ?_
      rintro e w4 ⟨rfl, n, rfl⟩
      have B4 := Lib.hid (B3.out.trans ((below_drewN w3 n).mono B3.out.size))
      go_wp2_with fail
      refine (HRI.out (w3.drewN n)).mono ?_
      rintro e w5 ⟨rfl, hb⟩
      have B5 := Lib.hid (B4.out.trans (hb.mono B4.out.size))
      clear hb
      go_wp2_with fail
      refine (HRI.out w5).mono ?_
      rintro e w6 ⟨rfl, hb⟩
      have B6 := Lib.hid (B5.out.trans (hb.mono B5.out.size))
      clear hb
      go_wp2_with fail
      refine (letter_any w6).mono ?_
      rintro e w7 ⟨rfl, hb⟩
      have B7 := Lib.hid (B6.out.trans (hb.mono B6.out.size))
      clear hb
      go_wp2_with fail
      go_ret
      exact ⟨rfl, B7.out⟩
  · have hlt : (300 : Int) < (s.size : Int) := by omega
    go_enter Try.func3, Try.ntmps3
    go_wp2_with fail
    refine (letter_any w).mono ?_
    rintro e w7 ⟨rfl, hb⟩
    have B7 := Lib.hid hb
    clear hb
    go_wp2_with fail
    go_ret
    exact ⟨rfl, B7.out⟩
theorem syms_of {l : List UInt8} (h : l ≠ []) : IsSyms (syms (has l) 256) := by
  refine isSyms_syms _ ?_
  obtain ⟨x, r, rfl⟩ := List.exists_cons_of_ne_nil h
  exact ⟨x.toNat, x.toNat_lt, (has_mem _ x).2 (by simp)⟩
set_option maxRecDepth 100000 in
set_option maxHeartbeats 1000000 in
theorem usedLeast.walk (s : ByteArray) (b : Int) (w : World) (hs : s.size ≤ maxLen) (hb : (Lit.int .u8 b).wf = true) : Calls Try.prog 7 #[.string s, .int .u8 b] w fun e w' => e = .returned (.bool true) ∧ Below w.heap.size w w' := by
  have hs2 : s.size ≤ 9223372036854775807 := by unfold maxLen at hs; omega
  obtain ⟨n, rfl, hn⟩ : ∃ n : Nat, b = (n : Int) ∧ n < 256 := by
    simp only [Lit.wf, Bool.and_eq_true, decide_eq_true_eq] at hb
    have h1 : (0 : Int) ≤ b := hb.1
    have h2 : b ≤ 255 := hb.2
    exact ⟨b.toNat, by omega, by omega⟩
  clear hb
  by_cases hl : s.size ≤ 300
  · have hlt : ((s.size : Int)) ≤ 300 := by omega
    have HSY := Lib.hid (fun w => symbols_any s w hs)
    have HT1 := Lib.hid (fun w => there_any s n w hs2)
    have hTz : (⟨(syms (has s.data.toList) 256).toArray⟩ : ByteArray).size ≤ 256 := by rw [text_size]; exact syms_le _ _
    have HT2 : Hid (∀ w, Calls Try.prog 37 #[.string ⟨(syms (has s.data.toList) 256).toArray⟩, .int .i64 (n : Int)] w fun e w' => e = .returned (.bool (has s.data.toList n)) ∧ w = w') := Lib.hid (fun w => by
      have := there_any ⟨(syms (has s.data.toList) 256).toArray⟩ n w (by omega)
      rw [syms_text, has_symbols] at this
      exact this)
    by_cases hz : s.data.toList = []
    · have hem := empty_is s true ⟨fun _ => hz, fun _ => rfl⟩
      clear hz
      generalize (⟨(syms (has s.data.toList) 256).toArray⟩ : ByteArray) = T at *
      generalize has s.data.toList n = H at *
      go_enter Try.func7, Try.ntmps7
      go_wp2_with fail
      refine (HSY.out w).mono ?_
      rintro e w1 ⟨rfl, hb⟩
      have B1 := Lib.hid hb
      clear hb
      go_wp2_with fail
      refine (HT2.out w1).mono ?_
      rintro e w' ⟨rfl, rfl⟩
      go_wp2_with fail
      refine (HT1.out w1).mono ?_
      rintro e w' ⟨rfl, rfl⟩
      go_wp2_with fail
      refine (letter_any w1).mono ?_
      rintro e w7 ⟨rfl, hb⟩
      have B7 := Lib.hid (B1.out.trans (hb.mono B1.out.size))
      clear hb
      go_wp2_with fail
      go_ret
      exact ⟨rfl, B7.out⟩
    · have hem := empty_is s false ⟨fun e => (by cases e), fun e => absurd e hz⟩
      have HIS := Lib.hid (fun w => is_yes ⟨(syms (has s.data.toList) 256).toArray⟩ w (by omega) (syms_of hz))
      clear hz
      generalize (⟨(syms (has s.data.toList) 256).toArray⟩ : ByteArray) = T at *
      generalize has s.data.toList n = H at *
      go_enter Try.func7, Try.ntmps7
      go_wp2_with fail
      refine (HSY.out w).mono ?_
      rintro e w1 ⟨rfl, hb⟩
      have B1 := Lib.hid hb
      clear hb
      go_wp2_with fail
      refine (HT2.out w1).mono ?_
      rintro e w' ⟨rfl, rfl⟩
      go_wp2_with fail
      refine (HT1.out w1).mono ?_
      rintro e w' ⟨rfl, rfl⟩
      go_wp2_with fail
      refine (HSY.out w1).mono ?_
      rintro e w2 ⟨rfl, hb⟩
      have B2 := Lib.hid (B1.out.trans (hb.mono B1.out.size))
      clear hb
      go_wp2_with fail
      refine (HIS.out w2).mono ?_
      rintro e w4 ⟨rfl, m, rfl⟩
      have B4 := Lib.hid (B2.out.trans ((below_drewN w2 m).mono B2.out.size))
      go_wp2_with fail
      refine (letter_any _).mono ?_
      rintro e w7 ⟨rfl, hb⟩
      have B7 := Lib.hid (B4.out.trans (hb.mono B4.out.size))
      clear hb
      go_wp2_with fail
      go_ret
      exact ⟨rfl, B7.out⟩
  · have hlt : (300 : Int) < (s.size : Int) := by omega
    go_enter Try.func7, Try.ntmps7
    go_wp2_with fail
    refine (letter_any w).mono ?_
    rintro e w7 ⟨rfl, hb⟩
    have B7 := Lib.hid hb
    clear hb
    go_wp2_with fail
    go_ret
    exact ⟨rfl, B7.out⟩
theorem append_list (a b : ByteArray) : (a ++ b).data.toList = a.data.toList ++ b.data.toList := by simp
set_option maxRecDepth 100000 in
set_option maxHeartbeats 1000000 in
theorem usedBack.far (s more : ByteArray) (w : World) (h : 300 < s.size ∨ (s.size ≤ 300 ∧ 100 < more.size) ∨ (s.size ≤ 300 ∧ more.size ≤ 100 ∧ s.data.toList = [])) : Calls Try.prog 6 #[.string s, .string more] w fun e w' => e = .returned (.bool true) ∧ Below w.heap.size w w' := by
  rcases h with h | ⟨h, h2⟩ | ⟨h, h2, hz⟩
  · have hlt : (300 : Int) < (s.size : Int) := by omega
    go_enter Try.func6, Try.ntmps6
    go_wp2_with fail
    refine (letter_any w).mono ?_
    rintro e w7 ⟨rfl, hb⟩
    have B7 := Lib.hid hb
    clear hb
    go_wp2_with fail
    go_ret
    exact ⟨rfl, B7.out⟩
  · have hlt : ((s.size : Int)) ≤ 300 := by omega
    have hlt2 : (100 : Int) < (more.size : Int) := by omega
    go_enter Try.func6, Try.ntmps6
    go_wp2_with fail
    refine (letter_any w).mono ?_
    rintro e w7 ⟨rfl, hb⟩
    have B7 := Lib.hid hb
    clear hb
    go_wp2_with fail
    go_ret
    exact ⟨rfl, B7.out⟩
  · have hlt : ((s.size : Int)) ≤ 300 := by omega
    have hlt2 : (more.size : Int) ≤ 100 := by omega
    have hem := empty_is s true ⟨fun _ => hz, fun _ => rfl⟩
    clear hz
    go_enter Try.func6, Try.ntmps6
    go_wp2_with fail
    refine (letter_any w).mono ?_
    rintro e w7 ⟨rfl, hb⟩
    have B7 := Lib.hid hb
    clear hb
    go_wp2_with fail
    go_ret
    exact ⟨rfl, B7.out⟩
set_option maxRecDepth 100000 in
set_option maxHeartbeats 1000000 in
theorem usedBack.near (s more : ByteArray) (w : World) (hl : s.size ≤ 300) (hl2 : more.size ≤ 100) (hz : s.data.toList ≠ []) : Calls Try.prog 6 #[.string s, .string more] w fun e w' => e = .returned (.bool true) ∧ Below w.heap.size w w' := by
  have hlt : ((s.size : Int)) ≤ 300 := by omega
  have hlt2 : (more.size : Int) ≤ 100 := by omega
  have hem := empty_is s false ⟨fun e => (by cases e), fun e => absurd e hz⟩
  have HRS := Lib.hid (fun w => refSymbols_any s w (by omega))
  have hTz : (⟨(syms (has s.data.toList) 256).toArray⟩ : ByteArray).size ≤ 256 := by rw [text_size]; exact syms_le _ _
  have HWR : Hid (∀ (b : Nat) (v : Value) (w : World), IsWriter w b v [] 0 → Calls Try.prog 25 #[.pointer (some ⟨b, 0, none⟩), .string ⟨(syms (has s.data.toList) 256).toArray⟩] w fun e w' => e = .returned (.int .i64 0) ∧ Wrote w w' b v [] 0 (ubits (has s.data.toList))) := Lib.hid (fun b v w h => by
    have := write_yes b v [] 0 ⟨(syms (has s.data.toList) 256).toArray⟩ w h (Nat.le_trans hTz (by decide)) (syms_of hz) (by simp)
    rw [syms_text, has_symbols] at this
    exact this)
  have HSY := Lib.hid (show syms (has s.data.toList) 256 ≠ [] from (syms_of hz).2)
  have HBIG := Lib.hid (fun b (hb : 256 ≤ b) => has_big s.data.toList b hb)
  generalize has s.data.toList = S at *
  have hub : (ubits S).length ≤ 272 := by rw [ubits_length]; have := cnt_le S 16; omega
  have hbz : (⟨(byts (ubits S)).toArray⟩ : ByteArray).size ≤ 34 := by rw [text_size, byts_length]; omega
  have HRD := Lib.hid (rdk_written S HBIG.out more.data.toList)
  generalize hT : (⟨(syms S 256).toArray⟩ : ByteArray) = T at *
  have HTT := Lib.hid hT
  clear hz hT
  go_enter Try.func6, Try.ntmps6
  go_wp2_with fail
  refine (HRS.out w).mono ?_
  rintro e w0 ⟨rfl, hb⟩
  have B0 := Lib.hid hb
  clear hb
  go_wp2_with fail
  refine (newWriter_any w0).mono ?_
  rintro e w1 ⟨rfl, hw1, hb1⟩
  have W1 := Lib.hid hw1
  have B1 := Lib.hid hb1
  clear hw1 hb1
  go_wp2_with fail
  refine (HWR.out w0.heap.size _ w1 W1.out).mono ?_
  rintro e w2 ⟨rfl, v2, hw2, ht2, hv2⟩
  rw [List.nil_append] at hw2
  have W2 := Lib.hid hw2
  have B2 := Lib.hid (B1.out.trans (ht2.below (Nat.le_trans B1.out.size (Nat.le_refl _)) (fun i hi => (W1.out.lt i hi).2)))
  clear hw2 ht2 hv2
  go_wp2_with fail
  refine (wlen_any _ _ _ _ w2 W2.out).mono ?_
  rintro e w' ⟨rfl, rfl⟩
  go_wp2_with fail
  refine (wtake_any _ _ _ _ w2 W2.out).mono ?_
  rintro e w3 ⟨rfl, hw3, ht3⟩
  have B3 := Lib.hid (B2.out.trans (ht3.below B2.out.size (fun i hi => (W2.out.lt i hi).2)))
  rw [List.drop_zero]
  obtain ⟨BY, hBY⟩ : ∃ BY, (⟨(byts (ubits S)).toArray⟩ : ByteArray) = BY := ⟨_, rfl⟩
  have HBY := Lib.hid hBY
  rw [hBY] at hbz ⊢
  clear hw3 ht3 hBY
  have hsm : (BY ++ more).size ≤ 1000 := by rw [ByteArray.size_append]; omega
  go_wp2_with fail
  refine (newReader_any (BY ++ more) w3 (Nat.le_trans hsm (by decide))).mono ?_
  rintro e w4 ⟨b, v4, rfl, hr4, hb4, hf4⟩
  rw [append_list, ← HBY.out] at hr4
  have R4 := Lib.hid hr4
  have B4 := Lib.hid (B3.out.trans (hb4.mono B3.out.size))
  have F4 := Lib.hid hf4
  clear hr4 hb4 hf4
  go_wp2_with fail
  refine (uread_any b v4 _ 0 0 0 w4 R4.out (by rw [List.length_append, byts_length]; have : more.data.toList.length = more.size := rfl; omega)).mono ?_
  rintro e w5 ⟨t, err, p', rfl, hr5, ht5, hm5⟩
  have B5 := Lib.hid (B4.out.trans (ht5.below B4.out.size (fun i hi => by
    have h1 := F4.out b (Or.inl rfl)
    have := B3.out.size
    have hi' : i = b := hi
    omega)))
  rw [show (⟨(byts (ubits S)).toArray⟩ : ByteArray).data.toList ++ more.data.toList = byts (ubits S) ++ more.data.toList from rfl, HRD.out] at hm5
  obtain ⟨h, _⟩ | ⟨_, rfl, rfl, rfl⟩ := hm5
  · exact absurd h HSY.out
  rw [HTT.out]
  have R5 := Lib.hid hr5
  have h0 : 0 + (ubits S).length = (ubits S).length := Nat.zero_add _
  rw [h0] at R5
  clear hr5 ht5 h0
  go_wp2_with fail
  refine (rat_any _ _ _ _ _ _ w5 R5.out).mono ?_
  rintro e w' ⟨rfl, rfl⟩
  go_wp2_with fail
  refine (letter_any w5).mono ?_
  rintro e w6 ⟨rfl, hb6⟩
  have B6 := Lib.hid (B0.out.trans ((B5.out.trans (hb6.mono B5.out.size)).mono B0.out.size))
  clear hb6
  go_wp2_with fail
  go_ret
  exact ⟨rfl, B6.out⟩
theorem usedBack.walk (s more : ByteArray) (w : World) (hs : s.size ≤ maxLen) (hm : more.size ≤ maxLen) : Calls Try.prog 6 #[.string s, .string more] w fun e w' => e = .returned (.bool true) ∧ Below w.heap.size w w' := by
  by_cases h1 : s.size ≤ 300
  · by_cases h2 : more.size ≤ 100
    · by_cases hz : s.data.toList = []
      · exact usedBack.far s more w (Or.inr (Or.inr ⟨h1, h2, hz⟩))
      · exact usedBack.near s more w h1 h2 hz
    · exact usedBack.far s more w (Or.inr (Or.inl ⟨h1, by omega⟩))
  · exact usedBack.far s more w (Or.inl (by omega))
end Go.Proofs.Ythpgddodfnjmbaa
