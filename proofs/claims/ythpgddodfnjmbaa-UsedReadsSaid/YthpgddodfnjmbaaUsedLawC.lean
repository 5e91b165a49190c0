/-
  LAYER 5's STATEMENTS: UsedReads.
-/
import Derived.Test.YthpgddodfnjmbaaUsedLawA
namespace Go.Proofs.Ythpgddodfnjmbaa
open Go.RowKit BitM UsedM
set_option linter.unusedVariables false
set_option maxRecDepth 100000 in
set_option maxHeartbeats 1000000 in
theorem usedReads.far (s : ByteArray) (a : Int) (w : World) (h : 100 < s.size ∨ (s.size ≤ 100 ∧ a < 0) ∨ (s.size ≤ 100 ∧ 0 ≤ a ∧ 8 * (s.size : Int) < a)) :
    Calls Try.prog 5 #[.string s, .int .i64 a] w fun e w' => e = .returned (.bool true) ∧ Below w.heap.size w w' := by
  rcases h with h | ⟨h, h2⟩ | ⟨h, h2, h3⟩
  · have hlt : (100 : Int) < (s.size : Int) := by omega
    go_enter Try.func5, Try.ntmps5
    go_wp2_with fail
    refine (letter_any w).mono ?_
    rintro e w7 ⟨rfl, hb⟩
    have B7 := Lib.hid hb
    clear hb
    go_wp2_with fail
    go_ret
    exact ⟨rfl, B7.out⟩
  · have hlt : ((s.size : Int)) ≤ 100 := by omega
    go_enter Try.func5, Try.ntmps5
    go_wp2_with fail
    refine (letter_any w).mono ?_
    rintro e w7 ⟨rfl, hb⟩
    have B7 := Lib.hid hb
    clear hb
    go_wp2_with fail
    go_ret
    exact ⟨rfl, B7.out⟩
  · have hlt : ((s.size : Int)) ≤ 100 := by omega
    go_enter Try.func5, Try.ntmps5
    go_wp2_with fail
    refine (letter_any w).mono ?_
    rintro e w7 ⟨rfl, hb⟩
    have B7 := Lib.hid hb
    clear hb
    go_wp2_with fail
    go_ret
    exact ⟨rfl, B7.out⟩
theorem told_same {w w' : World} {b : Nat} {v : Value} {l : List UInt8} {dr sp p : Nat} {t t2 : ByteArray} {err err2 p' n : Nat} (h : Told w w' b v l dr sp p t err p') (k : RefTold ((bitsOf l).drop (p - 8 * dr)) t2 n err2) : t2 = t ∧ err2 = err ∧ p' = p + n := by
  obtain ⟨_, _, h⟩ := h
  unfold RefTold at k
  rcases hrd : rdk ((bitsOf l).drop (p - 8 * dr)) 16 with _ | ⟨m, S⟩
  · rw [hrd] at h k
    obtain ⟨rfl, rfl, rfl⟩ := h
    obtain ⟨rfl, rfl, rfl⟩ := k
    exact ⟨rfl, rfl, rfl⟩
  · rw [hrd] at h k
    rcases h with ⟨h1, rfl, rfl, rfl⟩ | ⟨h1, rfl, rfl, rfl⟩ <;> rcases k with ⟨k1, rfl, rfl, rfl⟩ | ⟨k1, rfl, rfl, rfl⟩
    · exact ⟨rfl, rfl, rfl⟩
    · exact absurd h1 k1
    · exact absurd k1 h1
    · exact ⟨rfl, rfl, rfl⟩
set_option maxRecDepth 100000 in
set_option maxHeartbeats 1000000 in
theorem usedReads.near (s : ByteArray) (a : Nat) (w : World) (hs : s.size ≤ 100) (ha : a ≤ 8 * s.size) :
    Calls Try.prog 5 #[.string s, .int .i64 (a : Int)] w fun e w' => e = .returned (.bool true) ∧ Below w.heap.size w w' := by
  have hlt : ((s.size : Int)) ≤ 100 := by omega
  have ha2 : (a : Int) ≤ 8 * (s.size : Int) := by omega
  have hll : s.data.toList.length = s.size := rfl
  have HBT := Lib.hid (fun w => bitsTxt_any s w (by omega))
  have hbl : (bitsOf s.data.toList).length = 8 * s.size := by rw [bitsOf_length]; rfl
  have hRR : ∀ w, Calls Try.prog 34 #[.string (txt ((bitsOf s.data.toList).drop a))] w fun e w' => ∃ (t : ByteArray) (bits err : Nat), e = .returned (.agg #[.string t, .int .i64 (bits : Int), .int .i64 (err : Int)]) ∧ Below w.heap.size w w' ∧ RefTold ((bitsOf s.data.toList).drop (a - 8 * 0)) t bits err := fun w => by
    have := refRead_any ((bitsOf s.data.toList).drop a) w (by rw [List.length_drop, hbl]; omega)
    exact this
  have HRR := Lib.hid hRR
  have htz := txt_size (bitsOf s.data.toList)
  rw [hbl] at htz
  have htd := txt_drop (bitsOf s.data.toList) a (by omega)
  rw [htz] at htd
  have HTD := Lib.hid htd
  clear htd
  have htz2 : (a : Int) ≤ ((txt (bitsOf s.data.toList)).size : Int) := by omega
  clear hRR hbl
  go_enter Try.func5, Try.ntmps5
  go_wp2_with fail
  refine (newReader_any s w (Nat.le_trans hs (by decide))).mono ?_
  rintro e w1 ⟨b, v, rfl, hr1, hb1, hf1⟩
  have R1 := Lib.hid hr1
  have B1 := Lib.hid hb1
  have F1 := Lib.hid hf1
  clear hr1 hb1 hf1
  go_wp2_with fail
  refine (seek_yes b v s.data.toList 0 0 0 a w1 R1.out (by omega) (by omega) (by omega)).mono ?_
  rintro e w2 ⟨rfl, hr2, ht2⟩
  have hbw := F1.out b (Or.inl rfl)
  have R2 := Lib.hid hr2
  have B2 := Lib.hid (B1.out.trans (ht2.below B1.out.size (fun i hi => by
    have hi' : i = b := hi
    omega)))
  clear hr2 ht2
  go_wp2_with fail
  refine (uread_any b v s.data.toList 0 0 a w2 R2.out (by omega)).mono ?_
  rintro e w3 ⟨t, err, p', rfl, hm⟩
  have HM := Lib.hid hm
  have R3 := Lib.hid hm.1
  have B3 := Lib.hid (B2.out.trans (hm.2.1.below B2.out.size (fun i hi => by
    have hi' : i = b := hi
    omega)))
  clear hm
  go_wp2_with fail
  refine (HBT.out w3).mono ?_
  rintro e w' ⟨rfl, rfl⟩
  generalize txt (bitsOf s.data.toList) = T at *
  go_wp2_with fail
  rw [HTD.out]
  refine (HRR.out w3).mono ?_
  rintro e w4 ⟨t2, n, err2, rfl, hb4, hm4⟩
  obtain ⟨rfl, rfl, rfl⟩ := told_same HM.out hm4
  have R4 := Lib.hid (R3.out.other (Touch.ofBelow (S := fun _ => False) hb4) (fun _ _ h => h))
  have B4 := Lib.hid (B3.out.trans (hb4.mono B3.out.size))
  have R5 := Lib.hid (R4.out.other (Touch.ofBelow (S := fun _ => False) ((Below.refl w4.heap.size w4).alloc (Nat.le_refl _) (.cells #[.string t2, .int .i64 (n : Int), .int .i64 (err2 : Int)] 44))) (fun _ _ h => h))
  have B5 := Lib.hid (B4.out.alloc B4.out.size (.cells #[.string t2, .int .i64 (n : Int), .int .i64 (err2 : Int)] 44))
  have hp := R5.out.2.2.2.2
  have hn1 : (a : Int) + (n : Int) ≤ 800 := by omega
  have hsum : (a : Int) + (n : Int) = ((a + n : Nat) : Int) := by omega
  obtain ⟨P, hP⟩ : ∃ P, a + n = P := ⟨_, rfl⟩
  rw [hP] at R5 hsum
  have hPn : (P : Int) ≤ 800 := by omega
  clear hb4 hm4 HM hp
  go_wp2_with fail
  have hc0 : (w4.alloc (.cells #[.string t2, .int .i64 (n : Int), .int .i64 (err2 : Int)] 44)).cell? ⟨w4.heap.size, 1, none⟩ = some (.int .i64 (n : Int)) := by
    rw [cell_of_row _ _ _ _ _ _ (heap_alloc_new w4 _)]; rfl
  have hlw : w4.heap.size < (w4.alloc (.cells #[.string t2, .int .i64 (n : Int), .int .i64 (err2 : Int)] 44)).heap.size := by simp
  generalize (w4.alloc (.cells #[.string t2, .int .i64 (n : Int), .int .i64 (err2 : Int)] 44)) = W0 at *
  have hcell : ∀ s : Beneath W0.heap.size W0, s.val.cell? ⟨w4.heap.size, 1, none⟩ = some (.int .i64 (n : Int)) := fun s => (s.is.cell (p := ⟨w4.heap.size, 1, none⟩) hlw).trans hc0
  have HRS := Lib.hid (fun s : Beneath W0.heap.size W0 => R5.out.other (Touch.ofBelow (S := fun _ => False) s.is) (fun _ _ h => h))
  refine wp_region_beneath W0.heap.size W0 (Below.refl _ _) (by kernel_rfl) (by kernel_rfl) ?_
  repeat (go_big_quiet_step (first
    | (go_at_call 36; rename_i z; exact Calls.beneath_same z (rat_any b v s.data.toList 0 0 P _ (HRS.out z)))
    | (go_at_call 15; rename_i z; exact Calls.beneath z (Nat.le_refl _) (letter_any _))))
  refine wpQuiet_nil ?_
  rintro _ ⟨z, rfl⟩
  go_wp2_with fail
  go_ret
  exact ⟨rfl, B5.out.trans (z.is.mono B5.out.size)⟩
theorem usedReads.walk (s : ByteArray) (at_ : Int) (w : World) (hs : s.size ≤ maxLen) (hv : (Lit.int .i64 at_).wf = true) :
    Calls Try.prog 5 #[.string s, .int .i64 at_] w fun e w' => e = .returned (.bool true) ∧ Below w.heap.size w w' := by
  by_cases h1 : s.size ≤ 100
  · by_cases h2 : at_ < 0
    · exact usedReads.far s at_ w (Or.inr (Or.inl ⟨h1, h2⟩))
    · by_cases h3 : 8 * (s.size : Int) < at_
      · exact usedReads.far s at_ w (Or.inr (Or.inr ⟨h1, by omega, h3⟩))
      · obtain ⟨a, rfl⟩ : ∃ a : Nat, at_ = (a : Int) := ⟨at_.toNat, by omega⟩
        exact usedReads.near s a w h1 (by omega)
  · exact usedReads.far s at_ w (Or.inl (by omega))
end Go.Proofs.Ythpgddodfnjmbaa
