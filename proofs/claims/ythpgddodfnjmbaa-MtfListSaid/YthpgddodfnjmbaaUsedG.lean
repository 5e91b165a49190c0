/-
  LAYER 5's STATEMENTS: the one byte that each of them tries.
-/
import Derived.Test.YthpgddodfnjmbaaUsedF
namespace Go.Proofs.Ythpgddodfnjmbaa
open Go.RowKit BitM UsedM
set_option linter.unusedVariables false
theorem ubits_eight (S : Nat → Bool) : (ubits S).length = 8 * (2 + 2 * cnt S 16) := by rw [ubits_length]; omega
theorem bitsOf_ubits (S : Nat → Bool) : bitsOf (byts (ubits S)) = ubits S := bitsOf_byts _ _ (ubits_eight S)
/-- Read of what was written. -/
theorem rdk_written (S : Nat → Bool) (hS : ∀ b, 256 ≤ b → S b = false) (more : List UInt8) : rdk ((bitsOf (byts (ubits S) ++ more)).drop (0 - 8 * 0)) 16 = some ((ubits S).length, S) := by
  rw [bitsOf_append, bitsOf_ubits, List.drop_zero, rdk_ubits S (bitsOf more) 16 (Nat.le_refl _), cut_all S hS, ubits_length]
theorem syms_a : IsSyms [97] := ⟨fun i x y hx hy => by simp at hy, by simp⟩
theorem byts_a : byts (ubits (has [97])) = [2, 0, 64, 0] := by kernel_rfl
theorem syms_cabac : syms (has [99, 97, 98, 97, 99]) 256 = [97, 98, 99] := by kernel_rfl
set_option maxRecDepth 100000 in
set_option maxHeartbeats 1000000 in
theorem letter_any (w : World) : Calls Try.prog 15 #[] w fun e w' => e = .returned (.bool true) ∧ Below w.heap.size w w' := by
  go_enter Try.func15, Try.ntmps15
  go_wp2_with fail
  refine (newWriter_any w).mono ?_
  rintro e w1 ⟨rfl, hw1, hb1⟩
  have W1 := Lib.hid hw1
  have B1 := Lib.hid hb1
  clear hw1 hb1
  go_wp2_with fail
  refine (write_yes w.heap.size _ [] 0 ⟨#[97]⟩ w1 W1.out (by decide) syms_a (by simp)).mono ?_
  rintro e w2 ⟨rfl, v2, hw2, ht2, hv2⟩
  rw [List.nil_append] at hw2
  have W2 := Lib.hid hw2
  have B2 := Lib.hid (B1.out.trans (ht2.below (Nat.le_trans B1.out.size (Nat.le_refl _)) (fun i hi => (W1.out.lt i hi).2)))
  clear hw2 ht2 hv2
  go_wp2_with fail
  refine (wtake_any _ _ _ _ w2 W2.out).mono ?_
  rintro e w3 ⟨rfl, hw3, ht3⟩
  have B3 := Lib.hid (B2.out.trans (ht3.below B2.out.size (fun i hi => (W2.out.lt i hi).2)))
  have e4 : (byts (ubits (has (⟨#[97]⟩ : ByteArray).data.toList))).drop 0 = [2, 0, 64, 0] := byts_a
  rw [e4]
  clear hw3 ht3
  go_wp2_with fail
  refine (newReader_any ⟨#[2, 0, 64, 0]⟩ w3 (by decide)).mono ?_
  rintro e w4 ⟨b, v4, rfl, hr4, hb4, hf4⟩
  have R4 := Lib.hid hr4
  have B4 := Lib.hid (B3.out.trans (hb4.mono B3.out.size))
  have F4 := Lib.hid hf4
  clear hr4 hb4 hf4
  go_wp2_with fail
  refine (uread_any b v4 _ 0 0 0 w4 R4.out (by simp)).mono ?_
  rintro e w5 ⟨t, err, p', rfl, hr5, ht5, hm5⟩
  have B5 := Lib.hid (B4.out.trans (ht5.below B4.out.size (fun i hi => by
    have h1 := F4.out b (Or.inl rfl)
    have := B3.out.size
    have hi' : i = b := hi
    omega)))
  have hd : rdk ((bitsOf (⟨#[2, 0, 64, 0]⟩ : ByteArray).data.toList).drop (0 - 8 * 0)) 16 = some ((ubits (has [97])).length, has [97]) := by
    have := rdk_written (has [97]) (fun b hb => has_big _ b hb) []
    rw [byts_a] at this
    exact this
  rw [hd] at hm5
  have hsy : syms (has [97]) 256 = [97] := syms_has syms_a.1
  dsimp only at hm5
  rw [hsy] at hm5
  obtain ⟨h, _⟩ | ⟨_, rfl, rfl, _⟩ := hm5
  · cases h
  clear hr5 ht5 hd hsy
  go_wp2_with fail
  refine (symbols_any ⟨#[99, 97, 98, 97, 99]⟩ w5 (by decide)).mono ?_
  rintro e w6 ⟨rfl, hb6⟩
  have B6 := Lib.hid (B5.out.trans (hb6.mono B5.out.size))
  have e6 : syms (has (⟨#[99, 97, 98, 97, 99]⟩ : ByteArray).data.toList) 256 = [97, 98, 99] := syms_cabac
  rw [e6]
  clear hb6
  go_wp2_with fail
  go_ret
  exact ⟨rfl, B6.out⟩
set_option maxHeartbeats 1000000 in
theorem usedNil.walk (s : ByteArray) (w : World) (hs : s.size ≤ maxLen) : Calls Try.prog 8 #[.string s] w fun e w' => e = .returned (.bool true) ∧ Below w.heap.size w w' := by
  have hs2 : s.size ≤ 9223372036854775807 := by unfold maxLen at hs; omega
  by_cases hl : s.size ≤ 300
  · go_enter Try.func8, Try.ntmps8
    go_wp2_with fail
    refine (uread_nil w).mono ?_
    rintro e w' ⟨rfl, rfl⟩
    go_wp2_with fail
    refine (write_nil _ w).mono ?_
    rintro e w' ⟨rfl, rfl⟩
    go_wp2_with fail
    refine (letter_any w).mono ?_
    rintro e w1 ⟨rfl, hb⟩
    have HB := Lib.hid hb
    clear hb
    go_wp2_with fail
    go_ret
    exact ⟨rfl, HB.out⟩
  · go_enter Try.func8, Try.ntmps8
    go_wp2_with fail
    refine (letter_any w).mono ?_
    rintro e w1 ⟨rfl, hb⟩
    have HB := Lib.hid hb
    clear hb
    go_wp2_with fail
    go_ret
    exact ⟨rfl, HB.out⟩
end Go.Proofs.Ythpgddodfnjmbaa
