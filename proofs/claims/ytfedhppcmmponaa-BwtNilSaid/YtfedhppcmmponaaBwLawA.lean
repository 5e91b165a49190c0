/-
  LAYER 17's STATEMENTS: banana; BwtNil, BwtOf, BwtMost, BwtTurns, BwtBytes, BwtFrom.
-/
import Derived.Test.YtfedhppcmmponaaBwM
import Derived.Test.YtfedhppcmmponaaSrtLawC
namespace Go.Proofs.Ytfedhppcmmponaa
open Go.RowKit BwtM SrtM PkM
set_option linter.unusedVariables false
set_option linter.unusedSimpArgs false
theorem lastN_lasts {T : List UInt8} {P : List Nat} {n : Nat} (hn : T.length = n) (hP : IsSorted T P) : lastN T P n = lasts T P := by
  have hl : P.length = n := by rw [hP.1.length_eq, List.length_range, hn]
  unfold lastN lasts
  rw [List.take_of_length_le (by omega)]
  exact List.map_congr_left (fun p hp => lastB_rot (List.mem_range.1 (hP.1.mem_iff.1 hp)))
theorem turned_box (w : World) (L : ByteArray) (og : Int) : (w.alloc (.cells #[.string L, .int .i64 og] 47)).cell? ⟨w.heap.size, 0, none⟩ = some (.string L) ∧ (w.alloc (.cells #[.string L, .int .i64 og] 47)).cell? ⟨w.heap.size, 1, none⟩ = some (.int .i64 og) :=
  ⟨by rw [cell_of_row _ _ 0 _ _ _ (heap_alloc_new _ _)]; rfl, by rw [cell_of_row _ _ 1 _ _ _ (heap_alloc_new _ _)]; rfl⟩
set_option maxHeartbeats 1000000 in
theorem bof_empty (w : World) : Calls Try.prog 32 #[.string ⟨#[]⟩] w fun e w' => e = .returned (.tuple #[.string ⟨#[]⟩, .int .i64 0, .int .i64 1]) ∧ w' = w := by
  go_enter Try.func32, Try.ntmps32
  go_wp2_with fail
  refine (bnew_empty _).mono ?_
  rintro e w1 ⟨rfl, rfl⟩
  go_wp2_with fail
  go_ret3
  exact ⟨rfl, rfl⟩
set_option maxRecDepth 100000 in
set_option maxHeartbeats 4000000 in
theorem banana17_any (w : World) : Calls Try.prog 28 #[] w fun e w' => e = .returned (.bool true) ∧ Below w.heap.size w w' := by
  have H1 : Hid (∀ W, Calls Try.prog 32 #[.string ⟨#[98, 97, 110, 97, 110, 97]⟩] W fun e w' => e = .returned (.tuple #[.string ⟨#[110, 110, 98, 97, 97, 97]⟩, .int .i64 3, .int .i64 0]) ∧ Below W.heap.size W w') := Lib.hid (fun W => by
    refine (bof_any banT 6 W (by decide) (by omega) (by omega)).mono ?_
    rintro e w' ⟨⟨P, hs, rfl⟩, hb⟩
    have hp : P = [5, 3, 1, 0, 4, 2] := hs.same ban_sorted
    subst hp
    exact ⟨rfl, hb⟩)
  go_enter Try.func28, Try.ntmps28
  go_wp2_with fail
  refine (H1.out _).mono ?_
  rintro e w1 ⟨rfl, hb⟩
  have HB1 := Lib.hid hb
  clear hb
  go_wp2_with fail
  go_ret
  exact ⟨rfl, HB1.out⟩
set_option maxRecDepth 100000 in
set_option maxHeartbeats 4000000 in
theorem bwtNil.walk (n : Int) (w : World) (hn : (Lit.int .i64 n).wf = true) :
    Calls Try.prog 14 #[.int .i64 n] w fun e w' => e = .returned (.bool true) ∧ Below w.heap.size w w' := by
  have HBA := Lib.hid (fun W => banana17_any W)
  clear hn
  go_enter Try.func14, Try.ntmps14
  go_wp2_with fail
  refine (bresult_nil _).mono ?_
  rintro e w1 ⟨rfl, m1, rfl⟩
  have HB1 := Lib.hid (belowB_drewN w.heap.size w m1)
  go_wp2_with fail
  refine (bnew_empty _).mono ?_
  rintro e w2 ⟨rfl, rfl⟩
  go_wp2_with fail
  refine (bstep_nil n _).mono ?_
  rintro e w3 ⟨rfl, rfl⟩
  go_wp2_with fail
  refine (bdone_nil _).mono ?_
  rintro e w4 ⟨rfl, m2, rfl⟩
  have HB2 := Lib.hid (belowB_drewN w.heap.size w (m1 + m2))
  go_wp2_with fail
  refine (bsteps_nil _).mono ?_
  rintro e w5 ⟨rfl, rfl⟩
  go_wp2_with fail
  refine (bheld_nil _).mono ?_
  rintro e w6 ⟨rfl, rfl⟩
  go_wp2_with fail
  refine (HBA.out _).mono ?_
  rintro e w7 ⟨rfl, hb⟩
  have HB7 := Lib.hid (HB2.out.trans (hb.mono HB2.out.size))
  clear hb
  go_wp2_with fail
  go_ret
  exact ⟨rfl, HB7.out⟩
set_option maxRecDepth 100000 in
set_option maxHeartbeats 4000000 in
theorem bwtOf.walk (s : ByteArray) (w : World) (hs : s.size ≤ maxLen) :
    Calls Try.prog 9 #[.string s] w fun e w' => e = .returned (.bool true) ∧ Below w.heap.size w w' := by
  have HBA := Lib.hid (fun W => banana17_any W)
  clear hs
  by_cases hl : 60 < s.size
  · have hli : (60 : Int) < (s.size : Int) := by omega
    go_enter Try.func9, Try.ntmps9
    go_wp2_with fail
    refine (HBA.out _).mono ?_
    rintro e w1 ⟨rfl, hb1⟩
    have HB1 := Lib.hid hb1
    clear hb1
    go_wp2_with fail
    go_ret
    exact ⟨rfl, HB1.out⟩
  · have hli : ¬ (60 : Int) < (s.size : Int) := by omega
    by_cases h0 : s.size = 0
    · obtain rfl := no_bytes s h0
      clear hl hli h0
      have HOE : Hid (∀ W, Calls Try.prog 32 #[.string ByteArray.empty] W fun e w' => e = .returned (.tuple #[.string ⟨#[]⟩, .int .i64 0, .int .i64 1]) ∧ w' = W) := Lib.hid (fun W => bof_empty W)
      go_enter Try.func9, Try.ntmps9
      go_wp2_with fail
      refine (HOE.out _).mono ?_
      rintro e w1 ⟨rfl, rfl⟩
      go_wp2_with fail
      refine (HBA.out _).mono ?_
      rintro e w2 ⟨rfl, hb1⟩
      have HB1 := Lib.hid hb1
      clear hb1
      go_wp2_with fail
      go_ret
      exact ⟨rfl, HB1.out⟩
    · have hemp := some_bytes s (by omega)
      have HOF := Lib.hid (fun W => bof_any s s.size W rfl (by omega) (by omega))
      have HRO := Lib.hid (fun W => rof_any s s.size W rfl (by omega) (by omega))
      go_enter Try.func9, Try.ntmps9
      go_wp2_with fail
      refine (HOF.out _).mono ?_
      rintro e w1 ⟨⟨P, hP, rfl⟩, hb1⟩
      have HB1 := Lib.hid hb1
      have HP := Lib.hid hP
      clear hb1 hP
      obtain ⟨L, hL⟩ : ∃ L : ByteArray, (⟨(lastN s.data.toList P s.size).toArray⟩ : ByteArray) = L := ⟨_, rfl⟩
      obtain ⟨og, hog⟩ : ∃ og, orgN P s.size = og := ⟨_, rfl⟩
      have HL := Lib.hid (And.intro hL hog)
      rw [hL, hog]
      clear hL hog
      go_wp2_with fail
      refine (HRO.out _).mono ?_
      rintro e w2 ⟨⟨P2, hP2, rfl⟩, hb2⟩
      obtain rfl : P2 = P := hP2.same HP.out
      rw [HL.out.1, HL.out.2]
      have HB2 := Lib.hid (HB1.out.trans (hb2.mono HB1.out.size))
      clear hb2 hP2
      obtain ⟨c0, c1⟩ := turned_box w2 L (og : Int)
      have hLL : (L.toList == L.toList) = true := list_eq_test L L true ⟨fun _ => rfl, fun _ => rfl⟩
      have HB3 : Hid (Below w.heap.size w (w2.alloc (.cells #[.string L, .int .i64 (og : Int)] 47))) := Lib.hid (HB2.out.alloc HB2.out.size _)
      go_wp2_with fail
      refine (HBA.out _).mono ?_
      rintro e w3 ⟨rfl, hb3⟩
      have HB4 := Lib.hid (HB3.out.trans (hb3.mono HB3.out.size))
      clear hb3
      go_wp2_with fail
      go_ret
      exact ⟨rfl, HB4.out⟩
set_option maxRecDepth 100000 in
set_option maxHeartbeats 4000000 in
theorem bwtTurns.walk (s : ByteArray) (i : Int) (w : World) (hs : s.size ≤ maxLen) (hi : (Lit.int .i64 i).wf = true) :
    Calls Try.prog 12 #[.string s, .int .i64 i] w fun e w' => e = .returned (.bool true) ∧ Below w.heap.size w w' := by
  have HBA := Lib.hid (fun W => banana17_any W)
  clear hs hi
  by_cases hok : s.size ≤ 100 ∧ 0 ≤ i ∧ i < (s.size : Int)
  · obtain ⟨h1, h2, h3⟩ := hok
    obtain ⟨k, rfl⟩ : ∃ k : Nat, i = (k : Int) := ⟨i.toNat, by omega⟩
    have hk : k < s.size := by omega
    have hli : ¬ (100 : Int) < (s.size : Int) := by omega
    have hk0 : ¬ (k : Int) < 0 := by omega
    have hkn : ¬ (k : Int) ≥ (s.size : Int) := by omega
    have HOF := Lib.hid (fun W => bof_any s s.size W rfl (by omega) (by omega))
    have hrs := rotT_size s k (by omega)
    have HOG := Lib.hid (fun W => bof_any (rotT s k) s.size W hrs (by omega) (by omega))
    have HRT := Lib.hid (fun W => rrotation_any s k W (by omega) (by omega))
    have HL := Lib.hid (txt_len s)
    have HRD := Lib.hid (rotT_data s k)
    clear hrs
    go_enter Try.func12, Try.ntmps12
    go_wp2_with fail
    refine (HOF.out _).mono ?_
    rintro e w1 ⟨⟨P, hP, rfl⟩, hb1⟩
    have HB1 := Lib.hid hb1
    have HP := Lib.hid hP
    clear hb1 hP
    obtain ⟨L, hL⟩ : ∃ L : ByteArray, (⟨(lastN s.data.toList P s.size).toArray⟩ : ByteArray) = L := ⟨_, rfl⟩
    have HLE := Lib.hid hL
    rw [hL]
    clear hL
    go_wp2_with fail
    refine (HRT.out _).mono ?_
    rintro e w2 ⟨rfl, hb2⟩
    have HB2 := Lib.hid (HB1.out.trans (hb2.mono HB1.out.size))
    clear hb2
    go_wp2_with fail
    refine (HOG.out _).mono ?_
    rintro e w3 ⟨⟨Q, hQ, rfl⟩, hb3⟩
    have HB3 := Lib.hid (HB2.out.trans (hb3.mono HB2.out.size))
    have he : (⟨(lastN (rotT s k).data.toList Q s.size).toArray⟩ : ByteArray) = L := by
      rw [← HLE.out]
      rw [HRD.out] at hQ ⊢
      have hl := HL.out
      rw [lastN_lasts hl HP.out, lastN_lasts (by rw [rot_len _ _ (by rw [hl]; omega), hl]) hQ, lasts_turn (by rw [hl]; omega) HP.out.ord hQ.ord]
    rw [he]
    clear hb3 hQ he
    have hLL : (L.toList == L.toList) = true := list_eq_test L L true ⟨fun _ => rfl, fun _ => rfl⟩
    go_wp2_with fail
    refine (HBA.out _).mono ?_
    rintro e w4 ⟨rfl, hb4⟩
    have HB4 := Lib.hid (HB3.out.trans (hb4.mono HB3.out.size))
    clear hb4
    go_wp2_with fail
    go_ret
    exact ⟨rfl, HB4.out⟩
  · by_cases h1 : 100 < s.size
    · have h1i : (100 : Int) < (s.size : Int) := by omega
      clear hok h1
      go_enter Try.func12, Try.ntmps12
      go_wp2_with fail
      refine (HBA.out _).mono ?_
      rintro e w1 ⟨rfl, hb1⟩
      have HB1 := Lib.hid hb1
      clear hb1
      go_wp2_with fail
      go_ret
      exact ⟨rfl, HB1.out⟩
    · have h1i : ¬ (100 : Int) < (s.size : Int) := by omega
      by_cases h2 : i < 0
      · clear hok h1
        go_enter Try.func12, Try.ntmps12
        go_wp2_with fail
        refine (HBA.out _).mono ?_
        rintro e w1 ⟨rfl, hb1⟩
        have HB1 := Lib.hid hb1
        clear hb1
        go_wp2_with fail
        go_ret
        exact ⟨rfl, HB1.out⟩
      · have h3 : i ≥ (s.size : Int) := by omega
        clear hok h1
        go_enter Try.func12, Try.ntmps12
        go_wp2_with fail
        refine (HBA.out _).mono ?_
        rintro e w1 ⟨rfl, hb1⟩
        have HB1 := Lib.hid hb1
        clear hb1
        go_wp2_with fail
        go_ret
        exact ⟨rfl, HB1.out⟩
end Go.Proofs.Ytfedhppcmmponaa
