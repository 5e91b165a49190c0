/-
  LAYER 15's STATEMENTS: banana; RotateCompares, RotatePeriods, RotateSorts, RotateAlike.
-/
import Derived.Test.YthkiaddmgggbpaaRotG
namespace Go.Proofs.Ythkiaddmgggbpaa
open Go.RowKit BwtM PkM
set_option linter.unusedVariables false
def aheadB (T : List UInt8) (i k : Nat) : Bool := Op.bytesLess (rot T i) (rot T k) || (rot T i == rot T k && decide (i < k))
theorem aheadB_iff (T : List UInt8) (i k : Nat) : aheadB T i k = true ↔ Ahead T i k := by
  unfold aheadB Ahead
  rw [Bool.or_eq_true, bytesLess_iff, Bool.and_eq_true, beq_iff_eq, decide_eq_true_eq]
def banT : ByteArray := ⟨#[98, 97, 110, 97, 110, 97]⟩
def abT : ByteArray := ⟨#[97, 98, 97, 98]⟩
theorem isSorted_of {T : List UInt8} {P : List Nat} (h1 : P.Perm (List.range T.length)) (h2 : P.Pairwise (fun i k => aheadB T i k = true)) : IsSorted T P := ⟨h1, h2.imp (fun h => (aheadB_iff _ _ _).1 h)⟩
theorem ban_sorted : IsSorted [98, 97, 110, 97, 110, 97] [5, 3, 1, 0, 4, 2] := isSorted_of (by decide) (by decide)
theorem ab_sorted : IsSorted [97, 98, 97, 98] [0, 2, 1, 3] := isSorted_of (by decide) (by decide)
theorem ab_period : IsPeriod [97, 98, 97, 98] 2 := ⟨by decide, by decide, by decide, fun q h1 h2 h3 => by
  rcases (by omega : q = 1 ∨ 2 ≤ q) with rfl | h
  · exact absurd h3 (by decide)
  · exact h⟩
theorem ban_least : IsLeast [98, 97, 110, 97, 110, 97] 5 := ⟨by decide, fun j hj h => by
  have h2 : ∀ j, j < 6 → aheadB [98, 97, 110, 97, 110, 97] j 5 = false := by decide
  have h3 := h2 j hj
  rw [(aheadB_iff _ _ _).2 h] at h3
  cases h3⟩
theorem ints_lits (w : World) (zs : List Int) (N : Nat) (hN : N = zs.length) : IsInts (w.alloc (.cells (zs.map iv64).toArray 3)) (.slice (some ⟨w.heap.size, 0, none⟩) N N) zs :=
  ints_of_row (rest := []) (t := 3) (by rw [List.append_nil]; exact heap_alloc_new _ _) hN
set_option maxRecDepth 100000 in
set_option maxHeartbeats 4000000 in
theorem banana15_any (w : World) : Calls Try.prog 13 #[] w fun e w' => e = .returned (.bool true) ∧ Below w.heap.size w w' := by
  have h1 := Lib.hid (rotation_any banT 4 w (by decide) (by decide))
  have hr : rotT banT 4 = ⟨#[110, 97, 98, 97, 110, 97]⟩ := by decide
  rw [hr] at h1
  have H1 : Hid (Calls Try.prog 14 #[.string ⟨#[98, 97, 110, 97, 110, 97]⟩, .int .i64 4] w fun e w' => e = .returned (.tuple #[.string ⟨#[110, 97, 98, 97, 110, 97]⟩, .int .i64 0]) ∧ Below w.heap.size w w') := h1
  have HS1 : Hid (∀ W v, IsInts W v [5, 3, 1, 0, 4, 2] → Calls Try.prog 24 #[.string ⟨#[98, 97, 110, 97, 110, 97]⟩, v] W fun e w' => e = .returned (.bool true) ∧ Below W.heap.size W w') := Lib.hid (fun W v hv => sorted_any banT v [5, 3, 1, 0, 4, 2] true W hv (by decide) (by decide) ⟨fun _ => ⟨[5, 3, 1, 0, 4, 2], ban_sorted, rfl⟩, fun _ => rfl⟩)
  have HS2 : Hid (∀ W v, IsInts W v [0, 2, 1, 3] → Calls Try.prog 24 #[.string ⟨#[97, 98, 97, 98]⟩, v] W fun e w' => e = .returned (.bool true) ∧ Below W.heap.size W w') := Lib.hid (fun W v hv => sorted_any abT v [0, 2, 1, 3] true W hv (by decide) (by decide) ⟨fun _ => ⟨[0, 2, 1, 3], ab_sorted, rfl⟩, fun _ => rfl⟩)
  have HP : Hid (∀ W, Calls Try.prog 21 #[.string ⟨#[97, 98, 97, 98]⟩] W fun e w' => e = .returned (.int .i64 2) ∧ Below W.heap.size W w') := Lib.hid (fun W => by
    refine (period_any abT W (by decide) (by decide)).mono ?_
    rintro e w' ⟨⟨p, rfl, hp⟩, hb⟩
    obtain rfl : p = 2 := period_one hp ab_period
    exact ⟨rfl, hb⟩)
  have HL : Hid (∀ W, Calls Try.prog 20 #[.string ⟨#[98, 97, 110, 97, 110, 97]⟩] W fun e w' => e = .returned (.int .i64 5) ∧ Below W.heap.size W w') := Lib.hid (fun W => by
    refine (least_any banT W (by decide) (by decide)).mono ?_
    rintro e w' ⟨⟨p, rfl, hp⟩, hb⟩
    obtain rfl : p = 5 := hp.one ban_least
    exact ⟨rfl, hb⟩)
  clear hr h1
  go_enter Try.func13, Try.ntmps13
  go_wp2_with fail
  refine H1.out.mono ?_
  rintro e w1 ⟨rfl, hb1⟩
  have HB1 := Lib.hid hb1
  clear hb1
  have I1 : Hid (IsInts (w1.alloc (.cells #[.int .i64 5, .int .i64 3, .int .i64 1, .int .i64 0, .int .i64 4, .int .i64 2] 3)) (.slice (some ⟨w1.heap.size, 0, none⟩) 6 6) [5, 3, 1, 0, 4, 2]) := Lib.hid (ints_lits w1 [5, 3, 1, 0, 4, 2] 6 rfl)
  have HB2 := Lib.hid (HB1.out.alloc HB1.out.size (.cells #[.int .i64 5, .int .i64 3, .int .i64 1, .int .i64 0, .int .i64 4, .int .i64 2] 3))
  go_wp2_with fail
  refine (HS1.out _ _ I1.out).mono ?_
  rintro e w2 ⟨rfl, hb2⟩
  have HB3 := Lib.hid (HB2.out.trans (hb2.mono HB2.out.size))
  clear hb2
  have I2 : Hid (IsInts (w2.alloc (.cells #[.int .i64 0, .int .i64 2, .int .i64 1, .int .i64 3] 3)) (.slice (some ⟨w2.heap.size, 0, none⟩) 4 4) [0, 2, 1, 3]) := Lib.hid (ints_lits w2 [0, 2, 1, 3] 4 rfl)
  have HB4 := Lib.hid (HB3.out.alloc HB3.out.size (.cells #[.int .i64 0, .int .i64 2, .int .i64 1, .int .i64 3] 3))
  go_wp2_with fail
  refine (HS2.out _ _ I2.out).mono ?_
  rintro e w3 ⟨rfl, hb3⟩
  have HB5 := Lib.hid (HB4.out.trans (hb3.mono HB4.out.size))
  clear hb3
  go_wp2_with fail
  refine (HP.out _).mono ?_
  rintro e w4 ⟨rfl, hb4⟩
  have HB6 := Lib.hid (HB5.out.trans (hb4.mono HB5.out.size))
  clear hb4
  go_wp2_with fail
  refine (HL.out _).mono ?_
  rintro e w5 ⟨rfl, hb5⟩
  have HB7 := Lib.hid (HB6.out.trans (hb5.mono HB6.out.size))
  clear hb5
  go_wp2_with fail
  go_ret
  exact ⟨rfl, HB7.out⟩
/-- What two rotations as texts are, by what Compare tells. -/
theorem isCmp_texts {s : ByteArray} {i k : Nat} {c : Int} (hi : i < s.size) (hk : k < s.size) (h : IsCmp s.data.toList i k c) :
    (c = -1 ∧ Op.bytesLess (rotT s i).toList (rotT s k).toList = true ∧ ((rotT s i).toList == (rotT s k).toList) = false) ∨
    (c = 0 ∧ Op.bytesLess (rotT s i).toList (rotT s k).toList = false ∧ ((rotT s i).toList == (rotT s k).toList) = true) ∨
    (c = 1 ∧ Op.bytesLess (rotT s i).toList (rotT s k).toList = false ∧ ((rotT s i).toList == (rotT s k).toList) = false) := by
  have hil : i ≤ s.data.toList.length := by rw [txt_len]; omega
  have hkl : k ≤ s.data.toList.length := by rw [txt_len]; omega
  have hbl := bl_rot s i k
  have heq := fun r h => list_eq_test (rotT s i) (rotT s k) r h
  rw [rotT_eq] at heq
  rw [← ltH_rot hil hkl] at hbl
  rw [← eqH_rot hil hkl] at heq
  rcases h with ⟨rfl, h⟩ | ⟨rfl, h⟩ | ⟨rfl, h⟩
  · exact Or.inl ⟨rfl, hbl.2 h, heq false ⟨fun e => (by cases e), fun e => absurd e h.noteq⟩⟩
  · exact Or.inr (Or.inl ⟨rfl, by rw [Bool.eq_false_iff, Ne, hbl]; exact fun g => g.noteq h, heq true ⟨fun _ => h, fun _ => rfl⟩⟩)
  · exact Or.inr (Or.inr ⟨rfl, by rw [Bool.eq_false_iff, Ne, hbl]; exact fun g => g.asym h, heq false ⟨fun e => (by cases e), fun e => absurd e.symm h.noteq⟩⟩)
theorem bool_of (p : Prop) : ∃ r : Bool, r = true ↔ p := by
  by_cases h : p
  · exact ⟨true, fun _ => h, fun _ => rfl⟩
  · exact ⟨false, fun e => (by cases e), fun e => absurd e h⟩
set_option maxRecDepth 100000 in
set_option maxHeartbeats 4000000 in
theorem rotateCompares.walk (s : ByteArray) (i k : Int) (w : World) (hs : s.size ≤ maxLen) (hi : (Lit.int .i64 i).wf = true) (hk : (Lit.int .i64 k).wf = true) :
    Calls Try.prog 3 #[.string s, .int .i64 i, .int .i64 k] w fun e w' => e = .returned (.bool true) ∧ Below w.heap.size w w' := by
  have HBA := Lib.hid (fun W => banana15_any W)
  clear hs hi hk
  by_cases hl : 300 < s.size
  · have hli : (300 : Int) < (s.size : Int) := by omega
    go_enter Try.func3, Try.ntmps3
    go_wp2_with fail
    refine (HBA.out _).mono ?_
    rintro e w1 ⟨rfl, hb1⟩
    have HB1 := Lib.hid hb1
    clear hb1
    go_wp2_with fail
    go_ret
    exact ⟨rfl, HB1.out⟩
  · have hli : ¬ (300 : Int) < (s.size : Int) := by omega
    by_cases pi : 0 ≤ i ∧ i < (s.size : Int)
    · obtain ⟨a, rfl⟩ : ∃ a : Nat, i = (a : Int) := ⟨i.toNat, by omega⟩
      have ha : a < s.size := by omega
      have HP1 := Lib.hid (fun W => lawPlace_any s (a : Int) true W ⟨fun _ => pi, fun _ => rfl⟩)
      have HRO := Lib.hid (fun W => rotation_any s a W (by omega) ha)
      have HRR := Lib.hid (fun W => rrotation_any s a W (by omega) (Nat.le_of_lt ha))
      by_cases pk : 0 ≤ k ∧ k < (s.size : Int)
      · obtain ⟨b, rfl⟩ : ∃ b : Nat, k = (b : Int) := ⟨k.toNat, by omega⟩
        have hb : b < s.size := by omega
        have HP2 := Lib.hid (fun W => lawPlace_any s (b : Int) true W ⟨fun _ => pk, fun _ => rfl⟩)
        have HRB := Lib.hid (fun W => rrotation_any s b W (by omega) (Nat.le_of_lt hb))
        have HCO := Lib.hid (fun W => compare_any s a b W (by omega) ha hb)
        obtain ⟨r, hr⟩ := bool_of (Ahead s.data.toList a b)
        have HA1 := Lib.hid (fun W => ahead_any s a b r W (by omega) ha hb hr)
        have HA2 := Lib.hid (fun W => rahead_any s a b r W (by omega) ha hb hr)
        have HTX := Lib.hid (fun c (h : IsCmp s.data.toList a b c) => isCmp_texts ha hb h)
        have hrr : (r == r) = true := by simp
        have hAA : ((rotT s a).toList != (rotT s a).toList) = false := by simp
        clear pi pk hr ha hb hl
        generalize rotT s a = A at *
        generalize rotT s b = B at *
        go_enter Try.func3, Try.ntmps3
        go_wp2_with fail
        refine (HRO.out _).mono ?_
        rintro e w1 ⟨rfl, hb1⟩
        have HB1 := Lib.hid hb1
        clear hb1
        go_wp2_with fail
        refine (HCO.out _).mono ?_
        rintro e w2 ⟨⟨c, rfl, hc⟩, hb2⟩
        have hcc := HTX.out c hc
        have HB2 := Lib.hid (HB1.out.trans (hb2.mono HB1.out.size))
        clear hb2 hc
        go_wp2_with fail
        refine (HP1.out _).mono ?_
        rintro e w' ⟨rfl, rfl⟩
        go_wp2_with fail
        refine (HRR.out _).mono ?_
        rintro e w3 ⟨rfl, hb3⟩
        have HB3 := Lib.hid (HB2.out.trans (hb3.mono HB2.out.size))
        clear hb3
        go_wp2_with fail
        refine (HP1.out _).mono ?_
        rintro e w' ⟨rfl, rfl⟩
        go_wp2_with fail
        refine (HP2.out _).mono ?_
        rintro e w' ⟨rfl, rfl⟩
        go_wp2_with fail
        refine (HRR.out _).mono ?_
        rintro e w4 ⟨rfl, hb4⟩
        have HB4 := Lib.hid (HB3.out.trans (hb4.mono HB3.out.size))
        clear hb4
        go_wp2_with fail
        refine (HRB.out _).mono ?_
        rintro e w5 ⟨rfl, hb5⟩
        have HB5 := Lib.hid (HB4.out.trans (hb5.mono HB4.out.size))
        clear hb5
        rcases hcc with ⟨rfl, hbl, hbe⟩ | ⟨rfl, hbl, hbe⟩ | ⟨rfl, hbl, hbe⟩
        all_goals
          go_wp2_with fail
          refine (HA1.out _).mono ?_
          rintro e w6 ⟨rfl, hb6⟩
          have HB6 := Lib.hid (HB5.out.trans (hb6.mono HB5.out.size))
          clear hb6
          go_wp2_with fail
          refine (HA2.out _).mono ?_
          rintro e w7 ⟨rfl, hb7⟩
          have HB7 := Lib.hid (HB6.out.trans (hb7.mono HB6.out.size))
          clear hb7
          go_wp2_with fail
          refine (HBA.out _).mono ?_
          rintro e w8 ⟨rfl, hb8⟩
          have HB8 := Lib.hid (HB7.out.trans (hb8.mono HB7.out.size))
          clear hb8
          go_wp2_with fail
          go_ret
          exact ⟨rfl, HB8.out⟩
      · have HP2 := Lib.hid (fun W => lawPlace_any s k false W ⟨fun e => (by cases e), fun e => absurd e pk⟩)
        have HCO := Lib.hid (fun W => compare_no s (a : Int) k W (fun h => pk h.2))
        have HA1 := Lib.hid (fun W => ahead_no s (a : Int) k W (fun h => pk h.2))
        have hAA : ((rotT s a).toList != (rotT s a).toList) = false := by simp
        clear pi pk ha hl
        generalize rotT s a = A at *
        go_enter Try.func3, Try.ntmps3
        go_wp2_with fail
        refine (HRO.out _).mono ?_
        rintro e w1 ⟨rfl, hb1⟩
        have HB1 := Lib.hid hb1
        clear hb1
        go_wp2_with fail
        refine (HCO.out _).mono ?_
        rintro e w' ⟨rfl, rfl⟩
        go_wp2_with fail
        refine (HP1.out _).mono ?_
        rintro e w' ⟨rfl, rfl⟩
        go_wp2_with fail
        refine (HRR.out _).mono ?_
        rintro e w3 ⟨rfl, hb3⟩
        have HB3 := Lib.hid (HB1.out.trans (hb3.mono HB1.out.size))
        clear hb3
        go_wp2_with fail
        refine (HP1.out _).mono ?_
        rintro e w' ⟨rfl, rfl⟩
        go_wp2_with fail
        refine (HP2.out _).mono ?_
        rintro e w' ⟨rfl, rfl⟩
        go_wp2_with fail
        refine (HA1.out _).mono ?_
        rintro e w' ⟨rfl, rfl⟩
        go_wp2_with fail
        refine (HBA.out _).mono ?_
        rintro e w8 ⟨rfl, hb8⟩
        have HB8 := Lib.hid (HB3.out.trans (hb8.mono HB3.out.size))
        clear hb8
        go_wp2_with fail
        go_ret
        exact ⟨rfl, HB8.out⟩
    · have HP1 := Lib.hid (fun W => lawPlace_any s i false W ⟨fun e => (by cases e), fun e => absurd e pi⟩)
      have HRO := Lib.hid (fun W => rotation_no s i W pi)
      have HCO := Lib.hid (fun W => compare_no s i k W (fun h => pi h.1))
      have HA1 := Lib.hid (fun W => ahead_no s i k W (fun h => pi h.1))
      clear pi hl
      go_enter Try.func3, Try.ntmps3
      go_wp2_with fail
      refine (HRO.out _).mono ?_
      rintro e w' ⟨rfl, rfl⟩
      go_wp2_with fail
      refine (HCO.out _).mono ?_
      rintro e w' ⟨rfl, rfl⟩
      go_wp2_with fail
      refine (HP1.out _).mono ?_
      rintro e w' ⟨rfl, rfl⟩
      go_wp2_with fail
      refine (HP1.out _).mono ?_
      rintro e w' ⟨rfl, rfl⟩
      go_wp2_with fail
      refine (HA1.out _).mono ?_
      rintro e w' ⟨rfl, rfl⟩
      go_wp2_with fail
      refine (HBA.out _).mono ?_
      rintro e w8 ⟨rfl, hb8⟩
      have HB8 := Lib.hid hb8
      clear hb8
      go_wp2_with fail
      go_ret
      exact ⟨rfl, HB8.out⟩
end Go.Proofs.Ythkiaddmgggbpaa
