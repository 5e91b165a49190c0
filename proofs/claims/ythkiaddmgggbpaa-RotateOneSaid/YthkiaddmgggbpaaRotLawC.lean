/-
  LAYER 15's STATEMENTS: RotateOne.
-/
import Derived.Test.YthkiaddmgggbpaaRotLawB
namespace Go.Proofs.Ythkiaddmgggbpaa
open Go.RowKit BwtM PkM
set_option linter.unusedVariables false
theorem pair_boxed (w : World) (x y : Int) : (w.alloc (.cells #[.int .i64 x, .int .i64 y] 37)).cell? ⟨w.heap.size, 0, none⟩ = some (.int .i64 x) ∧ (w.alloc (.cells #[.int .i64 x, .int .i64 y] 37)).cell? ⟨w.heap.size, 1, none⟩ = some (.int .i64 y) :=
  ⟨by rw [cell_of_row _ _ 0 _ _ _ (heap_alloc_new _ _)]; rfl, by rw [cell_of_row _ _ 1 _ _ _ (heap_alloc_new _ _)]; rfl⟩
set_option maxRecDepth 100000 in
set_option maxHeartbeats 4000000 in
theorem rotateOne.walk (s : ByteArray) (q0 q1 : Int) (m : Int) (w : World) (hs : s.size ≤ maxLen) (hq : (Lit.int .i64 q0).wf = true ∧ (Lit.int .i64 q1).wf = true) (hm : (Lit.int .u8 m).wf = true) :
    Calls Try.prog 7 #[.string s, .agg #[.int .i64 q0, .int .i64 q1], .int .u8 m] w fun e w' => e = .returned (.bool true) ∧ Below w.heap.size w w' := by
  have HBA := Lib.hid (fun W => banana15_any W)
  obtain ⟨c0, c1⟩ := pair_boxed w q0 q1
  have HB0 : Hid (Below w.heap.size w (w.alloc (.cells #[.int .i64 q0, .int .i64 q1] 37))) := Lib.hid ((Below.refl _ _).alloc (Nat.le_refl _) _)
  have hmb : 0 ≤ m ∧ m ≤ 255 := by simpa [Lit.wf, IntKind.min, IntKind.max, IntKind.signed, IntKind.bits] using hm
  clear hs hq hm
  by_cases hl : 300 < s.size
  · have hli : (300 : Int) < (s.size : Int) := by omega
    go_enter Try.func7, Try.ntmps7
    go_wp2_with fail
    refine (HBA.out _).mono ?_
    rintro e w1 ⟨rfl, hb1⟩
    have HB1 := Lib.hid (HB0.out.trans (hb1.mono HB0.out.size))
    clear hb1
    go_wp2_with fail
    go_ret
    exact ⟨rfl, HB1.out⟩
  · have hli : ¬ (300 : Int) < (s.size : Int) := by omega
    by_cases pi : 0 ≤ q0 ∧ q0 < (s.size : Int)
    · obtain ⟨i, rfl⟩ : ∃ i : Nat, q0 = (i : Int) := ⟨q0.toNat, by omega⟩
      have hi : i < s.size := by omega
      have HP1 := Lib.hid (fun W => lawPlace_any s (i : Int) true W ⟨fun _ => pi, fun _ => rfl⟩)
      by_cases pk : 0 ≤ q1 ∧ q1 < (s.size : Int)
      · obtain ⟨k, rfl⟩ : ∃ k : Nat, q1 = (k : Int) := ⟨q1.toNat, by omega⟩
        have hk : k < s.size := by omega
        have HP2 := Lib.hid (fun W => lawPlace_any s (k : Int) true W ⟨fun _ => pk, fun _ => rfl⟩)
        obtain ⟨M, rfl⟩ : ∃ M : Nat, m = (M : Int) := ⟨m.toNat, by omega⟩
        have hx := tmod_nat M s.size
        have hxl : M % s.size < s.size := Nat.mod_lt _ (by omega)
        have hn0 : ((s.size : Int) == 0) = false := by rw [beq_eq_false_iff_ne]; omega
        have hM2 : IntKind.i64.wrap (M : Int) = (M : Int) := IntWalk.i64_in _ (by omega)
        have hM3 : (M : Int) < 256 := by omega
        obtain ⟨x, hxx⟩ : ∃ x, M % s.size = x := ⟨_, rfl⟩
        rw [hxx] at hx hxl
        obtain ⟨r1, hr1⟩ := bool_of (Ahead s.data.toList i k)
        obtain ⟨r2, hr2⟩ := bool_of (Ahead s.data.toList k i)
        obtain ⟨r3, hr3⟩ := bool_of (Ahead s.data.toList k x)
        obtain ⟨r4, hr4⟩ := bool_of (Ahead s.data.toList i x)
        have H1 := Lib.hid (fun W => ahead_any s i k r1 W (by omega) hi hk hr1)
        have H2 := Lib.hid (fun W => ahead_any s k i r2 W (by omega) hk hi hr2)
        have H3 := Lib.hid (fun W => ahead_any s k x r3 W (by omega) hk hxl hr3)
        have H4 := Lib.hid (fun W => ahead_any s i x r4 W (by omega) hi hxl hr4)
        have hcase : (r1 = false ∧ r2 = false ∧ ((i : Int) != (k : Int)) = false) ∨ (r1 = false ∧ r2 = true ∧ ((i : Int) != (k : Int)) = true) ∨ (r1 = true ∧ r2 = false ∧ ((i : Int) != (k : Int)) = true ∧ (r3 = true → r4 = true)) := by
          by_cases e : i = k
          · subst e
            have h1 : ¬ Ahead s.data.toList i i := fun h => ahead_asym h h
            exact Or.inl ⟨by rw [Bool.eq_false_iff, Ne, hr1]; exact h1, by rw [Bool.eq_false_iff, Ne, hr2]; exact h1, by simp⟩
          · have hne : ((i : Int) != (k : Int)) = true := by rw [bne_iff_ne]; omega
            rcases ahead_total (T := s.data.toList) e with h | h
            · exact Or.inr (Or.inr ⟨hr1.2 h, by rw [Bool.eq_false_iff, Ne, hr2]; exact ahead_asym h, hne, fun h3 => hr4.2 (ahead_trans h (hr3.1 h3))⟩)
            · exact Or.inr (Or.inl ⟨by rw [Bool.eq_false_iff, Ne, hr1]; exact ahead_asym h, hr2.2 h, hne⟩)
        clear pi pk hr1 hr2 hr3 hr4 hi hk hl hxx
        go_enter Try.func7, Try.ntmps7
        go_wp2_with fail
        refine (HP1.out _).mono ?_
        rintro e w' ⟨rfl, rfl⟩
        go_wp2_with fail
        refine (HP2.out _).mono ?_
        rintro e w' ⟨rfl, rfl⟩
        go_wp2_with fail
        refine (H1.out _).mono ?_
        rintro e w2 ⟨rfl, hb2⟩
        have HB2 := Lib.hid (HB0.out.trans (hb2.mono HB0.out.size))
        clear hb2
        go_wp2_with fail
        refine (H2.out _).mono ?_
        rintro e w3 ⟨rfl, hb3⟩
        have HB3 := Lib.hid (HB2.out.trans (hb3.mono HB2.out.size))
        clear hb3
        rcases hcase with ⟨rfl, rfl, hne⟩ | ⟨rfl, rfl, hne⟩ | ⟨rfl, rfl, hne, h34⟩
        · go_wp2_with fail
          refine (HBA.out _).mono ?_
          rintro e w8 ⟨rfl, hb8⟩
          have HB8 := Lib.hid (HB3.out.trans (hb8.mono HB3.out.size))
          clear hb8
          go_wp2_with fail
          go_ret
          exact ⟨rfl, HB8.out⟩
        · go_wp2_with fail
          refine (HBA.out _).mono ?_
          rintro e w8 ⟨rfl, hb8⟩
          have HB8 := Lib.hid (HB3.out.trans (hb8.mono HB3.out.size))
          clear hb8
          go_wp2_with fail
          go_ret
          exact ⟨rfl, HB8.out⟩
        · go_wp2_with fail
          refine (H3.out _).mono ?_
          rintro e w4 ⟨rfl, hb4⟩
          have HB4 := Lib.hid (HB3.out.trans (hb4.mono HB3.out.size))
          clear hb4
          cases r3 with
          | true =>
            obtain rfl : r4 = true := h34 rfl
            clear h34
            go_wp2_with fail
            refine (H4.out _).mono ?_
            rintro e w5 ⟨rfl, hb5⟩
            have HB5 := Lib.hid (HB4.out.trans (hb5.mono HB4.out.size))
            clear hb5
            go_wp2_with fail
            refine (HBA.out _).mono ?_
            rintro e w8 ⟨rfl, hb8⟩
            have HB8 := Lib.hid (HB5.out.trans (hb8.mono HB5.out.size))
            clear hb8
            go_wp2_with fail
            go_ret
            exact ⟨rfl, HB8.out⟩
          | false =>
            clear h34
            go_wp2_with fail
            refine (HBA.out _).mono ?_
            rintro e w8 ⟨rfl, hb8⟩
            have HB8 := Lib.hid (HB4.out.trans (hb8.mono HB4.out.size))
            clear hb8
            go_wp2_with fail
            go_ret
            exact ⟨rfl, HB8.out⟩
      · have HP2 := Lib.hid (fun W => lawPlace_any s q1 false W ⟨fun e => (by cases e), fun e => absurd e pk⟩)
        clear pi pk hi hl
        go_enter Try.func7, Try.ntmps7
        go_wp2_with fail
        refine (HP1.out _).mono ?_
        rintro e w' ⟨rfl, rfl⟩
        go_wp2_with fail
        refine (HP2.out _).mono ?_
        rintro e w' ⟨rfl, rfl⟩
        go_wp2_with fail
        refine (HBA.out _).mono ?_
        rintro e w8 ⟨rfl, hb8⟩
        have HB8 := Lib.hid (HB0.out.trans (hb8.mono HB0.out.size))
        clear hb8
        go_wp2_with fail
        go_ret
        exact ⟨rfl, HB8.out⟩
    · have HP1 := Lib.hid (fun W => lawPlace_any s q0 false W ⟨fun e => (by cases e), fun e => absurd e pi⟩)
      clear pi hl
      go_enter Try.func7, Try.ntmps7
      go_wp2_with fail
      refine (HP1.out _).mono ?_
      rintro e w' ⟨rfl, rfl⟩
      go_wp2_with fail
      refine (HBA.out _).mono ?_
      rintro e w8 ⟨rfl, hb8⟩
      have HB8 := Lib.hid (HB0.out.trans (hb8.mono HB0.out.size))
      clear hb8
      go_wp2_with fail
      go_ret
      exact ⟨rfl, HB8.out⟩
end Go.Proofs.Ythkiaddmgggbpaa
