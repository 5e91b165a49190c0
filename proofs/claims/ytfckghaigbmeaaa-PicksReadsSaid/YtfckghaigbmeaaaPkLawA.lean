/-
  LAYER 13's STATEMENTS: three picks; PicksNil, PicksWrites.
-/
import Derived.Test.YtfckghaigbmeaaaPkC
import Derived.Test.YtfckghaigbmeaaaPkG
import Derived.Test.YtfckghaigbmeaaaPkRef
import Derived.Test.YtfckghaigbmeaaaBitsPack
namespace Go.Proofs.Ytfckghaigbmeaaa
open Go.RowKit PkM BitM
set_option linter.unusedVariables false
theorem pk3_q : [] ++ allB [1, 1, 0] 2 = [false, true, false, false, false, false, false, false, false, false, false, false, false, false, false, false, true, true, true, false, false, true, false] := by decide
theorem pk3_pad : byts ([false, true, false, false, false, false, false, false, false, false, false, false, false, false, false, false, true, true, true, false, false, true, false] ++ padding [false, true, false, false, false, false, false, false, false, false, false, false, false, false, false, false, true, true, true, false, false, true, false]) = [64, 0, 228] := by decide
theorem pk3_rd : rd ((bitsOf [64, 0, 228]).drop 0) = .ok [1, 1, 0] 23 := by rfl
theorem pk3_t : num (((bitsOf [64, 0, 228]).drop 0).take 3) = 2 := by decide
theorem pk3_may : May [1, 1, 0] 2 := ⟨by decide, by decide, by decide, by decide, by decide⟩
set_option maxRecDepth 100000 in
set_option maxHeartbeats 2000000 in
theorem pkThree_any (w : World) : Calls Try.prog 9 #[] w fun e w' => e = .returned (.bool true) ∧ Below w.heap.size w w' := by
  have HM := Lib.hid pk3_may
  go_enter Try.func9, Try.ntmps9
  go_wp2_with fail
  refine (newWriter_any w).mono ?_
  rintro e w1 ⟨rfl, hw1, hb1⟩
  have W2 : Hid (IsWriter (w1.alloc (.cells #[.int .i64 1, .int .i64 1, .int .i64 0] 3)) w.heap.size (.slice none 0 0) [] 0) := Lib.hid (hw1.other (Touch.ofBelow (S := fun _ => False) ((Below.refl _ _).alloc (Nat.le_refl _) _)) (fun _ _ h => h))
  have I2 : Hid (IsInts (w1.alloc (.cells #[.int .i64 1, .int .i64 1, .int .i64 0] 3)) (.slice (some ⟨w1.heap.size, 0, none⟩) 3 3) (toI [1, 1, 0])) := Lib.hid (ints_lit w1 1 1 0)
  have B2 : Hid (Below w.heap.size w (w1.alloc (.cells #[.int .i64 1, .int .i64 1, .int .i64 0] 3))) := Lib.hid (hb1.alloc hb1.size _)
  have hlt : Hid (w.heap.size < w1.heap.size) := Lib.hid (hw1.lt _ (Or.inl rfl)).1
  clear hw1 hb1
  go_wp2_with fail
  refine (pwrite_any w.heap.size _ _ [1, 1, 0] 2 [] 0 _ W2.out (fun w' ht => I2.out.other ht (by
    intro k hk hf
    simp [Value.ownBlock] at hk
    subst hk
    rcases hf with h | h
    · have := hlt.out; omega
    · simp [Value.ownBlock] at h)) HM.out (by simp)).mono ?_
  rintro e w3 ⟨rfl, v3, hw3, ht3, _⟩
  rw [pk3_q] at hw3
  have W3 := Lib.hid hw3
  have B3 := Lib.hid (B2.out.trans (ht3.below B2.out.size (fun i hi => (W2.out.lt i hi).2)))
  clear hw3 ht3
  go_wp2_with fail
  refine (wlen_any _ _ _ _ w3 W3.out).mono ?_
  rintro e w' ⟨rfl, rfl⟩
  go_wp2_with fail
  refine (wpad_any _ _ _ _ w3 W3.out (by simp)).mono ?_
  rintro e w4 ⟨rfl, v4, hw4, ht4, _⟩
  have W4 := Lib.hid hw4
  have B4 := Lib.hid (B3.out.trans (ht4.below B3.out.size (fun i hi => (W3.out.lt i hi).2)))
  clear hw4 ht4
  go_wp2_with fail
  refine (wtake_any _ _ _ _ w4 W4.out).mono ?_
  rintro e w5 ⟨rfl, _, ht5⟩
  have B5 := Lib.hid (B4.out.trans (ht5.below B4.out.size (fun i hi => (W4.out.lt i hi).2)))
  rw [pk3_pad, List.drop_zero]
  clear ht5
  go_wp2_with fail
  refine (newReader_any _ w5 (by show 3 ≤ maxLen; decide)).mono ?_
  rintro e w6 ⟨b, v6, rfl, hr6, hb6, hf6⟩
  have R6 := Lib.hid hr6
  have B6 := Lib.hid (B5.out.trans (hb6.mono B5.out.size))
  have F6 := Lib.hid hf6
  have S5 := Lib.hid B5.out.size
  clear hr6 hb6 hf6
  go_wp2_with fail
  refine (pread_any b v6 _ 0 0 0 w6 R6.out (by simp)).mono ?_
  rintro e w7 ⟨u, ps, t, err, k, rfl, hi7, hp7, hr7, ht7⟩
  have hp8 : PkRd ((bitsOf [64, 0, 228]).drop 0) ps t err k := hp7
  unfold PkRd at hp8
  rw [pk3_rd, pk3_t] at hp8
  obtain ⟨rfl, rfl, rfl, rfl⟩ := hp8
  have HI7 := Lib.hid hi7
  have B7 := Lib.hid (B6.out.trans (ht7.below B6.out.size (fun i hi => by have h1 := F6.out b (Or.inl rfl); have h2 : i = b := hi; have h3 := S5.out; omega)))
  clear hp7 hr7 ht7 hi7
  have HI8 : Hid (IsInts (w7.alloc (.cells #[.int .i64 1, .int .i64 1, .int .i64 0] 3)) u [1, 1, 0]) := Lib.hid (HI7.out.alloc _)
  have I8 : Hid (IsInts (w7.alloc (.cells #[.int .i64 1, .int .i64 1, .int .i64 0] 3)) (.slice (some ⟨w7.heap.size, 0, none⟩) 3 3) [1, 1, 0]) := Lib.hid (ints_lit w7 1 1 0)
  have B8 := Lib.hid (B7.out.alloc B7.out.size (.cells #[.int .i64 1, .int .i64 1, .int .i64 0] 3))
  go_wp2_with fail
  refine (ints_any _ _ [1, 1, 0] [1, 1, 0] true _ HI8.out I8.out ⟨fun _ => rfl, fun _ => rfl⟩ (by simp) (by simp)).mono ?_
  rintro e w9 ⟨rfl, m9, hw9⟩
  have B9 : Hid (Below w.heap.size w w9) := Lib.hid (by rw [hw9]; exact B8.out.trans ⟨rfl, rfl, rfl, Nat.le_refl _, fun _ _ => rfl⟩)
  clear hw9
  go_wp2_with fail
  go_ret
  exact ⟨rfl, B9.out⟩
set_option maxRecDepth 100000 in
set_option maxHeartbeats 2000000 in
theorem picksNil.walk (l : Option Addr) (llen lcap : Nat) (lz : List Int) (n : Int) (w : World) (hl : IsRow .i64 w l llen lcap lz) (hn : (Lit.int .i64 n).wf = true) :
    Calls Try.prog 7 #[.slice l llen lcap, .int .i64 n] w fun e w' => e = .returned (.bool true) ∧ Below w.heap.size w w' := by
  have H3 := Lib.hid (fun W => pkThree_any W)
  clear hl hn
  go_enter Try.func7, Try.ntmps7
  go_wp2_with fail
  refine (pread_nil w).mono ?_
  rintro e w2 ⟨rfl, rfl⟩
  go_wp2_with fail
  refine (pwrite_nil _ _ w2).mono ?_
  rintro e w3 ⟨rfl, rfl⟩
  go_wp2_with fail
  refine (newReader_any _ w3 (by show 1 ≤ maxLen; decide)).mono ?_
  rintro e w4 ⟨b, v4, rfl, hr4, hb4, hf4⟩
  have HB4 := Lib.hid hb4
  clear hr4 hb4 hf4
  go_wp2_with fail
  refine (pstep_nilp _ w4).mono ?_
  rintro e w5 ⟨rfl, rfl⟩
  go_wp2_with fail
  refine (pnew_any w5).mono ?_
  rintro e w6 ⟨rfl, _, hb6⟩
  have HB6 := Lib.hid (HB4.out.trans (hb6.mono HB4.out.size))
  clear hb6
  go_wp2_with fail
  refine (pstep_nilr _ w6).mono ?_
  rintro e w7 ⟨rfl, rfl⟩
  go_wp2_with fail
  refine (pdone_nil w7).mono ?_
  rintro e w8 ⟨rfl, m, hw8⟩
  have HB8 : Hid (Below w3.heap.size w3 w8) := Lib.hid (by rw [hw8]; exact HB6.out.trans ⟨rfl, rfl, rfl, Nat.le_refl _, fun _ _ => rfl⟩)
  clear hw8
  go_wp2_with fail
  refine (ptables_nil w8).mono ?_
  rintro e w9 ⟨rfl, rfl⟩
  go_wp2_with fail
  refine (ppicks_nil w9).mono ?_
  rintro e w10 ⟨rfl, rfl⟩
  go_wp2_with fail
  refine (H3.out _).mono ?_
  rintro e w11 ⟨rfl, hb11⟩
  have HB11 := Lib.hid (HB8.out.trans (hb11.mono HB8.out.size))
  clear hb11
  go_wp2_with fail
  go_ret
  exact ⟨rfl, HB11.out⟩
/-! ### PicksWrites -/
/-- Two numbers boxed. -/
def Pair (w : World) (B : Nat) (X Y : Nat) : Prop := w.cell? ⟨B, 0, none⟩ = some (.int .u32 (X : Int)) ∧ w.cell? ⟨B, 1, none⟩ = some (.int .u32 (Y : Int))
theorem Pair.below {w w' : World} {B X Y C : Nat} (h : Pair w B X Y) (hb : Below C w w') (hB : B < C) : Pair w' B X Y :=
  ⟨(World.cell?_of_block (w := w) (a := ⟨B, 0, none⟩) (hb.block B hB)).trans h.1, (World.cell?_of_block (w := w) (a := ⟨B, 1, none⟩) (hb.block B hB)).trans h.2⟩
theorem Pair.boxed (w : World) (X Y : Nat) : Pair (w.alloc (.cells #[.int .u32 (X : Int), .int .u32 (Y : Int)] 24)) w.heap.size X Y :=
  ⟨by rw [cell_of_row _ _ 0 _ _ _ (heap_alloc_new _ _)]; rfl, by rw [cell_of_row _ _ 1 _ _ _ (heap_alloc_new _ _)]; rfl⟩
theorem box_size (w : World) (o : Obj) : (w.alloc o).heap.size = w.heap.size + 1 := by show (w.heap.push _).size = _; simp
set_option maxRecDepth 100000 in
set_option maxHeartbeats 2000000 in
theorem picksWrites.far (l : Option Addr) (llen lcap : Nat) (t : Int) (X Y : Nat) (w : World) (h : (100 < llen ∧ llen ≤ 32767) ∨ ¬ Fits X ((Y % 9 : Nat) : Int)) (hX : X < 4294967296) (hY : Y < 4294967296) :
    Calls Try.prog 3 #[.slice l llen lcap, .int .i64 t, .agg #[.int .u32 (X : Int), .int .u32 (Y : Int)]] w fun e w' => e = .returned (.bool true) ∧ Below w.heap.size w w' := by
  have H3 := Lib.hid (fun W => pkThree_any W)
  obtain ⟨c0, c1⟩ := Pair.boxed w X Y
  have HB0 : Hid (Below w.heap.size w (w.alloc (.cells #[.int .u32 (X : Int), .int .u32 (Y : Int)] 24))) := Lib.hid ((Below.refl _ _).alloc (Nat.le_refl _) _)
  by_cases hr : 100 < llen ∧ llen ≤ 32767
  · have h1 : (100 : Int) < (llen : Int) := by omega
    have h2 : (llen : Int) ≤ 32767 := by omega
    clear h hr c0 c1
    go_enter Try.func3, Try.ntmps3
    go_wp2_with fail
    refine (H3.out _).mono ?_
    rintro e w9 ⟨rfl, hb9⟩
    have HB9 := Lib.hid (HB0.out.trans (hb9.mono HB0.out.size))
    clear hb9
    go_wp2_with fail
    go_ret
    exact ⟨rfl, HB9.out⟩
  · have HF := Lib.hid (fun W => fits_not X ((Y % 9 : Nat) : Int) W (h.resolve_left hr) hX)
    have e1 : ((Y : Int).tmod 9) = ((Y % 9 : Nat) : Int) := by rw [Int.tmod_eq_emod_of_nonneg (by omega)]; omega
    have e2 : IntKind.u32.wrap ((Y % 9 : Nat) : Int) = ((Y % 9 : Nat) : Int) := by simp [IntKind.wrap, IntKind.bits, IntKind.signed]; omega
    have hn9 : Y % 9 < 9 := Nat.mod_lt _ (by omega)
    obtain ⟨n, hn⟩ : ∃ n, Y % 9 = n := ⟨_, rfl⟩
    rw [hn] at HF e1 e2 hn9
    by_cases h1 : 100 < llen
    · have h1i : (100 : Int) < (llen : Int) := by omega
      have h2i : ¬ (llen : Int) ≤ 32767 := by omega
      clear h hr h1 hn
      go_enter Try.func3, Try.ntmps3
      go_wp2_with fail
      refine (HF.out _).mono ?_
      rintro e w1 ⟨rfl, rfl⟩
      go_wp2_with fail
      refine (H3.out _).mono ?_
      rintro e w9 ⟨rfl, hb9⟩
      have HB9 := Lib.hid (HB0.out.trans (hb9.mono HB0.out.size))
      clear hb9
      go_wp2_with fail
      go_ret
      exact ⟨rfl, HB9.out⟩
    · have h1i : ¬ (100 : Int) < (llen : Int) := by omega
      clear h hr h1 hn
      go_enter Try.func3, Try.ntmps3
      go_wp2_with fail
      refine (HF.out _).mono ?_
      rintro e w1 ⟨rfl, rfl⟩
      go_wp2_with fail
      refine (H3.out _).mono ?_
      rintro e w9 ⟨rfl, hb9⟩
      have HB9 := Lib.hid (HB0.out.trans (hb9.mono HB0.out.size))
      clear hb9
      go_wp2_with fail
      go_ret
      exact ⟨rfl, HB9.out⟩
end Go.Proofs.Ytfckghaigbmeaaa
