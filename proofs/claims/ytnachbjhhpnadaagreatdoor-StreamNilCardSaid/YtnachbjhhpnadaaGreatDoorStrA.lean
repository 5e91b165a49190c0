/-
  LAYER 21's CODE (package stream): the stream of the empty text.
-/
import Derived.Test.YtnachbjhhpnadaaGreatDoorSplJ
import Derived.Test.YtnachbjhhpnadaaGreatDoorSplG
import Derived.Test.YtnachbjhhpnadaaGreatDoorWrote
import Derived.Test.YtnachbjhhpnadaaGreatDoorBitsPack
namespace Go.Proofs.YtnachbjhhpnadaaGreatDoor
open Go.RowKit RleM SplM BitM
set_option linter.unusedVariables false
set_option linter.unusedSimpArgs false
theorem Wrote.below {w w' w2 : World} {g : Nat} {v : Value} {tk : Nat} {q : List Bool} (h : Wrote w g v tk q w') (hb : Below w'.heap.size w' w2) : Wrote w g v tk q w2 := by
  obtain ⟨v1, h1, h2, h3⟩ := h
  exact ⟨v1, h1.other (Touch.ofBelow (S := fun _ => False) hb) (fun _ _ h => h), h2.trans (Touch.ofBelow (S := fun _ => False) hb) (fun i hi => hi.elim), h3⟩
/-- A stream's writer. -/
def TwObj (w : World) (t g sum : Nat) (en : Bool) : Prop := w.heap[t]? = some (.cells #[.pointer (some ⟨g, 0, none⟩), .int .u32 (sum : Int), .bool en] 126 (0, 0))
theorem TwObj.cells {w : World} {t g sum : Nat} {en : Bool} (h : TwObj w t g sum en) : w.cell? ⟨t, 0, none⟩ = some (.pointer (some ⟨g, 0, none⟩)) ∧ w.cell? ⟨t, 1, none⟩ = some (.int .u32 (sum : Int)) ∧ w.cell? ⟨t, 2, none⟩ = some (.bool en) ∧ w.frozen? ⟨t, 2, none⟩ = false := by
  refine ⟨?_, ?_, ?_, frozen_of_row _ _ _ _ _ h⟩ <;> (rw [cell_of_row _ _ _ _ _ _ h]; rfl)
/-- It stands: made in the world W, whose writer of bits has q. -/
def TwAt (B : Nat) (w : World) (t g : Nat) (q : List Bool) : Prop := ∃ W, TwObj W t g 0 false ∧ g ≠ t ∧ t < W.heap.size ∧ B ≤ W.heap.size ∧ B ≤ g ∧ B ≤ t ∧ Wrote W g (.slice none 0 0) 0 q w
theorem TwAt.obj {B : Nat} {w : World} {t g : Nat} {q : List Bool} (h : TwAt B w t g q) : TwObj w t g 0 false := by
  obtain ⟨W, h1, h2, h3, h4, h5, h6, h7⟩ := h
  exact (h7.touch.block t h3 (fun e => by
    rcases e with e | e
    · exact h2 e.symm
    · cases e)).trans h1
theorem TwAt.put {B : Nat} {w : World} {t g : Nat} {q : List Bool} (h : TwAt B w t g q) (X n : Nat) (hn : n ≤ 32) (hX : X < 2 ^ n) (hq : q.length ≤ 1000) :
    Calls Tryz.prog 47 #[.pointer (some ⟨g, 0, none⟩), .int .u32 (X : Int), .int .i64 (n : Int)] w fun e w' => e = .returned (.int .i64 0) ∧ TwAt B w' t g (q ++ field X n) ∧ Below B w w' := by
  obtain ⟨W, h1, h2, h3, h4, h5, h6, v1, k1, k2, k3⟩ := h
  refine ((Wrote.start k1).put X n hn hX (by omega)).mono ?_
  rintro e w2 ⟨rfl, v2, j1, j2, j3⟩
  have hsz := k2.size
  have hb : ∀ k, foot g v1 k → B ≤ k := fun k hk => by
    rcases hk with hk | hk
    · omega
    · rcases k3 k hk with e | e
      · cases e
      · omega
  refine ⟨rfl, ⟨W, h1, h2, h3, h4, h5, h6, v2, j1, k2.trans j2 (fun i hi => ?_), fun i hi => ?_⟩, j2.below (by omega) hb⟩
  · rcases hi with hi | hi
    · exact Or.inl (Or.inl hi)
    · rcases k3 i hi with e | e
      · cases e
      · exact Or.inr e
  · rcases j3 i hi with e | e
    · exact k3 i e
    · exact Or.inr (by omega)
theorem TwAt.below {B : Nat} {w w' : World} {t g : Nat} {q : List Bool} (h : TwAt B w t g q) (hb : Below w.heap.size w w') : TwAt B w' t g q := by
  obtain ⟨W, h1, h2, h3, h4, h5, h6, h7⟩ := h
  exact ⟨W, h1, h2, h3, h4, h5, h6, h7.below hb⟩
def lettersQ : Nat → List Bool
  | 0 => []
  | 1 => field 66 8
  | 2 => field 66 8 ++ field 90 8
  | 3 => field 66 8 ++ field 90 8 ++ field 104 8
  | _ => field 66 8 ++ field 90 8 ++ field 104 8 ++ field 57 8
def endQ : List Bool := lettersQ 4 ++ field 1536581 24 ++ field 3690640 24 ++ field 0 32
theorem lettersQ_len (k : Nat) : (lettersQ k).length ≤ 32 := by
  rcases k with _ | _ | _ | _ | k <;> simp [lettersQ, field_length]
theorem room_nine (w : World) : Calls Tryz.prog 202 #[.int .i64 9, .int .i64 100000] w fun e w' => e = .returned (.tuple #[.int .i64 899981, .int .i64 0]) ∧ w' = w := by
  have := room19_any 9 100000 w (by omega) (by omega)
  rw [if_neg (by omega)] at this
  exact this
theorem tw_built (g : Nat) : Tryz.prog.built 126 [(0, .pointer (some ⟨g, 0, none⟩))] = some #[.pointer (some ⟨g, 0, none⟩), .int .u32 0, .bool false] := by kernel_rfl
theorem tw_start (w w1 : World) (g : Nat) (hg : w.heap.size = g) (h1 : IsWriter w1 g (.slice none 0 0) [] 0) (h2 : Below w.heap.size w w1) :
    TwAt w.heap.size (w1.alloc (.cells #[.pointer (some ⟨g, 0, none⟩), .int .u32 0, .bool false] 126)) w1.heap.size g (lettersQ 0) ∧ Below w.heap.size w (w1.alloc (.cells #[.pointer (some ⟨g, 0, none⟩), .int .u32 0, .bool false] 126)) := by
  have hl := (h1.lt g (Or.inl rfl)).1
  have hz : (w1.alloc (.cells #[.pointer (some ⟨g, 0, none⟩), .int .u32 0, .bool false] 126)).heap.size = w1.heap.size + 1 := by simp
  have hs := h2.size
  refine ⟨⟨w1.alloc (.cells #[.pointer (some ⟨g, 0, none⟩), .int .u32 0, .bool false] 126), heap_alloc_new _ _, by omega, by omega, by omega, by omega, by omega, ?_⟩, h2.alloc hs _⟩
  exact Wrote.start (h1.other (Touch.ofBelow (S := fun _ => False) ((Below.refl _ _).alloc (Nat.le_refl _) _)) (fun _ _ h => h))
theorem TwAt.putI {B : Nat} {w : World} {t g : Nat} {q : List Bool} (h : TwAt B w t g q) (X n : Nat) (Xi ni : Int) (eX : Xi = (X : Int)) (en : ni = (n : Int)) (hn : n ≤ 32) (hX : X < 2 ^ n) (hq : q.length ≤ 1000) :
    Calls Tryz.prog 47 #[.pointer (some ⟨g, 0, none⟩), .int .u32 Xi, .int .i64 ni] w fun e w' => e = .returned (.int .i64 0) ∧ TwAt B w' t g (q ++ field X n) ∧ Below B w w' := by
  subst eX en
  exact h.put X n hn hX hq
def letterAt (j : Nat) : Nat := [66, 90, 104, 57].getD j 0
theorem letterAt_lt (j : Nat) (hj : j < 4) : letterAt j < 256 := by
  rcases (by omega : j = 0 ∨ j = 1 ∨ j = 2 ∨ j = 3) with rfl | rfl | rfl | rfl <;> decide
theorem lettersQ_next (j : Nat) (hj : j < 4) : lettersQ (j + 1) = lettersQ j ++ field (letterAt j) 8 := by
  rcases (by omega : j = 0 ∨ j = 1 ∨ j = 2 ∨ j = 3) with rfl | rfl | rfl | rfl <;> rfl
theorem letters_index (j : Nat) (hj : j < 4) (W : World) : (Instr.index 299 (.agg #[.int .u8 66, .int .u8 90, .int .u8 104, .int .u8 57]) (.int .i64 (j : Int))).run Tryz.prog W = .ok (.int .u8 ((letterAt j : Nat) : Int)) W := by
  have hu := Tryz.underlying299
  rcases (by omega : j = 0 ∨ j = 1 ∨ j = 2 ∨ j = 3) with rfl | rfl | rfl | rfl <;> simp [Instr.index, run_underlying hu, asIntOf, go_sem, letterAt]
def TnewP (w w' : World) (e : Ending) : Prop := ∃ t g, e = .returned (.tuple #[.pointer (some ⟨t, 0, none⟩), .int .i64 0]) ∧ TwAt w.heap.size w' t g (lettersQ 4) ∧ Below w.heap.size w w'
set_option maxRecDepth 100000 in
set_option maxHeartbeats 4000000 in
theorem tnew_nine (w : World) : Calls Tryz.prog 203 #[.int .i64 9] w fun e w' => TnewP w w' e := by
  have HR := Lib.hid (room_nine w)
  go_enter Tryz.func203, Tryz.ntmps203
  go_wp2_with fail
  refine HR.out.mono ?_
  rintro e w0 ⟨rfl, rfl⟩
  go_wp2_with fail
  refine (newWriter_any w0).mono ?_
  rintro e w1 ⟨rfl, hw1, hb1⟩
  obtain ⟨g, hg⟩ : ∃ g, w0.heap.size = g := ⟨_, rfl⟩
  rw [hg] at hw1 ⊢
  obtain ⟨hst, hbs⟩ := tw_start w0 w1 g hg hw1 hb1
  rw [hg] at hst hbs
  have HST := Lib.hid hst
  have HBS := Lib.hid hbs
  have hbt := tw_built g
  have HG := Lib.hid hg
  clear hw1 hb1 hst hbs hg HR
  go_wp2_with (first | (refine wpList_build_one rfl 126 0 _ rfl _ rfl _ hbt ?_))
  generalize w1.alloc (.cells #[.pointer (some ⟨g, 0, none⟩), .int .u32 0, .bool false] 126) = w2 at *
  obtain ⟨t, ht⟩ : ∃ t, w1.heap.size = t := ⟨_, rfl⟩
  rw [ht] at HST ⊢
  clear ht hbt
  go_loopw [24, 8] (fun vj _ wr => ∃ j : Nat, vj = .int .i64 (j : Int) ∧ j ≤ 4 ∧ TwAt g wr t g (lettersQ j) ∧ Below g w0 wr) (fun vj _ _ => 4 - (intOf vj).toNat)
  case atStart => exact ⟨0, rfl, by omega, HST.out, HBS.out⟩
  case round =>
    clear HST HBS
    obtain ⟨j, rfl, hj, hT, hB⟩ := hrel
    have HT := Lib.hid hT
    have HB := Lib.hid hB
    obtain ⟨c0, _⟩ := hT.obj.cells
    clear hT hB
    by_cases hj4 : j < 4
    · have hji : (j : Int) < 4 := by omega
      have hix := fun W => letters_index j hj4 W
      have hll := letterAt_lt j hj4
      have HNX := Lib.hid (lettersQ_next j hj4)
      obtain ⟨X, hX⟩ : ∃ X, letterAt j = X := ⟨_, rfl⟩
      rw [hX] at hix hll HNX
      have hXw : IntKind.u32.wrap (X : Int) = (X : Int) := by simp [IntKind.wrap, IntKind.bits, IntKind.signed]; omega
      have HP := Lib.hid (HT.out.putI X 8 (X : Int) 8 rfl rfl (by omega) (by omega) (by have := lettersQ_len j; omega))
      rw [← HNX.out] at HP
      clear hX
      go_wp2_with fail
      refine HP.out.mono ?_
      rintro e w3 ⟨rfl, h3, hb3⟩
      have H3 := Lib.hid h3
      have HB3 := Lib.hid (HB.out.trans hb3)
      clear h3 hb3
      go_wp2_with fail
      go_roundw
      case rel => exact ⟨j + 1, by go_num, by omega, H3.out, HB3.out⟩
      case measure => simp [intOf]; omega
    · have hji : ¬ (j : Int) < 4 := by omega
      obtain rfl : j = 4 := by omega
      go_wp2_with fail
      go_ret2
      unfold TnewP
      rw [HG.out]
      exact ⟨t, g, rfl, HT.out, HB.out⟩
theorem TwAt.drew {B : Nat} {w : World} {t g : Nat} {q : List Bool} (h : TwAt B w t g q) (n : Nat) : TwAt B (w.drewN n) t g q := h.below (below_drewN w n)
set_option maxHeartbeats 1000000 in
theorem tmagic_any {B t g : Nat} (w : World) (h : TwAt B w t g (lettersQ 4)) : Calls Tryz.prog 92 #[.pointer (some ⟨t, 0, none⟩), .int .u64 25779555029136] w fun e w' => e = .returned (.tuple #[]) ∧ TwAt B w' t g (lettersQ 4 ++ field 1536581 24 ++ field 3690640 24) ∧ Below B w w' := by
  obtain ⟨c0, _⟩ := h.obj.cells
  have HP := Lib.hid (h.putI 1536581 24 1536581 24 rfl rfl (by omega) (by omega) (by have := lettersQ_len 4; omega))
  clear h
  go_enter Tryz.func92, Tryz.ntmps92
  go_wp2_with fail
  refine HP.out.mono ?_
  rintro e w1 ⟨rfl, h1, hb1⟩
  obtain ⟨c0, _⟩ := h1.obj.cells
  have HP2 := Lib.hid (h1.putI 3690640 24 3690640 24 rfl rfl (by omega) (by omega) (by have := lettersQ_len 4; rw [List.length_append, field_length]; omega))
  have HB1 := Lib.hid hb1
  clear h1 hb1
  go_wp2_with fail
  refine HP2.out.mono ?_
  rintro e w2 ⟨rfl, h2, hb2⟩
  have H2 := Lib.hid h2
  have HB2 := Lib.hid (HB1.out.trans hb2)
  clear h2 hb2
  go_wp2_with fail
  go_end0
  exact ⟨rfl, H2.out, HB2.out⟩
set_option maxHeartbeats 1000000 in
theorem topen_yes {B t g : Nat} {q : List Bool} (w : World) (h : TwAt B w t g q) : Calls Tryz.prog 91 #[.pointer (some ⟨t, 0, none⟩)] w fun e w' => e = .returned (.bool true) ∧ w' = w := by
  obtain ⟨c0, c1, c2, _⟩ := h.obj.cells
  clear h
  go_enter Tryz.func91, Tryz.ntmps91
  go_wp2_with fail
  go_ret
  exact ⟨rfl, rfl⟩
/-- A stream's writer that ended. -/
def TwEnd (B : Nat) (w : World) (t g : Nat) (q : List Bool) : Prop := w.cell? ⟨t, 0, none⟩ = some (.pointer (some ⟨g, 0, none⟩)) ∧ ∃ v, IsWriter w g v q 0 ∧ ∀ k, foot g v k → B ≤ k
theorem TwAt.pad {B : Nat} {w : World} {t g : Nat} {q : List Bool} (h : TwAt B w t g q) (hq : q.length ≤ 1000) :
    Calls Tryz.prog 15 #[.pointer (some ⟨g, 0, none⟩)] w fun e w' => e = .returned (.tuple #[]) ∧ TwAt B w' t g (q ++ padding q) ∧ Below B w w' := by
  obtain ⟨W, h1, h2, h3, h4, h5, h6, v1, k1, k2, k3⟩ := h
  refine (wpad_any g v1 q 0 w k1 (by omega)).mono ?_
  rintro e w2 ⟨rfl, v2, j1, j2, j3⟩
  have hsz := k2.size
  have hb : ∀ k, foot g v1 k → B ≤ k := fun k hk => by
    rcases hk with hk | hk
    · omega
    · rcases k3 k hk with e | e
      · cases e
      · omega
  refine ⟨rfl, ⟨W, h1, h2, h3, h4, h5, h6, v2, j1, k2.trans j2 (fun i hi => ?_), fun i hi => ?_⟩, j2.below (by omega) hb⟩
  · rcases hi with hi | hi
    · exact Or.inl (Or.inl hi)
    · rcases k3 i hi with e | e
      · cases e
      · exact Or.inr e
  · rcases j3 i hi with e | e
    · exact k3 i e
    · exact Or.inr (by omega)
theorem TwAt.ended {B : Nat} {w : World} {t g : Nat} {q : List Bool} (h : TwAt B w t g q) : TwEnd B (w.setCell ⟨t, 2, none⟩ (.bool true)) t g q ∧ Below B w (w.setCell ⟨t, 2, none⟩ (.bool true)) := by
  have ho := h.obj
  obtain ⟨W, h1, h2, h3, h4, h5, h6, v1, k1, k2, k3⟩ := h
  have hne : ∀ k, foot g v1 k → k ≠ t := fun k hk e => by
    rcases hk with hk | hk
    · exact h2 (hk.symm.trans e)
    · rcases k3 k hk with e2 | e2
      · cases e2
      · omega
  refine ⟨⟨?_, v1, k1.other (touch_cell (i := 2) (Touch.refl _ _)) (fun k hk => hne k hk), fun k hk => ?_⟩, (Below.refl _ _).setCell (p := ⟨t, 2, none⟩) h6 _⟩
  · have h9 := heap_setCell_same w t 2 _ _ (.bool true) ho
    rw [cell_of_row _ _ _ _ _ _ h9]
    rfl
  · have hsz := k2.size
    rcases hk with hk | hk
    · omega
    · rcases k3 k hk with e | e
      · cases e
      · omega
set_option maxRecDepth 100000 in
set_option maxHeartbeats 4000000 in
theorem tend_any {B t g : Nat} (w : World) (h : TwAt B w t g (lettersQ 4)) : Calls Tryz.prog 43 #[.pointer (some ⟨t, 0, none⟩)] w fun e w' => e = .returned (.int .i64 0) ∧ TwEnd B w' t g (endQ ++ padding endQ) ∧ Below B w w' := by
  have HO := Lib.hid (topen_yes w h)
  have HM := Lib.hid (tmagic_any w h)
  clear h
  go_enter Tryz.func43, Tryz.ntmps43
  go_wp2_with fail
  refine HO.out.mono ?_
  rintro e w0 ⟨rfl, rfl⟩
  go_wp2_with fail
  refine HM.out.mono ?_
  rintro e w1 ⟨rfl, h1, hb1⟩
  obtain ⟨c0, c1, _⟩ := h1.obj.cells
  have H1 := Lib.hid h1
  have HB1 := Lib.hid hb1
  rw [show ((0 : Nat) : Int) = 0 from rfl] at c1
  clear h1 hb1 HO HM
  go_wp2_with fail
  go_still_tail 8, (by kernel_rfl)
  change wpList _ _ _ _ _ (w1.drewN 1)
  have HP := Lib.hid ((H1.out.drew 1).putI 0 32 0 32 rfl rfl (by omega) (by omega) (by have := lettersQ_len 4; simp only [List.length_append, field_length]; omega))
  go_wp2_with fail
  refine HP.out.mono ?_
  rintro e w2 ⟨rfl, h2, hb2⟩
  obtain ⟨c0, _⟩ := h2.obj.cells
  have HPD := Lib.hid (h2.pad (by have := lettersQ_len 4; simp only [List.length_append, field_length]; omega))
  have HB2 := Lib.hid ((HB1.out.trans (show Below B w1 (w1.drewN 1) from ⟨rfl, rfl, rfl, Nat.le_refl _, fun _ _ => rfl⟩)).trans hb2)
  clear h2 hb2
  go_wp2_with fail
  refine HPD.out.mono ?_
  rintro e w3 ⟨rfl, h3, hb3⟩
  obtain ⟨_, _, c2, f2⟩ := h3.obj.cells
  have HE := Lib.hid h3.ended
  have HB3 := Lib.hid (HB2.out.trans hb3)
  clear h3 hb3
  go_wp2_with fail
  go_ret
  exact ⟨rfl, HE.out.1, HB3.out.trans HE.out.2⟩
set_option maxHeartbeats 1000000 in
theorem ttake_any {B t g : Nat} {q : List Bool} (w : World) (h : TwEnd B w t g q) (hb : B ≤ w.heap.size) : Calls Tryz.prog 44 #[.pointer (some ⟨t, 0, none⟩)] w fun e w' => e = .returned (.string ⟨(byts q).toArray⟩) ∧ Below B w w' := by
  obtain ⟨c0, v, h1, h2⟩ := h
  have HW := Lib.hid (wtake_any g v q 0 w h1)
  have H2 := Lib.hid h2
  clear h1 h2
  go_enter Tryz.func44, Tryz.ntmps44
  go_wp2_with fail
  refine HW.out.mono ?_
  rintro e w1 ⟨rfl, _, ht⟩
  have HT := Lib.hid (ht.below hb (fun k hk => H2.out k hk))
  clear ht
  go_wp2_with fail
  go_ret
  exact ⟨rfl, HT.out⟩
end Go.Proofs.YtnachbjhhpnadaaGreatDoor
