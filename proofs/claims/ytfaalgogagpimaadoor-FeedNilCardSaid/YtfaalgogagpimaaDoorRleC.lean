/-
  THE WALKS OF LAYER 3 (package rle, balerref03): the pieces of a text as a row.
-/
import Derived.Test.YtfaalgogagpimaaDoorRleB
namespace Go.Proofs.YtfaalgogagpimaaDoor
open Go.RowKit RleM
set_option linter.unusedVariables false
theorem infoPiece : (Tryd.prog.info? 23).map (fun i => (i.zero, i.size, i.bytes)) = some (some (.agg #[.int .u8 0, .int .i64 0]), 2, 16) := by kernel_rfl
theorem pcCells_length (ps : List Pc) : (ps.flatMap pcCells).length = ps.length * 2 := by
  induction ps with
  | nil => rfl
  | cons p ps ih => rw [List.flatMap_cons, List.length_append, ih]; simp [pcCells]; omega
theorem pieces_count (l : List UInt8) : (pieces l).length ≤ l.length := by
  have h : ∀ ps : List Pc, RleM.Good ps → ps.length ≤ (flat ps).length := by
    intro ps
    induction ps with
    | nil => intro _; exact Nat.le_refl _
    | cons p ps ih =>
      intro h
      have h1 := ih h.2.2.2
      have h2 := h.1
      rw [flat_cons, List.length_append, List.length_replicate, List.length_cons]; omega
  have := h _ (good l)
  rwa [flat_pieces] at this
/-- WHAT THE CLOSURE OF Pieces KEEPS: a row of pieces behind a variable in block b. -/
structure Gathers (w0 : World) (b : Nat) (ps : List Pc) (w : World) : Prop where
  row : ∃ v, w.heap[b]? = some (.cells #[v] 25 (0, 0)) ∧ w.ownsRow (b + 1) 23 2 v ps.length (ps.flatMap pcCells)
  below : Below w0.heap.size w0 w
theorem Gathers.drewN {w0 w : World} {b : Nat} {ps : List Pc} (h : Gathers w0 b ps w) (m : Nat) : Gathers w0 b ps (w.drewN m) :=
  ⟨h.row, h.below.trans ⟨rfl, rfl, rfl, Nat.le_refl _, fun _ _ => rfl⟩⟩
set_option maxHeartbeats 1000000 in
theorem piecesTell_any (w0 w : World) (b : Nat) (ps : List Pc) (p : Pc) (h : Gathers w0 b ps w) (hb : w0.heap.size ≤ b) (hn : ps.length ≤ 1099511627776) :
    Calls Tryd.prog 37 #[pcv p, .pointer (some ⟨b, 0, none⟩)] w fun e w' => e = .returned (.tuple #[]) ∧ Gathers w0 b (ps ++ [p]) w' := by
  obtain ⟨⟨v, hblk, hown⟩, hB⟩ := h
  obtain ⟨i0, hi, hz0, hz1, hz2⟩ := info_parts infoPiece
  have c := cell_of_row _ _ 0 _ _ _ hblk
  have f := frozen_of_row _ _ 0 _ _ hblk
  have hlt := (Array.getElem?_eq_some_iff.1 hblk).1
  have HO := Lib.hid hown
  have HK := Lib.hid hblk
  have HB := Lib.hid hB
  have HI := Lib.hid hi
  have HZ0 := Lib.hid hz0
  have HZ1 := Lib.hid hz1
  have HZ2 := Lib.hid hz2
  clear hblk hown hB hi hz0 hz1 hz2
  unfold pcv
  simp at c
  go_enter Tryd.func37, Tryd.ntmps37
  go_wp2_with (at_builtin; refine wpList_append_own _ rfl _ _ 25 rfl (b + 1) 23 i0 (.agg #[.int .u8 0, .int .i64 0]) 2 16 Tryd.underlying25 HI.out HZ0.out HZ1.out HZ2.out rfl (by decide) _ _ _ rfl ((HO.out.alloc _).alloc _) ⟨w.heap.size + 1, 0, none⟩ 1 1 [.int .u8 (p.1.toNat : Int), .int .i64 (p.2 : Int)] rfl rfl ?c1 ?c2 ?c3 ?c4 ?c5 ?_)
  case c1 => exact news_new _ _ _ _ (by simp)
  case c2 => intro u hu; simp at hu; rcases hu with rfl | rfl <;> rfl
  case c3 => unfold maxLen; omega
  case c4 => omega
  case c5 => simp; omega
  intro v' w1 hown' hgrow _
  obtain ⟨a', c', rfl⟩ := slice_of_own hown'
  have hk1 : w1.heap[b]? = some (.cells #[v] 25 (0, 0)) :=
    (hgrow.block b (by simp; omega) (fun e => by have := (HO.out.lt b e.symm).1; omega)).trans ((Below.heap_alloc _ _ b (by simp; omega)).trans ((Below.heap_alloc w _ b hlt).trans HK.out))
  have hB1 : Below w0.heap.size w0 w1 := ((HB.out.alloc HB.out.size _).alloc (by have := HB.out.size; simp; omega) _).grown hgrow (by have := HB.out.size; simp; omega) (fun j hj => by have := (HO.out.lt j hj).1; omega)
  have HK1 := Lib.hid hk1
  have HB1 := Lib.hid hB1
  have HO1 := Lib.hid hown'
  have c1 := cell_of_row _ _ 0 _ _ _ hk1
  have f1 := frozen_of_row _ _ 0 _ _ hk1
  simp at c1
  clear hk1 hB1 hown' hgrow
  go_wp2_with fail
  go_end0
  refine ⟨rfl, ⟨⟨_, heap_setCell_same _ _ 0 _ _ _ HK1.out, ?_⟩, HB1.out.setCell hb _⟩⟩
  have h := HO1.out
  have e : (ps ++ [p]).flatMap pcCells = ps.flatMap pcCells ++ [.int .u8 (p.1.toNat : Int), .int .i64 (p.2 : Int)] := by simp [pcCells]
  rw [e, List.length_append]
  exact ownsRow_far h b (by omega) _ _
set_option maxRecDepth 100000 in
set_option maxHeartbeats 1000000 in
theorem piecesOf_any (s : ByteArray) (w : World) (hs : s.size ≤ 549755813888) :
    Calls Tryd.prog 14 #[.string s] w fun e w' => ∃ v, e = .returned v ∧ w'.ownsRow (w.heap.size + 1) 23 2 v (pieces s.data.toList).length ((pieces s.data.toList).flatMap pcCells) ∧ Below w.heap.size w w' := by
  go_enter Tryd.func14, Tryd.ntmps14
  go_wp2_with fail
  refine (rows_any 37 #[.pointer (some ⟨w.heap.size, 0, none⟩)] (fun ps w' => Gathers w w.heap.size ps w') s _ (by unfold maxLen; omega) (enters_of Tryd.func37 (by kernel_rfl) rfl) (fun ps w' n h => h.drewN n) (fun ps p qs w' hps h => ?_) ?_).mono ?_
  · have h1 : ps.length ≤ s.data.toList.length := by
      have h2 := pieces_count s.data.toList
      rw [hps, List.length_append, List.length_cons] at h2
      omega
    have hz : s.data.toList.length = s.size := rfl
    exact piecesTell_any w w' w.heap.size ps p h (Nat.le_refl _) (by omega)
  · exact ⟨⟨_, heap_alloc_new _ _, World.ownsRow_nil _ _ _ _⟩, (Below.refl _ _).alloc (Nat.le_refl _) _⟩
  · rintro e w1 ⟨rfl, ⟨v, hk, hown⟩, hB⟩
    have c := cell_of_row _ _ 0 _ _ _ hk
    have HO := Lib.hid hown
    have HB := Lib.hid hB
    clear hk hown hB
    simp at c
    go_wp2_with fail
    go_ret
    exact ⟨_, rfl, HO.out, HB.out⟩
end Go.Proofs.YtfaalgogagpimaaDoor
