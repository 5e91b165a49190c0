/-
  LAYER 2's STATEMENTS (sums).
-/
import Derived.Test.YtnachbjhhpnadaaGreatDoorLawKit
import Derived.Test.YtnachbjhhpnadaaGreatDoorCrc
import Derived.Deep.RegionWith
namespace Go.Proofs.YtnachbjhhpnadaaGreatDoor
open Go.ChangeShapes Go.WideShapes Go.ChangeAt Go.RowKit CrcM
open Go.ChangeMaps (open_string shut_string)
set_option linter.unusedVariables false

theorem bd_u8 {b : Int} (h : (Lit.int .u8 b).wf = true) : ∃ c : UInt8, b = (c.toNat : Int) := by
  have hx : 0 ≤ b ∧ b ≤ 255 := by simpa [Lit.wf, IntKind.min, IntKind.max, IntKind.signed, IntKind.bits] using h
  exact ⟨UInt8.ofNat b.toNat, by simp; omega⟩
theorem bd_u32 {b : Int} (h : (Lit.int .u32 b).wf = true) : ∃ c : BitVec 32, b = (c.toNat : Int) := by
  have hx : 0 ≤ b ∧ b ≤ 4294967295 := by simpa [Lit.wf, IntKind.min, IntKind.max, IntKind.signed, IntKind.bits] using h
  exact ⟨BitVec.ofNat 32 b.toNat, by simp; omega⟩
theorem bd_i64 {b : Int} (h : (Lit.int .i64 b).wf = true) : -9223372036854775808 ≤ b ∧ b ≤ 9223372036854775807 := by
  simpa [Lit.wf, IntKind.min, IntKind.max, IntKind.signed, IntKind.bits] using h

theorem crc9 : ((crc [49, 50, 51, 52, 53, 54, 55, 56, 57]).toNat : Int) = 4236843288 := by decide +kernel
theorem crc0 : ((crc []).toNat : Int) = 0 := by decide +kernel
theorem cmb9 : ((cmb 2147483649#32 2#32).toNat : Int) = 1 := by decide +kernel

noncomputable def Boxed (w1 : World) : World := (w1.alloc (.cells Tryz.zeroCells193 193)).setRow w1.heap.size tabArr
/-- The table in a variable of the call's own. -/
theorem boxed (w1 w : World) (hb : Below w.heap.size w w1) : IsTable (Boxed w1) w1.heap.size ∧ Below w.heap.size w (Boxed w1) ∧ w1.heap.size + 1 ≤ (Boxed w1).heap.size := by
  have hg : (w1.alloc (.cells Tryz.zeroCells193 193)).heap[w1.heap.size]? = some (.cells Tryz.zeroCells193 193 (0, 0)) := heap_alloc_new _ _
  have hz := hb.size
  refine ⟨fun i hi => ?_, below_setRow (hb.alloc hz _) hz _, ?_⟩
  · unfold Boxed
    rw [cell_of_row _ _ i tabArr 193 _ (setRow_heap _ _ _ _ 193 _ hg)]; exact tabArr_get i hi
  · unfold Boxed
    rw [setRow_size]; simp
theorem conv_one (w : World) (c : UInt8) : (convert 71 9 (.slice (some ⟨w.heap.size, 0, none⟩) 1 1)).run Tryz.prog (w.alloc (.cells #[.int .u8 (c.toNat : Int)] 5)) = .ok (.string ⟨#[c]⟩) (w.alloc (.cells #[.int .u8 (c.toNat : Int)] 5)) :=
  run_convert_bytes_back _ 71 9 5 ⟨w.heap.size, 0, none⟩ 1 [c] Tryz.underlying71 Tryz.underlying5 Tryz.underlying9 (fun j hj => by
    obtain rfl : j = 0 := by simpa using hj
    rw [Addr.add_lit, World.cell?_alloc_mark]; rfl)
set_option maxHeartbeats 400000 in
theorem text_nil (x : Value) (w : World) :
    Calls Tryz.prog 299 #[.pointer none, x] w fun e w' => e = .returned (.tuple #[]) ∧ w = w' := by
  go_enter Tryz.func299, Tryz.ntmps299
  go_wp2_with fail
  refine bodyPost_ret (results_none rfl _ _ _) rfl ?_
  exact ⟨rfl, rfl⟩
set_option maxHeartbeats 400000 in
theorem reset_nil (w : World) :
    Calls Tryz.prog 289 #[.pointer none] w fun e w' => e = .returned (.tuple #[]) ∧ w = w' := by
  go_enter Tryz.func289, Tryz.ntmps289
  go_wp2_with fail
  refine bodyPost_ret (results_none rfl _ _ _) rfl ?_
  exact ⟨rfl, rfl⟩
set_option maxHeartbeats 400000 in
theorem value_nil (w : World) :
    Calls Tryz.prog 288 #[.pointer none] w fun e w' => e = .returned (.int .u32 0) ∧ w = w' := by
  go_enter Tryz.func288, Tryz.ntmps288
  go_wp2_with fail
  go_ret
  exact ⟨rfl, rfl⟩
/-! ### A Sum -/
/-- Block b is a Sum whose number is X. -/
def IsSum (w : World) (b : Nat) (X : BitVec 32) : Prop :=
  ∃ tp, w.heap[b]? = some (.cells #[tp, .int .u32 (X.toNat : Int)] 306 (0, 0)) ∧ (tp = .pointer none ∨ ∃ t, tp = .pointer (some ⟨t, 0, none⟩) ∧ IsTable w t ∧ t ≠ b ∧ t < w.heap.size)
set_option maxHeartbeats 400000 in
theorem new_any (w : World) :
    Calls Tryz.prog 207 #[] w fun e w' => e = .returned (.pointer (some ⟨w.heap.size, 0, none⟩)) ∧ IsSum w' w.heap.size 0#32 ∧ Below w.heap.size w w' := by
  go_enter Tryz.func207, Tryz.ntmps207
  go_wp2_with fail
  go_ret
  exact ⟨rfl, ⟨_, heap_alloc_new _ _, Or.inl rfl⟩, (Below.refl _ _).alloc (Nat.le_refl _) _⟩
theorem IsSum.cells {w : World} {b : Nat} {X : BitVec 32} (h : IsSum w b X) : w.cell? ⟨b, 1, none⟩ = some (.int .u32 (X.toNat : Int)) ∧ w.frozen? ⟨b, 0, none⟩ = false ∧ w.frozen? ⟨b, 1, none⟩ = false := by
  obtain ⟨tp, h, _⟩ := h
  exact ⟨by rw [cell_of_row _ _ _ _ _ _ h]; rfl, frozen_of_row _ _ _ _ _ h, frozen_of_row _ _ _ _ _ h⟩
theorem IsTable.other {w w' : World} {t : Nat} (h : IsTable w t) (he : w'.heap[t]? = w.heap[t]?) : IsTable w' t := fun i hi => by
  rw [World.cell?_of_block (w := w) (a := ⟨t, i, none⟩) he]; exact h i hi
theorem IsTable.lt {w : World} {t : Nat} (h : IsTable w t) : t < w.heap.size := World.block_lt_of_cell? w _ (h 0 (by omega))
/-- A Sum that has its table gets another number. -/
theorem IsSum.put {w : World} {b t : Nat} {X Y : BitVec 32} (hb : w.heap[b]? = some (.cells #[.pointer (some ⟨t, 0, none⟩), .int .u32 (X.toNat : Int)] 306 (0, 0))) (hT : IsTable w t) (hne : t ≠ b) :
    IsSum (w.setCell ⟨b, 1, none⟩ (.int .u32 (Y.toNat : Int))) b Y :=
  ⟨_, heap_setCell_same _ _ 1 _ _ _ hb, Or.inr ⟨t, rfl, hT.other (heap_setCell_other _ _ _ _ (by simpa using hne)), hne, by simpa [World.setCell] using hT.lt⟩⟩
theorem grownBy_setCell (w : World) (a : Addr) (v : Value) : w.grownBy (w.setCell a v) (some a.block) :=
  ⟨rfl, rfl, rfl, by simp [World.setCell], fun k _ hk => heap_setCell_other _ _ _ _ (fun e => hk (by rw [e]))⟩
theorem grownBy_trans {a b c : World} {r : Option Nat} (h : a.grownBy b r) (k : b.grownBy c r) : a.grownBy c r :=
  ⟨k.os.trans h.os, k.tape.trans h.tape, k.output.trans h.output, Nat.le_trans h.size k.size, fun i hi hr => (k.block i (Nat.lt_of_lt_of_le hi h.size) hr).trans (h.block i hi hr)⟩
theorem grownBy_below {a b : World} (h : Below a.heap.size a b) (r : Option Nat) : a.grownBy b r := ⟨h.os, h.tape, h.output, h.size, fun k hk _ => h.block k hk⟩
theorem grownBy_drew {a b : World} {r : Option Nat} (h : a.grownBy b r) : a.grownBy b.drew r := ⟨h.os, h.tape, h.output, h.size, h.block⟩
theorem tabled {w w1 : World} {b : Nat} {X : BitVec 32} (hb : w.heap[b]? = some (.cells #[.pointer none, .int .u32 (X.toNat : Int)] 306 (0, 0))) (hB : Below w.heap.size w w1) :
    ((Boxed w1).setCell ⟨b, 0, none⟩ (.pointer (some ⟨w1.heap.size, 0, none⟩))).heap[b]? = some (.cells #[.pointer (some ⟨w1.heap.size, 0, none⟩), .int .u32 (X.toNat : Int)] 306 (0, 0)) ∧ IsTable ((Boxed w1).setCell ⟨b, 0, none⟩ (.pointer (some ⟨w1.heap.size, 0, none⟩))) w1.heap.size ∧ w1.heap.size ≠ b ∧ w.grownBy ((Boxed w1).setCell ⟨b, 0, none⟩ (.pointer (some ⟨w1.heap.size, 0, none⟩))) (some b) ∧
    (Boxed w1).cell? ⟨b, 0, none⟩ = some (.pointer none) ∧ (Boxed w1).frozen? ⟨b, 0, none⟩ = false ∧ ((Boxed w1).setCell ⟨b, 0, none⟩ (.pointer (some ⟨w1.heap.size, 0, none⟩))).cell? ⟨b, 1, none⟩ = some (.int .u32 (X.toNat : Int)) ∧ ((Boxed w1).setCell ⟨b, 0, none⟩ (.pointer (some ⟨w1.heap.size, 0, none⟩))).frozen? ⟨b, 1, none⟩ = false ∧ (Boxed w1).cell? ⟨b, 1, none⟩ = some (.int .u32 (X.toNat : Int)) ∧ (Boxed w1).frozen? ⟨b, 1, none⟩ = false := by
  obtain ⟨hT, hBB, hz⟩ := boxed w1 w hB
  have hlt : b < w.heap.size := (Array.getElem?_eq_some_iff.1 hb).1
  have hz1 := hB.size
  have hb1 : (Boxed w1).heap[b]? = some (.cells #[.pointer none, .int .u32 (X.toNat : Int)] 306 (0, 0)) := (hBB.block b hlt).trans hb
  have hb2 : ((Boxed w1).setCell ⟨b, 0, none⟩ (.pointer (some ⟨w1.heap.size, 0, none⟩))).heap[b]? = some (.cells #[.pointer (some ⟨w1.heap.size, 0, none⟩), .int .u32 (X.toNat : Int)] 306 (0, 0)) := heap_setCell_same _ _ 0 _ _ _ hb1
  have hne : w1.heap.size ≠ b := by omega
  exact ⟨hb2, hT.other (heap_setCell_other _ _ _ _ (by simpa using hne)), hne, grownBy_trans (grownBy_below hBB _) (grownBy_setCell _ _ _),
    by rw [cell_of_row _ _ _ _ _ _ hb1]; rfl, frozen_of_row _ _ _ _ _ hb1, by rw [cell_of_row _ _ _ _ _ _ hb2]; rfl, frozen_of_row _ _ _ _ _ hb2, by rw [cell_of_row _ _ _ _ _ _ hb1]; rfl, frozen_of_row _ _ _ _ _ hb1⟩
set_option maxRecDepth 100000 in
set_option maxHeartbeats 400000 in
theorem text_any (b : Nat) (X : BitVec 32) (s : ByteArray) (w : World) (hS : IsSum w b X) (hs : s.size ≤ maxLen) :
    Calls Tryz.prog 299 #[.pointer (some ⟨b, 0, none⟩), .string s] w fun e w' => e = .returned (.tuple #[]) ∧ IsSum w' b (ng (run (ng X) s.data.toList)) ∧ w.grownBy w' (some b) := by
  obtain ⟨hc1, hf0, hf1⟩ := hS.cells
  obtain ⟨tp, hb, hor⟩ := hS
  have hc0 : w.cell? ⟨b, 0, none⟩ = some tp := by rw [cell_of_row _ _ _ _ _ _ hb]; rfl
  rcases hor with rfl | ⟨t, rfl, hT, hne, hlt⟩
  · have HB := Lib.hid hb
    clear hb
    go_enter Tryz.func299, Tryz.ntmps299
    go_wp2_with fail
    refine (table_any _).mono ?_
    rintro e w1 ⟨rfl, hB⟩
    have hg : (w1.alloc (.cells Tryz.zeroCells193 193)).heap[w1.heap.size]? = some (.cells Tryz.zeroCells193 193 (0, 0)) := heap_alloc_new _ _
    obtain ⟨t1, t2, t3, t4, t5, t6, t7, t8, t9, t10⟩ := tabled HB.out hB
    have T1 := Lib.hid t1
    have T2 := Lib.hid t2
    have T3 := Lib.hid t3
    have T4 := Lib.hid t4
    have T2D := Lib.hid (t2.other (w' := ((Boxed w1).setCell ⟨b, 0, none⟩ (.pointer (some ⟨w1.heap.size, 0, none⟩))).drew) rfl)
    have hc0' : ((Boxed w1).setCell ⟨b, 0, none⟩ (.pointer (some ⟨w1.heap.size, 0, none⟩))).cell? ⟨b, 0, none⟩ = some (.pointer (some ⟨w1.heap.size, 0, none⟩)) := by rw [cell_of_row _ _ _ _ _ _ t1]; rfl
    clear t1 t2 t3 t4 hB
    go_wp2_with (refine wpList_store_row rfl 193 _ _ rfl w1.heap.size tabArr rfl rfl 193 Tryz.zeroCells193 hg info51 (zero51.trans tabArr_size.symm) tabArr_cells ?_; change wpList _ _ _ _ _ (Boxed w1))
    go_region_with (first | (go_at_call 140; refine (further_any w1.heap.size X s _ T2D.out hs).mono ?_; rintro e w' ⟨rfl, rfl⟩))
    all_goals go_wp2_with fail
    all_goals go_end0
    all_goals exact ⟨rfl, IsSum.put T1.out T2.out T3.out, grownBy_drew (grownBy_trans T4.out (grownBy_setCell _ ⟨b, 1, none⟩ _))⟩
  · have HB := Lib.hid hb
    have HT := Lib.hid hT
    have HN := Lib.hid hne
    have HTD := Lib.hid (hT.other (w' := w.drew) rfl)
    clear hb hT hne
    go_enter Tryz.func299, Tryz.ntmps299
    go_wp2_with fail
    go_region_with (first | (go_at_call 140; refine (further_any t X s _ HTD.out hs).mono ?_; rintro e w' ⟨rfl, rfl⟩))
    all_goals go_wp2_with fail
    all_goals go_end0
    all_goals exact ⟨rfl, IsSum.put HB.out HT.out HN.out, grownBy_drew (grownBy_setCell _ ⟨b, 1, none⟩ _)⟩
theorem IsSum.other {w w' : World} {b : Nat} {X : BitVec 32} (h : IsSum w b X) (hg : w.grownBy w' none) : IsSum w' b X := by
  obtain ⟨tp, hb, hor⟩ := h
  have hlt : b < w.heap.size := (Array.getElem?_eq_some_iff.1 hb).1
  refine ⟨tp, (hg.block b hlt (by simp)).trans hb, ?_⟩
  rcases hor with h | ⟨t, h1, h2, h3, h4⟩
  · exact Or.inl h
  · exact Or.inr ⟨t, h1, h2.other (hg.block t h4 (by simp)), h3, Nat.lt_of_lt_of_le h4 hg.size⟩
set_option maxHeartbeats 400000 in
theorem reset_any (b : Nat) (X : BitVec 32) (w : World) (hS : IsSum w b X) :
    Calls Tryz.prog 289 #[.pointer (some ⟨b, 0, none⟩)] w fun e w' => e = .returned (.tuple #[]) ∧ IsSum w' b 0#32 ∧ w.grownBy w' (some b) := by
  obtain ⟨hc1, hf0, hf1⟩ := hS.cells
  have HS := Lib.hid hS
  clear hS
  go_enter Tryz.func289, Tryz.ntmps289
  go_wp2_with fail
  go_end0
  refine ⟨rfl, ?_, grownBy_setCell _ _ _⟩
  obtain ⟨tp, hb, hor⟩ := HS.out
  refine ⟨tp, heap_setCell_same _ _ 1 _ _ _ hb, ?_⟩
  rcases hor with h | ⟨t, h1, h2, h3, h4⟩
  · exact Or.inl h
  · exact Or.inr ⟨t, h1, h2.other (heap_setCell_other _ _ _ _ (by simpa using h3)), h3, by simpa [World.setCell] using h4⟩
set_option maxHeartbeats 400000 in
theorem value_any (b : Nat) (X : BitVec 32) (w : World) (hS : IsSum w b X) :
    Calls Tryz.prog 288 #[.pointer (some ⟨b, 0, none⟩)] w fun e w' => e = .returned (.int .u32 (X.toNat : Int)) ∧ w = w' := by
  obtain ⟨hc1, hf0, hf1⟩ := hS.cells
  clear hS
  go_enter Tryz.func288, Tryz.ntmps288
  go_wp2_with fail
  go_ret
  exact ⟨rfl, rfl⟩
theorem one_byte {x : ByteArray} (h : x.size = 1) : ∃ c, x = ⟨#[c]⟩ := by
  obtain ⟨a⟩ := x
  match a, h with
  | ⟨[c]⟩, _ => exact ⟨c, rfl⟩
theorem crc_more (a b : List UInt8) : ng (run (ng (crc a)) b) = crc (a ++ b) := by unfold crc; rw [ng_ng, run_append]

end Go.Proofs.YtnachbjhhpnadaaGreatDoor
