/-
  LAYER 2's STATEMENTS (sums).
-/
import Derived.Test.YthkgkhpfahippaaLawKit
import Derived.Test.YthkgkhpfahippaaCrc
import Derived.Deep.RegionWith
namespace Go.Proofs.Ythkgkhpfahippaa
open Go.ChangeShapes Go.WideShapes Go.ChangeAt Go.RowKit CrcM
open Go.ChangeMaps (open_string shut_string)
set_option linter.unusedVariables false

theorem bd_u8 {b : Int} (h : (Lit.int .u8 b).wf = true) : ∃ c : UInt8, b = (c.toNat : Int) := by
  have hx : 0 ≤ b ∧ b ≤ 255 := by simpa [Lit.wf, IntKind.min, IntKind.max, IntKind.signed, IntKind.bits] using h
  exact ⟨UInt8.ofNat b.toNat, by simp; omega⟩
theorem bd_u32 {b : Int} (h : (Lit.int .u32 b).wf = true) : ∃ c : BitVec 32, b = (c.toNat : Int) := by
  have hx : 0 ≤ b ∧ b ≤ 4294967295 := by simpa [Lit.wf, IntKind.min, IntKind.max, IntKind.signed, IntKind.bits] using h
  exact ⟨BitVec.ofNat 32 b.toNat, by simp; omega⟩
theorem bd_i64 {b : Int} (h : (Lit.int .i64 b).wf = true) : -9223372036854775808 ≤ b ∧ b ≤ 9223372036854775807 := by
  simpa [Lit.wf, IntKind.min, IntKind.max, IntKind.signed, IntKind.bits] using h

theorem crc9 : ((crc [49, 50, 51, 52, 53, 54, 55, 56, 57]).toNat : Int) = 4236843288 := by decide +kernel
theorem crc0 : ((crc []).toNat : Int) = 0 := by decide +kernel
theorem cmb9 : ((cmb 2147483649#32 2#32).toNat : Int) = 1 := by decide +kernel

set_option maxHeartbeats 400000 in
theorem nine_any (w : World) : Calls Try.prog 43 #[] w fun e w' => e = .returned (.bool true) ∧ Below w.heap.size w w' := by
  have h9 := crc9
  have h0 := crc0
  have hc := Lib.hid cmb9
  go_enter Try.func43, Try.ntmps43
  go_wp2_with fail
  refine (of_any _ _ (by decide)).mono ?_
  rintro e w1 ⟨rfl, hb1⟩
  have H1 := Lib.hid hb1
  clear hb1
  go_wp2_with fail
  refine (of_any _ _ (by decide)).mono ?_
  rintro e w2 ⟨rfl, hb2⟩
  have H2 := Lib.hid hb2
  clear hb2
  go_wp2_with fail
  refine (combine_any 2147483649#32 2#32 _).mono ?_
  rintro e w3 ⟨rfl, rfl⟩
  have hc' := hc.out
  go_wp2_with fail
  go_ret
  exact ⟨rfl, H1.out.trans (H2.out.mono H1.out.size)⟩

set_option maxHeartbeats 400000 in
theorem crcOf.walk (s : ByteArray) (w : World) (w0 : s.size ≤ maxLen) :
    Calls Try.prog 9 #[.string s] w fun e w' => e = .returned (.bool true) ∧ Below w.heap.size w w' := by
  by_cases hlt : (2000 : Int) < s.size
  · go_enter Try.func9, Try.ntmps9
    go_wp2_with fail
    refine (nine_any _).mono ?_
    rintro e w1 ⟨rfl, hb1⟩
    go_wp2_with fail
    go_ret
    exact ⟨rfl, hb1⟩
  · go_enter Try.func9, Try.ntmps9
    go_wp2_with fail
    refine (of_any _ _ w0).mono ?_
    rintro e w1 ⟨rfl, hb1⟩
    have H1 := Lib.hid hb1
    clear hb1
    go_wp2_with fail
    refine (refOf_any _ _ w0).mono ?_
    rintro e w2 ⟨rfl, rfl⟩
    go_wp2_with fail
    refine (nine_any _).mono ?_
    rintro e w2 ⟨rfl, hb2⟩
    have H2 := Lib.hid hb2
    clear hb2
    go_wp2_with fail
    go_ret
    exact ⟨rfl, H1.out.trans (H2.out.mono H1.out.size)⟩
set_option maxHeartbeats 400000 in
theorem step_some (B : Nat) (X : BitVec 32) (b : UInt8) (w : World) (hT : IsTable w B) :
    Calls Try.prog 40 #[.pointer (some ⟨B, 0, none⟩), .int .u32 (X.toNat : Int), .int .u8 (b.toNat : Int)] w fun e w' => e = .returned (.tuple #[.int .u32 ((nx X b).toNat : Int), .int .i64 0]) ∧ w = w' := by
  have HT := Lib.hid hT
  clear hT
  go_enter Try.func40, Try.ntmps40
  go_wp2_with fail
  refine (next_any B X b w HT.out).mono ?_
  rintro e w' ⟨rfl, rfl⟩
  go_wp2_with fail
  go_ret2
  exact ⟨rfl, rfl⟩
set_option maxHeartbeats 400000 in
theorem step_nil (x y : Value) (w : World) :
    Calls Try.prog 40 #[.pointer none, x, y] w fun e w' => e = .returned (.tuple #[.int .u32 0, .int .i64 7]) ∧ w = w' := by
  go_enter Try.func40, Try.ntmps40
  go_wp2_with fail
  go_ret2
  exact ⟨rfl, rfl⟩
noncomputable def Boxed (w1 : World) : World := (w1.alloc (.cells Try.zeroCells51 51)).setRow w1.heap.size tabArr
/-- The table in a variable of the call's own. -/
theorem boxed (w1 w : World) (hb : Below w.heap.size w w1) : IsTable (Boxed w1) w1.heap.size ∧ Below w.heap.size w (Boxed w1) ∧ w1.heap.size + 1 ≤ (Boxed w1).heap.size := by
  have hg : (w1.alloc (.cells Try.zeroCells51 51)).heap[w1.heap.size]? = some (.cells Try.zeroCells51 51 (0, 0)) := heap_alloc_new _ _
  have hz := hb.size
  refine ⟨fun i hi => ?_, below_setRow (hb.alloc hz _) hz _, ?_⟩
  · unfold Boxed
    rw [cell_of_row _ _ i tabArr 51 _ (setRow_heap _ _ _ _ 51 _ hg)]; exact tabArr_get i hi
  · unfold Boxed
    rw [setRow_size]; simp
set_option maxRecDepth 100000 in
set_option maxHeartbeats 400000 in
theorem crcTable.walk (sum : Int) (b : Int) (w : World) (w0 : (Lit.int .u32 sum).wf = true) (w1 : (Lit.int .u8 b).wf = true) :
    Calls Try.prog 8 #[.int .u32 sum, .int .u8 b] w fun e w' => e = .returned (.bool true) ∧ Below w.heap.size w w' := by
  obtain ⟨X, rfl⟩ := bd_u32 w0
  obtain ⟨c, rfl⟩ := bd_u8 w1
  have hc0 := c.toNat_lt
  go_enter Try.func8, Try.ntmps8
  go_wp2_with fail
  refine (table_any _).mono ?_
  rintro e w1 ⟨rfl, hb⟩
  have hg : (w1.alloc (.cells Try.zeroCells51 51)).heap[w1.heap.size]? = some (.cells Try.zeroCells51 51 (0, 0)) := heap_alloc_new _ _
  go_wp2_with (refine wpList_store_row rfl 51 _ _ rfl w1.heap.size tabArr rfl rfl 51 Try.zeroCells51 hg info51 (zero51.trans tabArr_size.symm) tabArr_cells ?_)
  obtain ⟨hT, hB, hsz⟩ := boxed w1 w hb
  have HT := Lib.hid hT
  have HB := Lib.hid hB
  have HZ := Lib.hid hsz
  have HS := Lib.hid hb.size
  clear hg hb hT hB hsz
  refine (step_some w1.heap.size X c _ HT.out).mono ?_
  rintro e w' ⟨rfl, rfl⟩
  go_wp2_with fail
  refine (step_nil _ _ _).mono ?_
  rintro e w' ⟨rfl, rfl⟩
  go_wp2_with fail
  have hcell : ∀ s : Beneath (w1.heap.size + 1) (Boxed w1), s.val.cell? ⟨w1.heap.size, c.toNat, none⟩ = some (.int .u32 ((it 8 (up c.toNat)).toNat : Int)) := fun s => (s.is.cell (p := ⟨w1.heap.size, c.toNat, none⟩) (by simp)).trans (HT.out c.toNat hc0)
  have hci : (c.toNat : Int) < 256 := by omega
  refine wp_region_beneath (w1.heap.size + 1) (Boxed w1) (Below.refl _ _) (by kernel_rfl) (by kernel_rfl) ?_
  repeat (go_big_quiet_step (first
    | (go_at_call 41; rename_i s; exact Calls.beneath_same s (refBits_any _ (up c.toNat) (up_code _ hc0) _))
    | (go_at_call 42; rename_i s; exact Calls.beneath_same s (refStep_any X c _))
    | (go_at_call 43; rename_i s; exact Calls.beneath s HZ.out (nine_any _))))
  refine wpQuiet_nil ?_
  rintro _ ⟨s, rfl⟩
  go_wp2_with fail
  go_ret
  exact ⟨rfl, HB.out.trans (s.is.mono (by have := HS.out; omega))⟩
theorem conv_one (w : World) (c : UInt8) : (convert 72 9 (.slice (some ⟨w.heap.size, 0, none⟩) 1 1)).run Try.prog (w.alloc (.cells #[.int .u8 (c.toNat : Int)] 5)) = .ok (.string ⟨#[c]⟩) (w.alloc (.cells #[.int .u8 (c.toNat : Int)] 5)) :=
  run_convert_bytes_back _ 72 9 5 ⟨w.heap.size, 0, none⟩ 1 [c] Try.underlying72 Try.underlying5 Try.underlying9 (fun j hj => by
    obtain rfl : j = 0 := by simpa using hj
    rw [Addr.add_lit, World.cell?_alloc_mark]; rfl)
set_option maxHeartbeats 400000 in
theorem text_nil (x : Value) (w : World) :
    Calls Try.prog 53 #[.pointer none, x] w fun e w' => e = .returned (.tuple #[]) ∧ w = w' := by
  go_enter Try.func53, Try.ntmps53
  go_wp2_with fail
  refine bodyPost_ret (results_none rfl _ _ _) rfl ?_
  exact ⟨rfl, rfl⟩
set_option maxHeartbeats 400000 in
theorem put_nil (c : UInt8) (w : World) :
    Calls Try.prog 52 #[.pointer none, .int .u8 (c.toNat : Int)] w fun e w' => e = .returned (.tuple #[]) ∧ Below w.heap.size w w' := by
  have hk := conv_one w c
  go_enter Try.func52, Try.ntmps52
  go_wp2_with fail
  refine (text_nil _ _).mono ?_
  rintro e w' ⟨rfl, rfl⟩
  go_wp2_with fail
  go_end0
  exact ⟨rfl, (Below.refl _ _).alloc (Nat.le_refl _) _⟩
set_option maxHeartbeats 400000 in
theorem reset_nil (w : World) :
    Calls Try.prog 51 #[.pointer none] w fun e w' => e = .returned (.tuple #[]) ∧ w = w' := by
  go_enter Try.func51, Try.ntmps51
  go_wp2_with fail
  refine bodyPost_ret (results_none rfl _ _ _) rfl ?_
  exact ⟨rfl, rfl⟩
set_option maxHeartbeats 400000 in
theorem value_nil (w : World) :
    Calls Try.prog 54 #[.pointer none] w fun e w' => e = .returned (.int .u32 0) ∧ w = w' := by
  go_enter Try.func54, Try.ntmps54
  go_wp2_with fail
  go_ret
  exact ⟨rfl, rfl⟩
set_option maxHeartbeats 400000 in
theorem crcNil.walk (b : Int) (s : ByteArray) (w : World) (w0 : (Lit.int .u8 b).wf = true) (w1 : s.size ≤ maxLen) :
    Calls Try.prog 14 #[.int .u8 b, .string s] w fun e w' => e = .returned (.bool true) ∧ Below w.heap.size w w' := by
  obtain ⟨c, rfl⟩ := bd_u8 w0
  by_cases hlt : (500 : Int) < s.size
  · go_enter Try.func14, Try.ntmps14
    go_wp2_with fail
    refine (nine_any _).mono ?_
    rintro e w1 ⟨rfl, hb1⟩
    go_wp2_with fail
    go_ret
    exact ⟨rfl, hb1⟩
  · go_enter Try.func14, Try.ntmps14
    go_wp2_with fail
    refine (put_nil c _).mono ?_
    rintro e w1 ⟨rfl, hb1⟩
    have H1 := Lib.hid hb1
    clear hb1
    go_wp2_with fail
    refine (text_nil _ _).mono ?_
    rintro e w' ⟨rfl, rfl⟩
    go_wp2_with fail
    refine (reset_nil _).mono ?_
    rintro e w' ⟨rfl, rfl⟩
    go_wp2_with fail
    refine (value_nil _).mono ?_
    rintro e w' ⟨rfl, rfl⟩
    go_wp2_with fail
    refine (nine_any _).mono ?_
    rintro e w2 ⟨rfl, hb2⟩
    have H2 := Lib.hid hb2
    clear hb2
    go_wp2_with fail
    go_ret
    exact ⟨rfl, H1.out.trans (H2.out.mono H1.out.size)⟩

/-! ### A Sum -/
/-- Block b is a Sum whose number is X. -/
def IsSum (w : World) (b : Nat) (X : BitVec 32) : Prop :=
  ∃ tp, w.heap[b]? = some (.cells #[tp, .int .u32 (X.toNat : Int)] 89 (0, 0)) ∧ (tp = .pointer none ∨ ∃ t, tp = .pointer (some ⟨t, 0, none⟩) ∧ IsTable w t ∧ t ≠ b ∧ t < w.heap.size)
set_option maxHeartbeats 400000 in
theorem new_any (w : World) :
    Calls Try.prog 50 #[] w fun e w' => e = .returned (.pointer (some ⟨w.heap.size, 0, none⟩)) ∧ IsSum w' w.heap.size 0#32 ∧ Below w.heap.size w w' := by
  go_enter Try.func50, Try.ntmps50
  go_wp2_with fail
  go_ret
  exact ⟨rfl, ⟨_, heap_alloc_new _ _, Or.inl rfl⟩, (Below.refl _ _).alloc (Nat.le_refl _) _⟩
theorem IsSum.cells {w : World} {b : Nat} {X : BitVec 32} (h : IsSum w b X) : w.cell? ⟨b, 1, none⟩ = some (.int .u32 (X.toNat : Int)) ∧ w.frozen? ⟨b, 0, none⟩ = false ∧ w.frozen? ⟨b, 1, none⟩ = false := by
  obtain ⟨tp, h, _⟩ := h
  exact ⟨by rw [cell_of_row _ _ _ _ _ _ h]; rfl, frozen_of_row _ _ _ _ _ h, frozen_of_row _ _ _ _ _ h⟩
theorem IsTable.other {w w' : World} {t : Nat} (h : IsTable w t) (he : w'.heap[t]? = w.heap[t]?) : IsTable w' t := fun i hi => by
  rw [World.cell?_of_block (w := w) (a := ⟨t, i, none⟩) he]; exact h i hi
theorem IsTable.lt {w : World} {t : Nat} (h : IsTable w t) : t < w.heap.size := World.block_lt_of_cell? w _ (h 0 (by omega))
/-- A Sum that has its table gets another number. -/
theorem IsSum.put {w : World} {b t : Nat} {X Y : BitVec 32} (hb : w.heap[b]? = some (.cells #[.pointer (some ⟨t, 0, none⟩), .int .u32 (X.toNat : Int)] 89 (0, 0))) (hT : IsTable w t) (hne : t ≠ b) :
    IsSum (w.setCell ⟨b, 1, none⟩ (.int .u32 (Y.toNat : Int))) b Y :=
  ⟨_, heap_setCell_same _ _ 1 _ _ _ hb, Or.inr ⟨t, rfl, hT.other (heap_setCell_other _ _ _ _ (by simpa using hne)), hne, by simpa [World.setCell] using hT.lt⟩⟩
theorem grownBy_setCell (w : World) (a : Addr) (v : Value) : w.grownBy (w.setCell a v) (some a.block) :=
  ⟨rfl, rfl, rfl, by simp [World.setCell], fun k _ hk => heap_setCell_other _ _ _ _ (fun e => hk (by rw [e]))⟩
theorem grownBy_trans {a b c : World} {r : Option Nat} (h : a.grownBy b r) (k : b.grownBy c r) : a.grownBy c r :=
  ⟨k.os.trans h.os, k.tape.trans h.tape, k.output.trans h.output, Nat.le_trans h.size k.size, fun i hi hr => (k.block i (Nat.lt_of_lt_of_le hi h.size) hr).trans (h.block i hi hr)⟩
theorem grownBy_below {a b : World} (h : Below a.heap.size a b) (r : Option Nat) : a.grownBy b r := ⟨h.os, h.tape, h.output, h.size, fun k hk _ => h.block k hk⟩
theorem grownBy_drew {a b : World} {r : Option Nat} (h : a.grownBy b r) : a.grownBy b.drew r := ⟨h.os, h.tape, h.output, h.size, h.block⟩
theorem tabled {w w1 : World} {b : Nat} {X : BitVec 32} (hb : w.heap[b]? = some (.cells #[.pointer none, .int .u32 (X.toNat : Int)] 89 (0, 0))) (hB : Below w.heap.size w w1) :
    ((Boxed w1).setCell ⟨b, 0, none⟩ (.pointer (some ⟨w1.heap.size, 0, none⟩))).heap[b]? = some (.cells #[.pointer (some ⟨w1.heap.size, 0, none⟩), .int .u32 (X.toNat : Int)] 89 (0, 0)) ∧ IsTable ((Boxed w1).setCell ⟨b, 0, none⟩ (.pointer (some ⟨w1.heap.size, 0, none⟩))) w1.heap.size ∧ w1.heap.size ≠ b ∧ w.grownBy ((Boxed w1).setCell ⟨b, 0, none⟩ (.pointer (some ⟨w1.heap.size, 0, none⟩))) (some b) ∧
    (Boxed w1).cell? ⟨b, 0, none⟩ = some (.pointer none) ∧ (Boxed w1).frozen? ⟨b, 0, none⟩ = false ∧ ((Boxed w1).setCell ⟨b, 0, none⟩ (.pointer (some ⟨w1.heap.size, 0, none⟩))).cell? ⟨b, 1, none⟩ = some (.int .u32 (X.toNat : Int)) ∧ ((Boxed w1).setCell ⟨b, 0, none⟩ (.pointer (some ⟨w1.heap.size, 0, none⟩))).frozen? ⟨b, 1, none⟩ = false ∧ (Boxed w1).cell? ⟨b, 1, none⟩ = some (.int .u32 (X.toNat : Int)) ∧ (Boxed w1).frozen? ⟨b, 1, none⟩ = false := by
  obtain ⟨hT, hBB, hz⟩ := boxed w1 w hB
  have hlt : b < w.heap.size := (Array.getElem?_eq_some_iff.1 hb).1
  have hz1 := hB.size
  have hb1 : (Boxed w1).heap[b]? = some (.cells #[.pointer none, .int .u32 (X.toNat : Int)] 89 (0, 0)) := (hBB.block b hlt).trans hb
  have hb2 : ((Boxed w1).setCell ⟨b, 0, none⟩ (.pointer (some ⟨w1.heap.size, 0, none⟩))).heap[b]? = some (.cells #[.pointer (some ⟨w1.heap.size, 0, none⟩), .int .u32 (X.toNat : Int)] 89 (0, 0)) := heap_setCell_same _ _ 0 _ _ _ hb1
  have hne : w1.heap.size ≠ b := by omega
  exact ⟨hb2, hT.other (heap_setCell_other _ _ _ _ (by simpa using hne)), hne, grownBy_trans (grownBy_below hBB _) (grownBy_setCell _ _ _),
    by rw [cell_of_row _ _ _ _ _ _ hb1]; rfl, frozen_of_row _ _ _ _ _ hb1, by rw [cell_of_row _ _ _ _ _ _ hb2]; rfl, frozen_of_row _ _ _ _ _ hb2, by rw [cell_of_row _ _ _ _ _ _ hb1]; rfl, frozen_of_row _ _ _ _ _ hb1⟩
set_option maxRecDepth 100000 in
set_option maxHeartbeats 400000 in
theorem text_any (b : Nat) (X : BitVec 32) (s : ByteArray) (w : World) (hS : IsSum w b X) (hs : s.size ≤ maxLen) :
    Calls Try.prog 53 #[.pointer (some ⟨b, 0, none⟩), .string s] w fun e w' => e = .returned (.tuple #[]) ∧ IsSum w' b (ng (run (ng X) s.data.toList)) ∧ w.grownBy w' (some b) := by
  obtain ⟨hc1, hf0, hf1⟩ := hS.cells
  obtain ⟨tp, hb, hor⟩ := hS
  have hc0 : w.cell? ⟨b, 0, none⟩ = some tp := by rw [cell_of_row _ _ _ _ _ _ hb]; rfl
  rcases hor with rfl | ⟨t, rfl, hT, hne, hlt⟩
  · have HB := Lib.hid hb
    clear hb
    go_enter Try.func53, Try.ntmps53
    go_wp2_with fail
    refine (table_any _).mono ?_
    rintro e w1 ⟨rfl, hB⟩
    have hg : (w1.alloc (.cells Try.zeroCells51 51)).heap[w1.heap.size]? = some (.cells Try.zeroCells51 51 (0, 0)) := heap_alloc_new _ _
    obtain ⟨t1, t2, t3, t4, t5, t6, t7, t8, t9, t10⟩ := tabled HB.out hB
    have T1 := Lib.hid t1
    have T2 := Lib.hid t2
    have T3 := Lib.hid t3
    have T4 := Lib.hid t4
    have T2D := Lib.hid (t2.other (w' := ((Boxed w1).setCell ⟨b, 0, none⟩ (.pointer (some ⟨w1.heap.size, 0, none⟩))).drew) rfl)
    have hc0' : ((Boxed w1).setCell ⟨b, 0, none⟩ (.pointer (some ⟨w1.heap.size, 0, none⟩))).cell? ⟨b, 0, none⟩ = some (.pointer (some ⟨w1.heap.size, 0, none⟩)) := by rw [cell_of_row _ _ _ _ _ _ t1]; rfl
    clear t1 t2 t3 t4 hB
    go_wp2_with (refine wpList_store_row rfl 51 _ _ rfl w1.heap.size tabArr rfl rfl 51 Try.zeroCells51 hg info51 (zero51.trans tabArr_size.symm) tabArr_cells ?_; change wpList _ _ _ _ _ (Boxed w1))
    go_region_with (first | (go_at_call 63; refine (further_any w1.heap.size X s _ T2D.out hs).mono ?_; rintro e w' ⟨rfl, rfl⟩))
    all_goals go_wp2_with fail
    all_goals go_end0
    all_goals exact ⟨rfl, IsSum.put T1.out T2.out T3.out, grownBy_drew (grownBy_trans T4.out (grownBy_setCell _ ⟨b, 1, none⟩ _))⟩
  · have HB := Lib.hid hb
    have HT := Lib.hid hT
    have HN := Lib.hid hne
    have HTD := Lib.hid (hT.other (w' := w.drew) rfl)
    clear hb hT hne
    go_enter Try.func53, Try.ntmps53
    go_wp2_with fail
    go_region_with (first | (go_at_call 63; refine (further_any t X s _ HTD.out hs).mono ?_; rintro e w' ⟨rfl, rfl⟩))
    all_goals go_wp2_with fail
    all_goals go_end0
    all_goals exact ⟨rfl, IsSum.put HB.out HT.out HN.out, grownBy_drew (grownBy_setCell _ ⟨b, 1, none⟩ _)⟩
theorem IsSum.other {w w' : World} {b : Nat} {X : BitVec 32} (h : IsSum w b X) (hg : w.grownBy w' none) : IsSum w' b X := by
  obtain ⟨tp, hb, hor⟩ := h
  have hlt : b < w.heap.size := (Array.getElem?_eq_some_iff.1 hb).1
  refine ⟨tp, (hg.block b hlt (by simp)).trans hb, ?_⟩
  rcases hor with h | ⟨t, h1, h2, h3, h4⟩
  · exact Or.inl h
  · exact Or.inr ⟨t, h1, h2.other (hg.block t h4 (by simp)), h3, Nat.lt_of_lt_of_le h4 hg.size⟩
set_option maxHeartbeats 400000 in
theorem put_any (b : Nat) (X : BitVec 32) (c : UInt8) (w : World) (hS : IsSum w b X) :
    Calls Try.prog 52 #[.pointer (some ⟨b, 0, none⟩), .int .u8 (c.toNat : Int)] w fun e w' => e = .returned (.tuple #[]) ∧ IsSum w' b (ng (run (ng X) [c])) ∧ w.grownBy w' (some b) := by
  have hk := conv_one w c
  have hS2 := Lib.hid (hS.other (World.grownBy_alloc w (.cells #[.int .u8 (c.toNat : Int)] 5) none))
  clear hS
  go_enter Try.func52, Try.ntmps52
  go_wp2_with fail
  refine (text_any b X _ _ hS2.out (by show 1 ≤ maxLen; decide)).mono ?_
  rintro e w' ⟨rfl, h1, h2⟩
  have H1 := Lib.hid h1
  have H2 := Lib.hid h2
  clear h1 h2
  go_wp2_with fail
  go_end0
  exact ⟨rfl, H1.out, grownBy_trans (World.grownBy_alloc w _ _) H2.out⟩
set_option maxHeartbeats 400000 in
theorem reset_any (b : Nat) (X : BitVec 32) (w : World) (hS : IsSum w b X) :
    Calls Try.prog 51 #[.pointer (some ⟨b, 0, none⟩)] w fun e w' => e = .returned (.tuple #[]) ∧ IsSum w' b 0#32 ∧ w.grownBy w' (some b) := by
  obtain ⟨hc1, hf0, hf1⟩ := hS.cells
  have HS := Lib.hid hS
  clear hS
  go_enter Try.func51, Try.ntmps51
  go_wp2_with fail
  go_end0
  refine ⟨rfl, ?_, grownBy_setCell _ _ _⟩
  obtain ⟨tp, hb, hor⟩ := HS.out
  refine ⟨tp, heap_setCell_same _ _ 1 _ _ _ hb, ?_⟩
  rcases hor with h | ⟨t, h1, h2, h3, h4⟩
  · exact Or.inl h
  · exact Or.inr ⟨t, h1, h2.other (heap_setCell_other _ _ _ _ (by simpa using h3)), h3, by simpa [World.setCell] using h4⟩
set_option maxHeartbeats 400000 in
theorem value_any (b : Nat) (X : BitVec 32) (w : World) (hS : IsSum w b X) :
    Calls Try.prog 54 #[.pointer (some ⟨b, 0, none⟩)] w fun e w' => e = .returned (.int .u32 (X.toNat : Int)) ∧ w = w' := by
  obtain ⟨hc1, hf0, hf1⟩ := hS.cells
  clear hS
  go_enter Try.func54, Try.ntmps54
  go_wp2_with fail
  go_ret
  exact ⟨rfl, rfl⟩
theorem one_byte {x : ByteArray} (h : x.size = 1) : ∃ c, x = ⟨#[c]⟩ := by
  obtain ⟨a⟩ := x
  match a, h with
  | ⟨[c]⟩, _ => exact ⟨c, rfl⟩
theorem crc_more (a b : List UInt8) : ng (run (ng (crc a)) b) = crc (a ++ b) := by unfold crc; rw [ng_ng, run_append]

set_option maxHeartbeats 1000000 in
theorem crcPieces.walk (l : Option Addr) (len cap : Nat) (ss : List ByteArray) (reset : Int) (w : World) (w0 : IsStrs w l len cap ss) (w1 : (Lit.int .i64 reset).wf = true) :
    Calls Try.prog 11 #[.slice l len cap, .int .i64 reset] w fun e w' => e = .returned (.bool true) ∧ Below w.heap.size w w' := by
  obtain ⟨hl, hmax, hcell, hsz⟩ := w0
  by_cases h20 : (20 : Int) < len
  · go_enter Try.func11, Try.ntmps11
    go_wp2_with fail
    refine (nine_any _).mono ?_
    rintro e w1 ⟨rfl, hb1⟩
    go_wp2_with fail
    go_ret
    exact ⟨rfl, hb1⟩
  · have HC := Lib.hid hcell
    have HSZ := Lib.hid hsz
    have HL := Lib.hid hl
    clear hcell hsz hl
    go_enter Try.func11, Try.ntmps11
    go_wp2_with fail
    refine (new_any _).mono ?_
    rintro e w1 ⟨rfl, hs1, hb1⟩
    have HS1 := Lib.hid hs1
    have HB1 := Lib.hid hb1
    clear hs1 hb1
    go_wp2_with fail
    go_loopw [6, 7, 8, 16] (fun all _ _ i wr => ∃ (k : Nat) (A : ByteArray), k ≤ len ∧ i = .int .i64 k ∧ all = .string A ∧ A.size ≤ 100 * k ∧ IsSum wr w.heap.size (crc A.data.toList) ∧ Below w.heap.size w wr) (fun _ _ _ i _ => len - (intOf i).toNat)
    case atStart => exact ⟨0, ByteArray.empty, by omega, rfl, rfl, by decide, HS1.out, HB1.out⟩
    case round =>
      obtain ⟨k, A, hk, rfl, rfl, hA, hS, hB⟩ := hrel
      have HS := Lib.hid hS
      have HB := Lib.hid hB
      clear hS hB
      by_cases hlt : k < len
      · obtain ⟨b, off, rfl, hcl⟩ := HC.out k hlt
        have hxm := HSZ.out (ss.getD k ByteArray.empty) (by
          have hlen := HL.out
          rw [List.getD_eq_getElem?_getD, List.getElem?_eq_getElem (by omega)]
          exact List.getElem_mem _)
        generalize ss.getD k ByteArray.empty = x at *
        have hblt : b < w.heap.size := World.block_lt_of_cell? w _ hcl
        have hcl' := (HB.out.cell (p := ⟨b, off + k, none⟩) hblt).trans hcl
        clear hcl
        by_cases hbig : (100 : Int) < x.size
        · go_wp2_with fail
          refine (nine_any _).mono ?_
          rintro e w2 ⟨rfl, hb2⟩
          have H2 := Lib.hid hb2
          clear hb2
          go_wp2_with fail
          go_ret
          exact ⟨rfl, HB.out.trans (H2.out.mono HB.out.size)⟩
        · by_cases hr : ((k : Int) == reset) = true
          · go_wp2_with fail
            refine (reset_any _ _ _ HS.out).mono ?_
            rintro e w2 ⟨rfl, h2, g2⟩
            have H2 := Lib.hid h2
            have G2 := Lib.hid g2
            clear h2 g2
            by_cases h1 : x.size = 1
            · obtain ⟨c, hc⟩ := one_byte h1
              have hidx : ((1 : Int) == 1) = true := rfl
              obtain rfl : x = ⟨#[c]⟩ := hc
              go_wp2_with fail
              refine (put_any _ _ c _ H2.out).mono ?_
              rintro e w3 ⟨rfl, h3, g3⟩
              have H3 := Lib.hid h3
              have G3 := Lib.hid g3
              clear h3 g3
              go_wp2_with fail
              have HS3 : Hid (IsSum w3 w.heap.size (crc ((⟨#[c]⟩ : ByteArray)).data.toList)) := Lib.hid (by have h := H3.out; exact h)
              have HB3 : Hid (Below w.heap.size w w3) := Lib.hid ((HB.out.grown G2.out HB.out.size (fun k hk => by cases hk; exact Nat.le_refl _)).grown G3.out (Nat.le_trans HB.out.size G2.out.size) (fun k hk => by cases hk; exact Nat.le_refl _))
              refine (value_any _ _ _ HS3.out).mono ?_
              rintro e w4 ⟨rfl, rfl⟩
              go_wp2_with fail
              refine (refOf_any ((⟨#[c]⟩ : ByteArray)) _ ?_).mono ?_
              · show 1 ≤ maxLen; decide
              rintro e w4 ⟨rfl, rfl⟩
              go_wp2_with fail
              go_roundw
              case rel => exact ⟨k + 1, (⟨#[c]⟩ : ByteArray), by omega, by go_num, rfl, by show 1 ≤ _; omega, HS3.out, HB3.out⟩
              case measure => simp [intOf]; omega
            · have h1b : ((x.size : Int) == 1) = false := by simp; omega
              go_wp2_with fail
              refine (text_any _ _ x _ H2.out hxm).mono ?_
              rintro e w3 ⟨rfl, h3, g3⟩
              have H3 := Lib.hid h3
              have G3 := Lib.hid g3
              clear h3 g3
              go_wp2_with fail
              have HS3 : Hid (IsSum w3 w.heap.size (crc (x).data.toList)) := Lib.hid (by have h := H3.out; exact h)
              have HB3 : Hid (Below w.heap.size w w3) := Lib.hid ((HB.out.grown G2.out HB.out.size (fun k hk => by cases hk; exact Nat.le_refl _)).grown G3.out (Nat.le_trans HB.out.size G2.out.size) (fun k hk => by cases hk; exact Nat.le_refl _))
              refine (value_any _ _ _ HS3.out).mono ?_
              rintro e w4 ⟨rfl, rfl⟩
              go_wp2_with fail
              refine (refOf_any (x) _ ?_).mono ?_
              · unfold maxLen; omega
              rintro e w4 ⟨rfl, rfl⟩
              go_wp2_with fail
              go_roundw
              case rel => exact ⟨k + 1, x, by omega, by go_num, rfl, by omega, HS3.out, HB3.out⟩
              case measure => simp [intOf]; omega
          · have hrb : ((k : Int) == reset) = false := by simpa using hr
            by_cases h1 : x.size = 1
            · obtain ⟨c, hc⟩ := one_byte h1
              have hidx : ((1 : Int) == 1) = true := rfl
              obtain rfl : x = ⟨#[c]⟩ := hc
              go_wp2_with fail
              refine (put_any _ _ c _ HS.out).mono ?_
              rintro e w3 ⟨rfl, h3, g3⟩
              have H3 := Lib.hid h3
              have G3 := Lib.hid g3
              clear h3 g3
              go_wp2_with fail
              have HS3 : Hid (IsSum w3 w.heap.size (crc (A ++ (⟨#[c]⟩ : ByteArray)).data.toList)) := Lib.hid (by have h := H3.out; rw [crc_more] at h; simpa using h)
              have HB3 : Hid (Below w.heap.size w w3) := Lib.hid (HB.out.grown G3.out HB.out.size (fun k hk => by cases hk; exact Nat.le_refl _))
              refine (value_any _ _ _ HS3.out).mono ?_
              rintro e w4 ⟨rfl, rfl⟩
              go_wp2_with fail
              refine (refOf_any (A ++ (⟨#[c]⟩ : ByteArray)) _ ?_).mono ?_
              · simp only [ByteArray.size_append]; unfold maxLen; omega
              rintro e w4 ⟨rfl, rfl⟩
              go_wp2_with fail
              go_roundw
              case rel => exact ⟨k + 1, A ++ (⟨#[c]⟩ : ByteArray), by omega, by go_num, rfl, by simp only [ByteArray.size_append]; omega, HS3.out, HB3.out⟩
              case measure => simp [intOf]; omega
            · have h1b : ((x.size : Int) == 1) = false := by simp; omega
              go_wp2_with fail
              refine (text_any _ _ x _ HS.out hxm).mono ?_
              rintro e w3 ⟨rfl, h3, g3⟩
              have H3 := Lib.hid h3
              have G3 := Lib.hid g3
              clear h3 g3
              go_wp2_with fail
              have HS3 : Hid (IsSum w3 w.heap.size (crc (A ++ x).data.toList)) := Lib.hid (by have h := H3.out; rw [crc_more] at h; simpa using h)
              have HB3 : Hid (Below w.heap.size w w3) := Lib.hid (HB.out.grown G3.out HB.out.size (fun k hk => by cases hk; exact Nat.le_refl _))
              refine (value_any _ _ _ HS3.out).mono ?_
              rintro e w4 ⟨rfl, rfl⟩
              go_wp2_with fail
              refine (refOf_any (A ++ x) _ ?_).mono ?_
              · simp only [ByteArray.size_append]; unfold maxLen; omega
              rintro e w4 ⟨rfl, rfl⟩
              go_wp2_with fail
              go_roundw
              case rel => exact ⟨k + 1, A ++ x, by omega, by go_num, rfl, by simp only [ByteArray.size_append]; omega, HS3.out, HB3.out⟩
              case measure => simp [intOf]; omega
      · obtain rfl : k = len := by omega
        go_wp2_with fail
        refine (value_any _ _ _ HS.out).mono ?_
        rintro e w2 ⟨rfl, rfl⟩
        go_wp2_with fail
        refine (refOf_any _ _ (by unfold maxLen; omega)).mono ?_
        rintro e w2 ⟨rfl, rfl⟩
        go_wp2_with fail
        refine (nine_any _).mono ?_
        rintro e w2 ⟨rfl, hb2⟩
        have H2 := Lib.hid hb2
        clear hb2
        go_wp2_with fail
        go_ret
        exact ⟨rfl, HB.out.trans (H2.out.mono HB.out.size)⟩
end Go.Proofs.Ythkgkhpfahippaa
