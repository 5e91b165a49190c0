/-
  LAYER 2's Sum, with its table told: Text, Reset, Value; for objects that hold one.
-/
import Derived.Test.YtnachbjhhpnadaaGreatDoorCrcLaw
import Derived.Test.YtnachbjhhpnadaaGreatDoorFoot
namespace Go.Proofs.YtnachbjhhpnadaaGreatDoor
open Go.RowKit CrcM
set_option linter.unusedVariables false
/-- Block b is a Sum whose number is X; its table lies at tp. -/
def SumT (w : World) (b : Nat) (X : BitVec 32) : Option Nat → Prop
  | none => w.heap[b]? = some (.cells #[.pointer none, .int .u32 (X.toNat : Int)] 306 (0, 0))
  | some t => w.heap[b]? = some (.cells #[.pointer (some ⟨t, 0, none⟩), .int .u32 (X.toNat : Int)] 306 (0, 0)) ∧ IsTable w t ∧ t ≠ b
theorem SumT.lt {w : World} {b : Nat} {X : BitVec 32} {tp : Option Nat} (h : SumT w b X tp) : b < w.heap.size ∧ ∀ t, tp = some t → t < w.heap.size ∧ t ≠ b := by
  cases tp with
  | none => exact ⟨(Array.getElem?_eq_some_iff.1 (show _ = _ from h)).1, fun t e => by cases e⟩
  | some t => exact ⟨(Array.getElem?_eq_some_iff.1 h.1).1, fun u e => by cases e; exact ⟨h.2.1.lt, h.2.2⟩⟩
theorem SumT.is {w : World} {b : Nat} {X : BitVec 32} {tp : Option Nat} (h : SumT w b X tp) : IsSum w b X := by
  cases tp with
  | none => exact ⟨_, h, Or.inl rfl⟩
  | some t => exact ⟨_, h.1, Or.inr ⟨t, rfl, h.2.1, h.2.2, h.2.1.lt⟩⟩
theorem SumT.other {w w' : World} {b : Nat} {X : BitVec 32} {tp : Option Nat} (h : SumT w b X tp) {S : Nat → Prop} (ht : Touch S w w') (h1 : ¬ S b) (h2 : ∀ t, tp = some t → ¬ S t) : SumT w' b X tp := by
  have hl := h.lt
  cases tp with
  | none => exact (ht.block b hl.1 h1).trans h
  | some t => exact ⟨(ht.block b hl.1 h1).trans h.1, h.2.1.other (ht.block t (hl.2 t rfl).1 (h2 t rfl)), h.2.2⟩
theorem SumT.drew {w : World} {b : Nat} {X : BitVec 32} {tp : Option Nat} (h : SumT w b X tp) : SumT w.drew b X tp := by
  cases tp <;> exact h
theorem touch_grown {w w' : World} {b : Nat} (h : w.grownBy w' (some b)) : Touch (· = b) w w' := ⟨h.os, h.tape, h.output, h.size, fun k hk hn => h.block k hk (fun e => hn (Option.some.inj e))⟩
set_option maxHeartbeats 400000 in
theorem newT_any (w : World) :
    Calls Tryz.prog 207 #[] w fun e w' => e = .returned (.pointer (some ⟨w.heap.size, 0, none⟩)) ∧ SumT w' w.heap.size 0#32 none ∧ Below w.heap.size w w' := by
  go_enter Tryz.func207, Tryz.ntmps207
  go_wp2_with fail
  go_ret
  exact ⟨rfl, heap_alloc_new _ _, (Below.refl _ _).alloc (Nat.le_refl _) _⟩
theorem SumT.put {w : World} {b t : Nat} {X Y : BitVec 32} (hb : w.heap[b]? = some (.cells #[.pointer (some ⟨t, 0, none⟩), .int .u32 (X.toNat : Int)] 306 (0, 0))) (hT : IsTable w t) (hne : t ≠ b) :
    SumT (w.setCell ⟨b, 1, none⟩ (.int .u32 (Y.toNat : Int))) b Y (some t) :=
  ⟨heap_setCell_same _ _ 1 _ _ _ hb, hT.other (heap_setCell_other _ _ _ _ (by simpa using hne)), hne⟩
set_option maxRecDepth 100000 in
set_option maxHeartbeats 400000 in
theorem textT_any (b : Nat) (X : BitVec 32) (tp : Option Nat) (s : ByteArray) (w : World) (hS : SumT w b X tp) (hs : s.size ≤ maxLen) :
    Calls Tryz.prog 299 #[.pointer (some ⟨b, 0, none⟩), .string s] w fun e w' => e = .returned (.tuple #[]) ∧ (∃ tp', SumT w' b (ng (run (ng X) s.data.toList)) tp' ∧ (tp' = tp ∨ ∃ t, tp' = some t ∧ w.heap.size ≤ t)) ∧ Touch (· = b) w w' := by
  obtain ⟨hc1, hf0, hf1⟩ := hS.is.cells
  cases tp with
  | none =>
    have hb : w.heap[b]? = some (.cells #[.pointer none, .int .u32 (X.toNat : Int)] 306 (0, 0)) := hS
    have hc0 : w.cell? ⟨b, 0, none⟩ = some (.pointer none) := by rw [cell_of_row _ _ _ _ _ _ hb]; rfl
    have HB := Lib.hid hb
    clear hb hS
    go_enter Tryz.func299, Tryz.ntmps299
    go_wp2_with fail
    refine (table_any _).mono ?_
    rintro e w1 ⟨rfl, hB⟩
    have hg : (w1.alloc (.cells Tryz.zeroCells193 193)).heap[w1.heap.size]? = some (.cells Tryz.zeroCells193 193 (0, 0)) := heap_alloc_new _ _
    obtain ⟨t1, t2, t3, t4, t5, t6, t7, t8, t9, t10⟩ := tabled HB.out hB
    have T1 := Lib.hid t1
    have T2 := Lib.hid t2
    have T3 := Lib.hid t3
    have T4 := Lib.hid t4
    have HSZ := Lib.hid hB.size
    have T2D := Lib.hid (t2.other (w' := ((Boxed w1).setCell ⟨b, 0, none⟩ (.pointer (some ⟨w1.heap.size, 0, none⟩))).drew) rfl)
    have hc0' : ((Boxed w1).setCell ⟨b, 0, none⟩ (.pointer (some ⟨w1.heap.size, 0, none⟩))).cell? ⟨b, 0, none⟩ = some (.pointer (some ⟨w1.heap.size, 0, none⟩)) := by rw [cell_of_row _ _ _ _ _ _ t1]; rfl
    clear t1 t2 t3 t4 hB
    go_wp2_with (refine wpList_store_row rfl 193 _ _ rfl w1.heap.size tabArr rfl rfl 193 Tryz.zeroCells193 hg info51 (zero51.trans tabArr_size.symm) tabArr_cells ?_; change wpList _ _ _ _ _ (Boxed w1))
    go_region_with (first | (go_at_call 140; refine (further_any w1.heap.size X s _ T2D.out hs).mono ?_; rintro e w' ⟨rfl, rfl⟩))
    all_goals go_wp2_with fail
    all_goals go_end0
    all_goals exact ⟨rfl, ⟨_, (SumT.put T1.out T2.out T3.out).drew, Or.inr ⟨_, rfl, HSZ.out⟩⟩, touch_grown (grownBy_drew (grownBy_trans T4.out (grownBy_setCell _ ⟨b, 1, none⟩ _)))⟩
  | some t =>
    obtain ⟨hb, hT, hne⟩ := hS
    have hc0 : w.cell? ⟨b, 0, none⟩ = some (.pointer (some ⟨t, 0, none⟩)) := by rw [cell_of_row _ _ _ _ _ _ hb]; rfl
    have HB := Lib.hid hb
    have HT := Lib.hid hT
    have HN := Lib.hid hne
    have HTD := Lib.hid (hT.other (w' := w.drew) rfl)
    clear hb hT hne
    go_enter Tryz.func299, Tryz.ntmps299
    go_wp2_with fail
    go_region_with (first | (go_at_call 140; refine (further_any t X s _ HTD.out hs).mono ?_; rintro e w' ⟨rfl, rfl⟩))
    all_goals go_wp2_with fail
    all_goals go_end0
    all_goals exact ⟨rfl, ⟨_, (SumT.put HB.out HT.out HN.out).drew, Or.inl rfl⟩, touch_grown (grownBy_drew (grownBy_setCell _ ⟨b, 1, none⟩ _))⟩
set_option maxHeartbeats 400000 in
theorem resetT_any (b : Nat) (X : BitVec 32) (tp : Option Nat) (w : World) (hS : SumT w b X tp) :
    Calls Tryz.prog 289 #[.pointer (some ⟨b, 0, none⟩)] w fun e w' => e = .returned (.tuple #[]) ∧ SumT w' b 0#32 tp ∧ Touch (· = b) w w' := by
  obtain ⟨hc1, hf0, hf1⟩ := hS.is.cells
  have HS := Lib.hid hS
  clear hS
  go_enter Tryz.func289, Tryz.ntmps289
  go_wp2_with fail
  go_end0
  refine ⟨rfl, ?_, touch_grown (grownBy_setCell _ _ _)⟩
  have h := HS.out
  cases tp with
  | none =>
    have hb : w.heap[b]? = some (.cells #[.pointer none, .int .u32 (X.toNat : Int)] 306 (0, 0)) := h
    exact heap_setCell_same _ _ 1 _ _ _ hb
  | some t => exact ⟨heap_setCell_same _ _ 1 _ _ _ h.1, h.2.1.other (heap_setCell_other _ _ _ _ (by simpa using h.2.2)), h.2.2⟩
end Go.Proofs.YtnachbjhhpnadaaGreatDoor
