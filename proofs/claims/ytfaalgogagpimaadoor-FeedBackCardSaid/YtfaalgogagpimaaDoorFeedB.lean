/-
  THE WALKS OF LAYER 4's CODE (package feed): a packer's row; the unpacker.
-/
import Derived.Test.YtfaalgogagpimaaDoorFeed
namespace Go.Proofs.YtfaalgogagpimaaDoor
open Go.RowKit RleM
set_option linter.unusedVariables false
set_option maxHeartbeats 1000000 in
theorem prow_nil (w : World) : Calls Tryd.prog 28 #[.pointer none] w fun e w' => e = .returned (.agg #[.int .u8 0, .int .i64 0]) ∧ Below w.heap.size w w' := by
  go_enter Tryd.func28, Tryd.ntmps28
  go_wp2_with fail
  exact bodyPost_ret (v := .agg #[.int .u8 0, .int .i64 0]) (by simp [results, Tryd.results28, go_sem]) rfl ⟨rfl, (Below.refl _ _).alloc (Nat.le_refl _) _⟩
set_option maxHeartbeats 1000000 in
theorem prow_any (b : Nat) (c : UInt8) (n : Nat) (w : World) (h : IsPacker w b c n) : Calls Tryd.prog 28 #[.pointer (some ⟨b, 0, none⟩)] w fun e w' => e = .returned (.agg #[.int .u8 (c.toNat : Int), .int .i64 (n : Int)]) ∧ Below w.heap.size w w' := by
  obtain ⟨c0, c1, f0, f1⟩ := h.cells
  have hlt := h.lt
  clear h
  go_enter Tryd.func28, Tryd.ntmps28
  go_wp2_with fail
  exact bodyPost_ret (v := .agg #[.int .u8 (c.toNat : Int), .int .i64 (n : Int)]) (by simp [results, Tryd.results28, go_sem]) rfl ⟨rfl, (Below.refl _ _).alloc (Nat.le_refl _) _⟩
/-- Block b is an unpacker: the last byte, and how many like it. -/
def IsUnp (w : World) (b : Nat) (a : UInt8) (n : Nat) : Prop := w.heap[b]? = some (.cells #[.int .u8 (a.toNat : Int), .int .i64 (n : Int)] 77 (0, 0))
theorem IsUnp.lt {w : World} {b : Nat} {c : UInt8} {n : Nat} (h : IsUnp w b c n) : b < w.heap.size := (Array.getElem?_eq_some_iff.1 h).1
theorem IsUnp.other {w w' : World} {b : Nat} {c : UInt8} {n : Nat} {S : Nat → Prop} (h : IsUnp w b c n) (ht : Touch S w w') (hS : ¬ S b) : IsUnp w' b c n := (ht.block b h.lt hS).trans h
theorem IsUnp.cells {w : World} {b : Nat} {c : UInt8} {n : Nat} (h : IsUnp w b c n) : w.cell? ⟨b, 0, none⟩ = some (.int .u8 (c.toNat : Int)) ∧ w.cell? ⟨b, 1, none⟩ = some (.int .i64 (n : Int)) ∧ w.frozen? ⟨b, 0, none⟩ = false ∧ w.frozen? ⟨b, 1, none⟩ = false := by
  refine ⟨?_, ?_, frozen_of_row _ _ _ _ _ h, frozen_of_row _ _ _ _ _ h⟩ <;> (rw [cell_of_row _ _ _ _ _ _ h]; rfl)
theorem IsUnp.set0 {w : World} {b : Nat} {c d : UInt8} {n : Nat} (h : IsUnp w b c n) : IsUnp (w.setCell ⟨b, 0, none⟩ (.int .u8 (d.toNat : Int))) b d n := by
  unfold IsUnp
  rw [heap_setCell_same _ _ 0 _ _ _ h]; rfl
theorem IsUnp.set1 {w : World} {b : Nat} {c : UInt8} {n m : Nat} (h : IsUnp w b c n) (M : Int) (hM : M = (m : Int)) : IsUnp (w.setCell ⟨b, 1, none⟩ (.int .i64 M)) b c m := by
  subst hM
  unfold IsUnp
  rw [heap_setCell_same _ _ 1 _ _ _ h]; rfl
set_option maxHeartbeats 400000 in
theorem newUnp_any (w : World) : Calls Tryd.prog 30 #[] w fun e w' => e = .returned (.pointer (some ⟨w.heap.size, 0, none⟩)) ∧ IsUnp w' w.heap.size 0 0 ∧ Below w.heap.size w w' := by
  go_enter Tryd.func30, Tryd.ntmps30
  go_wp2_with fail
  go_ret
  exact ⟨rfl, heap_alloc_new _ _, (Below.refl _ _).alloc (Nat.le_refl _) _⟩
set_option maxHeartbeats 400000 in
theorem wants_nil (w : World) : Calls Tryd.prog 32 #[.pointer none] w fun e w' => e = .returned (.bool false) ∧ w = w' := by
  go_enter Tryd.func32, Tryd.ntmps32
  go_wp2_with fail
  go_ret
  exact ⟨rfl, rfl⟩
set_option maxHeartbeats 400000 in
theorem wants_any (b : Nat) (a : UInt8) (n : Nat) (B : Bool) (hB : ((n : Int) == 4) = B) (w : World) (h : IsUnp w b a n) : Calls Tryd.prog 32 #[.pointer (some ⟨b, 0, none⟩)] w fun e w' => e = .returned (.bool B) ∧ w = w' := by
  obtain ⟨c0, c1, f0, f1⟩ := h.cells
  clear h
  go_enter Tryd.func32, Tryd.ntmps32
  go_wp2_with fail
  go_ret
  exact ⟨rfl, rfl⟩
set_option maxHeartbeats 400000 in
theorem uend_nil (w : World) : Calls Tryd.prog 35 #[.pointer none] w fun e w' => e = .returned (.int .i64 7) ∧ w = w' := by
  go_enter Tryd.func35, Tryd.ntmps35
  go_wp2_with fail
  go_ret
  exact ⟨rfl, rfl⟩
set_option maxHeartbeats 400000 in
theorem uend_bad (b : Nat) (a : UInt8) (w : World) (h : IsUnp w b a 4) : Calls Tryd.prog 35 #[.pointer (some ⟨b, 0, none⟩)] w fun e w' => e = .returned (.int .i64 24) ∧ w = w' := by
  have H := Lib.hid h
  clear h
  go_enter Tryd.func35, Tryd.ntmps35
  go_wp2_with fail
  refine (wants_any b a 4 true rfl w H.out).mono ?_
  rintro e w' ⟨rfl, rfl⟩
  go_wp2_with fail
  go_ret
  exact ⟨rfl, rfl⟩
set_option maxHeartbeats 400000 in
theorem uend_any (b : Nat) (a : UInt8) (n : Nat) (w : World) (h : IsUnp w b a n) (hn : n ≠ 4) : Calls Tryd.prog 35 #[.pointer (some ⟨b, 0, none⟩)] w fun e w' => e = .returned (.int .i64 0) ∧ IsUnp w' b a 0 ∧ Touch (· = b) w w' := by
  obtain ⟨c0, c1, f0, f1⟩ := h.cells
  have H := Lib.hid h
  clear h
  go_enter Tryd.func35, Tryd.ntmps35
  go_wp2_with fail
  refine (wants_any b a n false (by rw [beq_eq_false_iff_ne]; omega) w H.out).mono ?_
  rintro e w' ⟨rfl, rfl⟩
  go_wp2_with fail
  go_ret
  exact ⟨rfl, H.out.set1 0 rfl, Touch.setCell (S := (· = b)) (Touch.refl _ _) (p := ⟨b, 1, none⟩) (Or.inl rfl) _⟩
set_option maxHeartbeats 400000 in
theorem uput_nil (x : Value) (w : World) : Calls Tryd.prog 33 #[.pointer none, x] w fun e w' => e = .returned (.tuple #[.string ⟨#[]⟩, .int .i64 7]) ∧ w = w' := by
  go_enter Tryd.func33, Tryd.ntmps33
  go_wp2_with fail
  go_ret2
  exact ⟨rfl, rfl⟩
set_option maxHeartbeats 400000 in
theorem count_bad (b : Nat) (x : UInt8) (w : World) (hx : (251 : Int) < (x.toNat : Int)) : Calls Tryd.prog 52 #[.pointer (some ⟨b, 0, none⟩), .int .u8 (x.toNat : Int)] w fun e w' => e = .returned (.tuple #[.string ⟨#[]⟩, .int .i64 25]) ∧ w = w' := by
  go_enter Tryd.func52, Tryd.ntmps52
  go_wp2_with fail
  go_ret2
  exact ⟨rfl, rfl⟩
set_option maxRecDepth 100000 in
set_option maxHeartbeats 1000000 in
theorem count_any (b : Nat) (a : UInt8) (n : Nat) (x : UInt8) (w : World) (h : IsUnp w b a n) (hx : ¬ (251 : Int) < (x.toNat : Int)) : Calls Tryd.prog 52 #[.pointer (some ⟨b, 0, none⟩), .int .u8 (x.toNat : Int)] w fun e w' =>
    e = .returned (.tuple #[.string ⟨(List.replicate x.toNat a).toArray⟩, .int .i64 0]) ∧ IsUnp w' b a 0 ∧ Touch (· = b) w w' := by
  obtain ⟨c0, c1, f0, f1⟩ := h.cells
  have hlt := h.lt
  have h1 := h.set1 (m := 0) 0 rfl
  have H1 := Lib.hid h1
  have HT1 := Lib.hid (Touch.setCell (S := (· = b)) (Touch.refl _ w) (p := ⟨b, 1, none⟩) (Or.inl rfl) (.int .i64 0))
  obtain ⟨d0, d1, g0, g1⟩ := h1.cells
  have hx2 := x.toNat_lt
  clear h h1
  have hcv : (convert 41 9 (.slice (some ⟨w.heap.size, 0, none⟩) 1 1)).run Tryd.prog ((w.setCell ⟨b, 1, none⟩ (.int .i64 0)).alloc (.cells #[.int .u8 (a.toNat : Int)] 5)) = .ok (.string ⟨#[a]⟩) ((w.setCell ⟨b, 1, none⟩ (.int .i64 0)).alloc (.cells #[.int .u8 (a.toNat : Int)] 5)) := by
    have h := one_conv (w.setCell ⟨b, 1, none⟩ (.int .i64 0)) a _ rfl
    have e : (w.setCell ⟨b, 1, none⟩ (.int .i64 0)).heap.size = w.heap.size := by simp [World.setCell]
    rwa [e] at h
  have hrep : Lib.repeatL [a] x.toNat = List.replicate x.toNat a := by
    have := Lib.repeatL_replicate a 1 x.toNat
    simpa using this
  have HREP := Lib.hid hrep
  clear hrep
  go_enter Tryd.func52, Tryd.ntmps52
  go_wp2_with fail
  refine (Tryd.strings_Repeat ⟨#[a]⟩ x.toNat _ (by omega) (by show 1 * x.toNat ≤ _; omega)).mono ?_
  rintro e w2 ⟨rfl, hb2⟩
  have H2 := Lib.hid ((H1.out.other ((Touch.refl (fun _ => False) _).alloc (.cells #[.int .u8 (a.toNat : Int)] 5)) (fun h => h)).other (Touch.ofBelow (S := fun _ => False) hb2) (fun h => h))
  have T2 := Lib.hid ((HT1.out.alloc (.cells #[.int .u8 (a.toNat : Int)] 5)).trans (Touch.ofBelow (S := fun _ => False) hb2) (fun _ h => h.elim))
  clear hb2
  go_wp2_with fail
  go_ret2
  exact ⟨by rw [← HREP.out]; rfl, H2.out, T2.out⟩
theorem one_conv_at (W : World) (x : UInt8) (n : Nat) (hn : W.heap.size = n) : (convert 41 9 (.slice (some ⟨n, 0, none⟩) 1 1)).run Tryd.prog (W.alloc (.cells #[.int .u8 (x.toNat : Int)] 5)) = .ok (.string ⟨#[x]⟩) (W.alloc (.cells #[.int .u8 (x.toNat : Int)] 5)) := by
  subst hn
  exact one_conv W x _ rfl
theorem size_two (w : World) (p q : Addr) (u v : Value) : ((w.setCell p u).setCell q v).heap.size = w.heap.size := by simp [World.setCell]
theorem size_three (w : World) (p q r : Addr) (u v x : Value) : (((w.setCell p u).setCell q v).setCell r x).heap.size = w.heap.size := by simp [World.setCell]
/-- What comes of a byte. -/
def uout (a : UInt8) (n : Nat) (x : UInt8) : List UInt8 × Nat := match ustep (a, n) x with
  | none => ([], 25)
  | some r => (r.2, 0)
def ust (a : UInt8) (n : Nat) (x : UInt8) : UInt8 × Nat := match ustep (a, n) x with
  | none => (a, n)
  | some r => r.1
set_option maxRecDepth 100000 in
set_option maxHeartbeats 1000000 in
theorem uput_any (b : Nat) (a : UInt8) (n : Nat) (x : UInt8) (w : World) (h : IsUnp w b a n) (hn : n ≤ 4) : Calls Tryd.prog 33 #[.pointer (some ⟨b, 0, none⟩), .int .u8 (x.toNat : Int)] w fun e w' =>
    e = .returned (.tuple #[.string ⟨(uout a n x).1.toArray⟩, .int .i64 ((uout a n x).2 : Int)]) ∧ IsUnp w' b (ust a n x).1 (ust a n x).2 ∧ Touch (· = b) w w' := by
  have H := Lib.hid h
  have hlt := h.lt
  by_cases h4 : n = 4
  · subst h4
    clear h
    by_cases hx : (251 : Int) < (x.toNat : Int)
    · have HU := Lib.hid (show ustep (a, 4) x = none by unfold ustep; simp; omega)
      have e1 := Lib.hid (show uout a 4 x = ([], 25) by unfold uout; rw [HU.out])
      have e2 := Lib.hid (show ust a 4 x = (a, 4) by unfold ust; rw [HU.out])
      go_enter Tryd.func33, Tryd.ntmps33
      go_wp2_with fail
      refine (wants_any b a 4 true rfl w H.out).mono ?_
      rintro e w' ⟨rfl, rfl⟩
      go_wp2_with fail
      refine (count_bad b x w hx).mono ?_
      rintro e w' ⟨rfl, rfl⟩
      go_wp2_with fail
      go_ret2
      rw [e1.out, e2.out]
      exact ⟨rfl, H.out, Touch.refl _ _⟩
    · have HU := Lib.hid (show ustep (a, 4) x = some ((a, 0), List.replicate x.toNat a) by
        unfold ustep
        rw [if_pos rfl, if_neg (by omega)])
      have e1 := Lib.hid (show uout a 4 x = (List.replicate x.toNat a, 0) by unfold uout; rw [HU.out])
      have e2 := Lib.hid (show ust a 4 x = (a, 0) by unfold ust; rw [HU.out])
      go_enter Tryd.func33, Tryd.ntmps33
      go_wp2_with fail
      refine (wants_any b a 4 true rfl w H.out).mono ?_
      rintro e w' ⟨rfl, rfl⟩
      go_wp2_with fail
      refine (count_any b a 4 x w H.out (by omega)).mono ?_
      rintro e w' ⟨rfl, hu, ht⟩
      have HU2 := Lib.hid hu
      have HT2 := Lib.hid ht
      clear hu ht
      go_wp2_with fail
      go_ret2
      rw [e1.out, e2.out]
      exact ⟨rfl, HU2.out, HT2.out⟩
  · obtain ⟨c0, c1, f0, f1⟩ := h.cells
    clear h
    have hlike := Lib.hid (show ustep (a, n) x = some ((x, if x = a then n + 1 else 1), [x]) by unfold ustep; rw [if_neg h4])
    have e1 := Lib.hid (show uout a n x = ([x], 0) by unfold uout; rw [hlike.out])
    have e2 := Lib.hid (show ust a n x = (x, if x = a then n + 1 else 1) by unfold ust; rw [hlike.out])
    have HW := Lib.hid (show ((n : Int) == 4) = false by rw [beq_eq_false_iff_ne]; omega)
    by_cases hx : x = a
    · subst hx
      have e3 := Lib.hid (show ust x n x = (x, n + 1) by rw [e2.out]; simp)
      have hne : ((x.toNat : Int) != (x.toNat : Int)) = false := by simp
      have HQ := Lib.hid (((H.out.set0 (d := x)).set1 (m := n + 1) ((n : Int) + 1) rfl))
      have HQT := Lib.hid (touch_two (Touch.refl (· = b) w) (.int .u8 (x.toNat : Int)) (.int .i64 ((n : Int) + 1)))
      have hcv := one_conv_at ((w.setCell ⟨b, 0, none⟩ (.int .u8 (x.toNat : Int))).setCell ⟨b, 1, none⟩ (.int .i64 ((n : Int) + 1))) x w.heap.size (size_two ..)
      go_enter Tryd.func33, Tryd.ntmps33
      go_wp2_with fail
      refine (wants_any b x n false HW.out w H.out).mono ?_
      rintro e w' ⟨rfl, rfl⟩
      go_wp2_with fail
      go_ret2
      rw [e1.out, e3.out]
      exact ⟨rfl, HQ.out.other ((Touch.refl (fun _ => False) _).alloc _) (fun h => h), HQT.out.alloc _⟩
    · have hne : ((x.toNat : Int) != (a.toNat : Int)) = true := by
        have h1 := byte_ne hx
        simp [bne, h1]
      have e3 := Lib.hid (show ust a n x = (x, 1) by rw [e2.out, if_neg hx])
      clear hx
      have HQ := Lib.hid ((((H.out.set1 (m := 0) 0 rfl).set0 (d := x)).set1 (m := 1) 1 rfl))
      have HQT := Lib.hid (show Touch (· = b) w (((w.setCell ⟨b, 1, none⟩ (.int .i64 0)).setCell ⟨b, 0, none⟩ (.int .u8 (x.toNat : Int))).setCell ⟨b, 1, none⟩ (.int .i64 1)) from
        touch_two (Touch.setCell (S := (· = b)) (Touch.refl _ w) (p := ⟨b, 1, none⟩) (Or.inl rfl) _) _ _)
      have hcv := one_conv_at (((w.setCell ⟨b, 1, none⟩ (.int .i64 0)).setCell ⟨b, 0, none⟩ (.int .u8 (x.toNat : Int))).setCell ⟨b, 1, none⟩ (.int .i64 1)) x w.heap.size (size_three ..)
      go_enter Tryd.func33, Tryd.ntmps33
      go_wp2_with fail
      refine (wants_any b a n false HW.out w H.out).mono ?_
      rintro e w' ⟨rfl, rfl⟩
      go_wp2_with fail
      go_ret2
      rw [e1.out, e3.out]
      exact ⟨rfl, HQ.out.other ((Touch.refl (fun _ => False) _).alloc _) (fun h => h), HQT.out.alloc _⟩
end Go.Proofs.YtfaalgogagpimaaDoor
