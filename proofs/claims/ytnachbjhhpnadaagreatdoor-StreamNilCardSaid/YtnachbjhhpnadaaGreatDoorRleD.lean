/-
  THE WALKS OF LAYER 3 (package rle): a piece as bytes.
-/
import Derived.Test.YtnachbjhhpnadaaGreatDoorRleC
namespace Go.Proofs.YtnachbjhhpnadaaGreatDoor
open Go.RowKit RleM
set_option linter.unusedVariables false
/-- The first k of five bytes are c. -/
def five5 (c : UInt8) (k : Nat) (x : UInt8) : List UInt8 := List.replicate k c ++ (List.replicate (4 - k) 0 ++ [x])
theorem five5_length (c : UInt8) (k : Nat) (x : UInt8) (h : k ≤ 4) : (five5 c k x).length = 5 := by simp [five5]; omega
theorem five5_set (c : UInt8) (k : Nat) (h : k < 4) : ((five5 c k 0).map u8v).toArray.setIfInBounds k (.int .u8 (c.toNat : Int)) = ((five5 c (k + 1) 0).map u8v).toArray := by
  rcases (by omega : k = 0 ∨ k = 1 ∨ k = 2 ∨ k = 3) with rfl | rfl | rfl | rfl <;> simp [five5, u8v]
theorem five5_last (c : UInt8) (y : UInt8) : ((five5 c 4 0).map u8v).toArray.setIfInBounds 4 (.int .u8 (y.toNat : Int)) = ((five5 c 4 y).map u8v).toArray := by
  simp [five5, u8v]
/-- The five bytes of a piece. -/
def told5 (p : Pc) : List UInt8 := if p.2 < 4 then five5 p.1 p.2 0 else five5 p.1 4 (UInt8.ofNat (p.2 - 4))
theorem told5_length (p : Pc) : (told5 p).length = 5 := by
  unfold told5; split <;> exact five5_length _ _ _ (by omega)
theorem told5_take (p : Pc) : (told5 p).take (sz p.2) = packP p := by
  unfold told5 packP sz
  split
  · rw [five5, List.take_left' (by simp)]
  · simp [five5]
theorem zero5 (c : UInt8) : (#[.int .u8 0, .int .u8 0, .int .u8 0, .int .u8 0, .int .u8 0] : Array Value) = ((five5 c 0 0).map u8v).toArray := by simp [five5, u8v]
/-- WHAT THE LOOP OF packed KNOWS. -/
structure Pk (w : World) (c : UInt8) (n : Nat) (l : List UInt8) (wr : World) : Prop where
  b0 : wr.heap[w.heap.size]? = some (.cells #[.int .u8 (c.toNat : Int), .int .i64 (n : Int)] 116 (0, 0))
  b1 : wr.heap[w.heap.size + 1]? = some (.cells ((five5 c 0 0).map u8v).toArray 344 (0, 0))
  b2 : wr.heap[w.heap.size + 1 + 1]? = some (.cells (l.map u8v).toArray 344 (0, 0))
  below : Below w.heap.size w wr
theorem Pk.set {w wr : World} {c : UInt8} {n : Nat} {l l2 : List UInt8} (h : Pk w c n l wr) (k : Nat) (v : Value) (e : (l.map u8v).toArray.setIfInBounds k v = (l2.map u8v).toArray) : Pk w c n l2 (wr.setCell ⟨w.heap.size + 1 + 1, k, none⟩ v) :=
  ⟨(heap_setCell_other wr ⟨w.heap.size + 1 + 1, k, none⟩ _ v (by show w.heap.size ≠ w.heap.size + 1 + 1; omega)).trans h.b0,
   (heap_setCell_other wr ⟨w.heap.size + 1 + 1, k, none⟩ _ v (by show w.heap.size + 1 ≠ w.heap.size + 1 + 1; omega)).trans h.b1,
   by rw [heap_setCell_same _ _ k _ _ _ h.b2, e], h.below.setCell (p := ⟨w.heap.size + 1 + 1, k, none⟩) (by show w.heap.size ≤ w.heap.size + 1 + 1; omega) _⟩
theorem Pk.start (w : World) (c : UInt8) (n : Nat) : Pk w c n (five5 c 0 0) (((w.alloc (.cells #[.int .u8 (c.toNat : Int), .int .i64 (n : Int)] 116)).alloc (.cells #[.int .u8 0, .int .u8 0, .int .u8 0, .int .u8 0, .int .u8 0] 344)).alloc (.cells #[.int .u8 0, .int .u8 0, .int .u8 0, .int .u8 0, .int .u8 0] 344)) := by
  rw [zero5 c]
  refine ⟨?_, ?_, ?_, (((Below.refl _ _).alloc (Nat.le_refl _) _).alloc (by simp) _).alloc (by simp; omega) _⟩
  · rw [Below.heap_alloc _ _ _ (by simp; omega), Below.heap_alloc _ _ _ (by simp)]; exact heap_alloc_new _ _
  · rw [Below.heap_alloc _ _ _ (by simp)]
    have := heap_alloc_new (w.alloc (.cells #[.int .u8 (c.toNat : Int), .int .i64 (n : Int)] 116)) (.cells ((five5 c 0 0).map u8v).toArray 344)
    simpa using this
  · have := heap_alloc_new ((w.alloc (.cells #[.int .u8 (c.toNat : Int), .int .i64 (n : Int)] 116)).alloc (.cells ((five5 c 0 0).map u8v).toArray 344)) (.cells ((five5 c 0 0).map u8v).toArray 344)
    simpa using this
theorem above1 {w z : World} (h : Below w.heap.size w z) (o : Nat) (v : Value) : Below w.heap.size w (z.setCell ⟨w.heap.size + 1, o, none⟩ v) := h.setCell (p := ⟨w.heap.size + 1, o, none⟩) (by show w.heap.size ≤ w.heap.size + 1; omega) _
theorem five_of {l : List UInt8} (h : l.length = 5) : ∃ x0 x1 x2 x3 x4, l = [x0, x1, x2, x3, x4] := by
  match l, h with
  | [x0, x1, x2, x3, x4], _ => exact ⟨_, _, _, _, _, rfl⟩
theorem five5_at (c : UInt8) (k : Nat) (h : k < 4) : ((five5 c k 0).map u8v).toArray[k]? = some (.int .u8 0) := by
  rcases (by omega : k = 0 ∨ k = 1 ∨ k = 2 ∨ k = 3) with rfl | rfl | rfl | rfl <;> simp [five5, u8v]
set_option maxRecDepth 100000 in
set_option maxHeartbeats 2000000 in
theorem packed_any (p : Pc) (w : World) (hT : Sizes w) (h1 : 1 ≤ p.2) (h2 : p.2 ≤ 255) :
    Calls Tryz.prog 300 #[pcv p] w fun e w' => e = .returned (.tuple #[.agg ((told5 p).map u8v).toArray, .int .i64 (sz p.2 : Int)]) ∧ Below w.heap.size w w' := by
  obtain ⟨c, n⟩ := p
  simp only at h1 h2
  have HT := Lib.hid hT
  clear hT
  obtain ⟨M, hM⟩ : ∃ M : Int, (if 4 < (n : Int) then (4 : Int) else (n : Int)) = M := ⟨_, rfl⟩
  have m1 : M ≤ 4 := by rw [← hM]; split <;> omega
  have m2 : Hid (M = if 4 < (n : Int) then (4 : Int) else (n : Int)) := Lib.hid hM.symm
  unfold pcv
  simp only
  go_enter Tryz.func300, Tryz.ntmps300
  go_wp2_with fail
  go_loopw [5, 9] (fun _ i wr => ∃ k : Nat, (k : Int) ≤ M ∧ i = .int .i64 k ∧ Hid (Pk w c n (five5 c k 0) wr)) (fun _ i _ => 4 - (intOf i).toNat)
  case atStart => exact ⟨0, by rw [← hM]; split <;> omega, rfl, Lib.hid (Pk.start w c n)⟩
  case round =>
    obtain ⟨k, hk, rfl, hP⟩ := hrel
    have a0 : wr.cell? ⟨w.heap.size, 0, none⟩ = some (.int .u8 (c.toNat : Int)) := by rw [cell_of_row _ _ _ _ _ _ hP.out.b0]; rfl
    have a1 : wr.cell? ⟨w.heap.size, 1, none⟩ = some (.int .i64 (n : Int)) := by rw [cell_of_row _ _ _ _ _ _ hP.out.b0]; rfl
    by_cases hlt : (k : Int) < M
    · have hk4 : k < 4 := by omega
      have a2 : wr.cell? ⟨w.heap.size + 1 + 1, k, none⟩ = some (.int .u8 0) := by rw [cell_of_row _ _ _ _ _ _ hP.out.b2]; exact five5_at c k hk4
      have a3 : wr.frozen? ⟨w.heap.size + 1 + 1, k, none⟩ = false := frozen_of_row _ _ _ _ _ hP.out.b2
      go_wp2_with fail
      go_roundw
      case rel => exact ⟨k + 1, by omega, by go_num, Lib.hid (hP.out.set k _ (five5_set c k hk4))⟩
      case measure => simp [intOf]; omega
    · by_cases h4 : (4 : Int) ≤ n
      · have hkM : k = 4 := by
          have := m2.out
          split at this <;> omega
        subst hkM
        have a2 : wr.cell? ⟨w.heap.size + 1 + 1, 4, none⟩ = some (.int .u8 0) := by rw [cell_of_row _ _ _ _ _ _ hP.out.b2]; simp [five5, u8v]
        have a3 : wr.frozen? ⟨w.heap.size + 1 + 1, 4, none⟩ = false := frozen_of_row _ _ _ _ _ hP.out.b2
        have hd : decide ((4 : Int) < M) = false := by simp only [decide_eq_false_iff_not]; omega
        go_wp2_with fail
        have hP2 : Pk w c n (told5 (c, n)) (wr.setCell ⟨w.heap.size + 1 + 1, 4, none⟩ (.int .u8 ((n : Int) - 4))) := by
          refine hP.out.set 4 _ ?_
          unfold told5
          rw [if_neg (by simp; omega)]
          have e : ((n : Int) - 4) = ((UInt8.ofNat (n - 4)).toNat : Int) := by rw [UInt8.toNat_ofNat']; omega
          rw [e]
          exact five5_last c _
        obtain ⟨x0, x1, x2, x3, x4, hx⟩ : ∃ x0 x1 x2 x3 x4, told5 (c, n) = [x0, x1, x2, x3, x4] := five_of (told5_length _)
        rw [hx] at hP2
        have HX := Lib.hid hx
        generalize wr.setCell ⟨w.heap.size + 1 + 1, 4, none⟩ (.int .u8 ((n : Int) - 4)) = wz at *
        have z0 : wz.cell? ⟨w.heap.size + 1 + 1, 0, none⟩ = some (.int .u8 (x0.toNat : Int)) := by rw [cell_of_row _ _ _ _ _ _ hP2.b2]; rfl
        have z1 : wz.cell? ⟨w.heap.size + 1 + 1, 1, none⟩ = some (.int .u8 (x1.toNat : Int)) := by rw [cell_of_row _ _ _ _ _ _ hP2.b2]; rfl
        have z2 : wz.cell? ⟨w.heap.size + 1 + 1, 2, none⟩ = some (.int .u8 (x2.toNat : Int)) := by rw [cell_of_row _ _ _ _ _ _ hP2.b2]; rfl
        have z3 : wz.cell? ⟨w.heap.size + 1 + 1, 3, none⟩ = some (.int .u8 (x3.toNat : Int)) := by rw [cell_of_row _ _ _ _ _ _ hP2.b2]; rfl
        have z4 : wz.cell? ⟨w.heap.size + 1 + 1, 4, none⟩ = some (.int .u8 (x4.toNat : Int)) := by rw [cell_of_row _ _ _ _ _ _ hP2.b2]; rfl
        have y0 : wz.cell? ⟨w.heap.size + 1, 0, none⟩ = some (.int .u8 0) := by rw [cell_of_row _ _ _ _ _ _ hP2.b1]; rfl
        have y1 : wz.cell? ⟨w.heap.size + 1, 1, none⟩ = some (.int .u8 0) := by rw [cell_of_row _ _ _ _ _ _ hP2.b1]; rfl
        have y2 : wz.cell? ⟨w.heap.size + 1, 2, none⟩ = some (.int .u8 0) := by rw [cell_of_row _ _ _ _ _ _ hP2.b1]; rfl
        have y3 : wz.cell? ⟨w.heap.size + 1, 3, none⟩ = some (.int .u8 0) := by rw [cell_of_row _ _ _ _ _ _ hP2.b1]; rfl
        have y4 : wz.cell? ⟨w.heap.size + 1, 4, none⟩ = some (.int .u8 0) := by rw [cell_of_row _ _ _ _ _ _ hP2.b1]; rfl
        have yf : ∀ o, wz.frozen? ⟨w.heap.size + 1, o, none⟩ = false := fun o => frozen_of_row _ _ _ _ _ hP2.b1
        have n1 : wz.cell? ⟨w.heap.size, 1, none⟩ = some (.int .i64 (n : Int)) := by rw [cell_of_row _ _ _ _ _ _ hP2.b0]; rfl
        have HTZ := Lib.hid (HT.out.below hP2.below HT.out.lt)
        have HP2 := Lib.hid hP2
        clear hP2 hx
        go_region_with (first | (go_at_call 308; refine (size_any n _ (by exact HTZ.out.same rfl) (by omega)).mono ?_; rintro e w' ⟨rfl, rfl⟩))
        all_goals
          go_wp2_with fail
          refine bodyPost_ret (v := .tuple #[.agg #[.int .u8 (x0.toNat : Int), .int .u8 (x1.toNat : Int), .int .u8 (x2.toNat : Int), .int .u8 (x3.toNat : Int), .int .u8 (x4.toNat : Int)], .int .i64 (sz n : Int)]) ?_ rfl ?_
          · simp [results, Tryz.results300, go_sem, y0, y1, y2, y3, y4]
          · exact ⟨by rw [HX.out]; rfl, (above1 (above1 (above1 (above1 (above1 HP2.out.below _ _) _ _) _ _) _ _) _ _).drew⟩
      · have hkM : k = n := by
          have := m2.out
          split at this <;> omega
        subst hkM
        have hd : decide ((k : Int) < M) = false := by simp only [decide_eq_false_iff_not]; omega
        go_wp2_with fail
        have hP2 : Pk w c k (told5 (c, k)) wr := by
          unfold told5
          rw [if_pos (by simp; omega)]
          exact hP.out
        obtain ⟨x0, x1, x2, x3, x4, hx⟩ : ∃ x0 x1 x2 x3 x4, told5 (c, k) = [x0, x1, x2, x3, x4] := five_of (told5_length _)
        rw [hx] at hP2
        have HX := Lib.hid hx
        generalize wr = wz at *
        have z0 : wz.cell? ⟨w.heap.size + 1 + 1, 0, none⟩ = some (.int .u8 (x0.toNat : Int)) := by rw [cell_of_row _ _ _ _ _ _ hP2.b2]; rfl
        have z1 : wz.cell? ⟨w.heap.size + 1 + 1, 1, none⟩ = some (.int .u8 (x1.toNat : Int)) := by rw [cell_of_row _ _ _ _ _ _ hP2.b2]; rfl
        have z2 : wz.cell? ⟨w.heap.size + 1 + 1, 2, none⟩ = some (.int .u8 (x2.toNat : Int)) := by rw [cell_of_row _ _ _ _ _ _ hP2.b2]; rfl
        have z3 : wz.cell? ⟨w.heap.size + 1 + 1, 3, none⟩ = some (.int .u8 (x3.toNat : Int)) := by rw [cell_of_row _ _ _ _ _ _ hP2.b2]; rfl
        have z4 : wz.cell? ⟨w.heap.size + 1 + 1, 4, none⟩ = some (.int .u8 (x4.toNat : Int)) := by rw [cell_of_row _ _ _ _ _ _ hP2.b2]; rfl
        have y0 : wz.cell? ⟨w.heap.size + 1, 0, none⟩ = some (.int .u8 0) := by rw [cell_of_row _ _ _ _ _ _ hP2.b1]; rfl
        have y1 : wz.cell? ⟨w.heap.size + 1, 1, none⟩ = some (.int .u8 0) := by rw [cell_of_row _ _ _ _ _ _ hP2.b1]; rfl
        have y2 : wz.cell? ⟨w.heap.size + 1, 2, none⟩ = some (.int .u8 0) := by rw [cell_of_row _ _ _ _ _ _ hP2.b1]; rfl
        have y3 : wz.cell? ⟨w.heap.size + 1, 3, none⟩ = some (.int .u8 0) := by rw [cell_of_row _ _ _ _ _ _ hP2.b1]; rfl
        have y4 : wz.cell? ⟨w.heap.size + 1, 4, none⟩ = some (.int .u8 0) := by rw [cell_of_row _ _ _ _ _ _ hP2.b1]; rfl
        have yf : ∀ o, wz.frozen? ⟨w.heap.size + 1, o, none⟩ = false := fun o => frozen_of_row _ _ _ _ _ hP2.b1
        have n1 : wz.cell? ⟨w.heap.size, 1, none⟩ = some (.int .i64 (k : Int)) := by rw [cell_of_row _ _ _ _ _ _ hP2.b0]; rfl
        have HTZ := Lib.hid (HT.out.below hP2.below HT.out.lt)
        have HP2 := Lib.hid hP2
        clear hP2 hx
        go_region_with (first | (go_at_call 308; refine (size_any k _ (by exact HTZ.out.same rfl) (by omega)).mono ?_; rintro e w' ⟨rfl, rfl⟩))
        all_goals
          go_wp2_with fail
          refine bodyPost_ret (v := .tuple #[.agg #[.int .u8 (x0.toNat : Int), .int .u8 (x1.toNat : Int), .int .u8 (x2.toNat : Int), .int .u8 (x3.toNat : Int), .int .u8 (x4.toNat : Int)], .int .i64 (sz k : Int)]) ?_ rfl ?_
          · simp [results, Tryz.results300, go_sem, y0, y1, y2, y3, y4]
          · exact ⟨by rw [HX.out]; rfl, (above1 (above1 (above1 (above1 (above1 HP2.out.below _ _) _ _) _ _) _ _) _ _).drew⟩
end Go.Proofs.YtnachbjhhpnadaaGreatDoor
