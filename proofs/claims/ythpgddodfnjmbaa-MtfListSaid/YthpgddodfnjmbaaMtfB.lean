/-
  THE WALKS OF LAYER 6's CODE (package mtf): New.
-/
import Derived.Test.YthpgddodfnjmbaaMtf
namespace Go.Proofs.Ythpgddodfnjmbaa
open Go.RowKit UsedM MtfM
set_option linter.unusedVariables false

theorem wpList_build_is {P : Program} {ops : Array Oper} {rest : List Oper} {o : Oper} {a : Act} {w : World} {Q : Exit → Act → World → Prop} (hg : o.guard = none) (t : TypeId) (ho : o.op = .build t #[]) (Z : Array Value)
    (hb : P.built t [] = some Z) (h : wpList P ops Q rest (a.put o.dst (.agg Z)) w) : wpList P ops Q (o :: rest) a w := by
  refine wpList_build hg t #[] ho ?_ ?_
  · simp [hb]
  · simpa [hb] using h
theorem built88 : Try.prog.built 88 [] = some (lcells []) := by kernel_rfl
theorem set_end {α : Type} (N n : Nat) (l : List α) (z v0 v : α) (hl : l.length = n) (h : n ≤ N) : (l ++ (List.replicate N z ++ [v0]).drop n).set N v = l ++ List.replicate (N - n) z ++ [v] := by
  subst hl
  rw [List.drop_append_of_le_length (by rw [List.length_replicate]; exact h), List.drop_replicate, ← List.append_assoc, List.set_append_right _ _ (by rw [List.length_append, List.length_replicate]; omega)]
  have : N - (l ++ List.replicate (N - l.length) z).length = 0 := by rw [List.length_append, List.length_replicate]; omega
  rw [this]
  rfl
theorem new_cells (s : ByteArray) (h : s.size ≤ 256) :
    ((lcells []).toList.take 0 ++ Lib.byteCells s.data.toList ++ (lcells []).toList.drop (0 + s.size)).toArray.setIfInBounds 256 (.int .i64 (s.size : Int)) = lcells s.data.toList := by
  have hz : (lcells []).toList = List.replicate 256 z8 ++ [Value.int .i64 0] := rfl
  have hl : s.data.toList.length = s.size := rfl
  have hb : Lib.byteCells s.data.toList = s.data.toList.map u8v := rfl
  have hbl : (s.data.toList.map u8v).length = s.size := by rw [List.length_map]; exact hl
  have he := set_end 256 s.size (s.data.toList.map u8v) z8 (Value.int .i64 0) (.int .i64 (s.size : Int)) hbl h
  apply Array.toList_inj.1
  rw [Array.toList_setIfInBounds, hz, hb, Nat.zero_add, List.take_zero, List.nil_append]
  unfold lcells
  rw [hl]
  exact he
set_option maxHeartbeats 1000000 in
theorem new_no (s : ByteArray) (w : World) (hs : s.size ≤ 9223372036854775807) (h : ¬ IsSyms s.data.toList) :
    Calls Try.prog 39 #[.string s] w fun e w' => e = .returned (.tuple #[.pointer none, .int .i64 1]) ∧ ∃ n, w' = w.drewN n := by
  go_enter Try.func39, Try.ntmps39
  go_wp2_with fail
  refine (is_no s w hs h).mono ?_
  rintro e w' ⟨rfl, n, rfl⟩
  go_wp2_with fail
  go_ret2
  exact ⟨rfl, n, rfl⟩
set_option maxRecDepth 100000 in
set_option maxHeartbeats 1000000 in
theorem new_yes (s : ByteArray) (w : World) (hs : s.size ≤ 256) (h : IsSyms s.data.toList) :
    Calls Try.prog 39 #[.string s] w fun e w' => e = .returned (.tuple #[.pointer (some ⟨w.heap.size, 0, none⟩), .int .i64 0]) ∧ IsList w' w.heap.size s.data.toList ∧ Below w.heap.size w w' := by
  have HC := Lib.hid (new_cells s hs)
  have hb := built88
  have hZs := lcells_size [] (by simp)
  generalize lcells [] = Z at *
  have hcp := fun (W : World) (ty : Nat) (hg : W.heap[w.heap.size]? = some (.cells Z 88 (0, 0))) => Lib.run_copy_row_string (P := Try.prog) W 75 9 ty 5 w.heap.size 0 256 256 s Z 88 Try.underlying75 (by kernel_rfl) hg hs (by rw [hZs]; omega)
  generalize hR : (Z.toList.take 0 ++ Lib.byteCells s.data.toList ++ Z.toList.drop (0 + s.size)).toArray = R at *
  have hRs : R.size = 257 := by
    have := congrArg Array.size HC.out
    rw [Array.size_setIfInBounds, lcells_size _ (by exact hs)] at this
    exact this
  have HCP := Lib.hid hcp
  have HY := Lib.hid h
  clear hcp hR h
  go_enter Try.func39, Try.ntmps39
  go_wp2_with fail
  refine (is_yes s w (by omega) HY.out).mono ?_
  rintro e w' ⟨rfl, n, rfl⟩
  have hg : ((w.drewN n).alloc (.cells Z 88)).heap[w.heap.size]? = some (.cells Z 88 (0, 0)) := heap_alloc_new (w.drewN n) _
  have hset := setRow_heap _ _ _ R _ _ hg
  have hbel : Below w.heap.size w (((w.drewN n).alloc (.cells Z 88)).setRow w.heap.size R) := below_setRow (((Below.refl w.heap.size w).trans (below_drewN w n)).alloc (by exact Nat.le_refl _) _) (Nat.le_refl _) R
  have hcp1 := fun ty => HCP.out ((w.drewN n).alloc (.cells Z 88)) ty hg
  have HCP1 := Lib.hid hcp1
  generalize hW1 : ((w.drewN n).alloc (.cells Z 88)).setRow w.heap.size R = W1 at *
  have d0 : W1.cell? ⟨w.heap.size, 256, none⟩ = some (R[256]'(by omega)) := by
    rw [cell_of_row _ _ _ _ _ _ hset, Array.getElem?_eq_getElem (by omega)]
  have d1 := frozen_of_row W1 w.heap.size 256 _ _ hset
  have hst := heap_setCell_same W1 w.heap.size 256 _ _ (.int .i64 (s.size : Int)) hset
  rw [HC.out] at hst
  have HST := Lib.hid hst
  have HB := Lib.hid hbel
  clear hg hset hbel hcp1 hst
  go_wp2_with (first | (refine wpList_build_is rfl 88 rfl Z hb ?_) | (refine wpList_copyRun rfl _ _ 75 9 rfl _ _ rfl rfl (HCP1.out _) ?_))
  go_ret2
  exact ⟨rfl, ⟨hs, HST.out⟩, HB.out.setCell (Nat.le_refl _) _⟩
end Go.Proofs.Ythpgddodfnjmbaa
