/-
  ROWS OF TEXTS: a whole block of texts, told by a function; 'make' of one.
-/
import Derived.Test.YtclmnmfdajlddaaCan
namespace Go.Proofs.Ytclmnmfdajlddaa
open Go.RowKit
set_option linter.unusedVariables false
/-- Block g is the N texts F. -/
def RowS (w : World) (g N : Nat) (F : Nat → ByteArray) : Prop := w.heap[g]? = some (.cells (cellsF N (fun i => .string (F i))) 9 (0, 0))
theorem RowS.lt {w : World} {g N : Nat} {F : Nat → ByteArray} (h : RowS w g N F) : g < w.heap.size := (Array.getElem?_eq_some_iff.1 h).1
theorem RowS.below {w w' : World} {g N : Nat} {F : Nat → ByteArray} (h : RowS w g N F) (hb : Below w.heap.size w w') : RowS w' g N F := (hb.block g h.lt).trans h
theorem RowS.other {w w' : World} {g N : Nat} {F : Nat → ByteArray} (h : RowS w g N F) {S : Nat → Prop} (ht : Touch S w w') (hS : ¬ S g) : RowS w' g N F := (ht.block g h.lt hS).trans h
theorem RowS.drewN {w : World} {g N : Nat} {F : Nat → ByteArray} (h : RowS w g N F) (n : Nat) : RowS (w.drewN n) g N F := h
theorem cellsF_ext {M : Nat} {F G : Nat → Value} (h : ∀ i, i < M → F i = G i) : cellsF M F = cellsF M G := by
  unfold cellsF
  congr 1
  exact List.map_congr_left fun i hi => h i (List.mem_range.1 hi)
theorem RowS.ext {w : World} {g N : Nat} {F G : Nat → ByteArray} (h : RowS w g N F) (he : ∀ i, i < N → F i = G i) : RowS w g N G := by
  unfold RowS at h ⊢
  rw [h, cellsF_ext (G := fun i => .string (G i)) (fun i hi => by rw [he i hi])]
theorem RowS.cell {w : World} {g N : Nat} {F : Nat → ByteArray} (h : RowS w g N F) {i : Nat} (hi : i < N) : w.cell? ⟨g, i, none⟩ = some (.string (F i)) ∧ w.frozen? ⟨g, i, none⟩ = false ∧
    ∀ x : ByteArray, RowS (w.setCell ⟨g, i, none⟩ (.string x)) g N (fun k => if k = i then x else F k) := by
  refine ⟨(cell_of_row _ _ _ _ _ _ h).trans (cellsF_get N _ hi), frozen_of_row _ _ _ _ _ h, fun x => ?_⟩
  have := heap_setCell_same w g i _ _ (.string x) h
  rw [cellsF_set] at this
  unfold RowS
  rw [this, cellsF_ext (G := fun k => .string (if k = i then x else F k))]
  intro j _
  unfold upd
  split <;> rfl
theorem RowS.made (w : World) (n : Nat) : RowS (w.alloc (.cells (madeCells #[Value.string ⟨#[]⟩] n) 9)) w.heap.size n (fun _ => ⟨#[]⟩) := by
  have e : madeCells #[Value.string ⟨#[]⟩] n = cellsF n (fun _ => .string ⟨#[]⟩) := by
    apply Array.toList_inj.1
    rw [toList_madeCells_one]
    unfold cellsF
    show List.replicate n _ = (List.range n).map fun _ => _
    rw [List.map_const', List.length_range]
  unfold RowS
  rw [← e]
  exact heap_alloc_new _ _
set_option maxHeartbeats 1000000 in
theorem make_strs (n : Nat) (hn : n ≤ 1000000) (W : World) : (Instr.makeSlice 42 (.int .i64 (n : Int)) (.int .i64 (n : Int))).run Try.prog W = .ok (.slice (some ⟨W.heap.size, 0, none⟩) n n) (W.alloc (.cells (madeCells #[Value.string ⟨#[]⟩] n) 9)) := by
  obtain ⟨i0, hi, hz0, hz1, hz2⟩ := info_parts (show (Try.prog.info? 9).map (fun i => (i.zero, i.size, i.bytes)) = some (some (.string ⟨#[]⟩), 1, 16) by kernel_rfl)
  have := run_make (P := Try.prog) W 42 9 i0 (.string ⟨#[]⟩) Try.underlying42 hi hz0 .i64 .i64 (n : Int) (n : Int) (by omega) (by omega) (by rw [hz2]; omega) (by omega)
  rw [hz1] at this
  simpa [Value.cells] using this
end Go.Proofs.Ytclmnmfdajlddaa
