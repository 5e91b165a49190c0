/-
  LAYER 29 (package queue): the object; what is told of it.
-/
import Derived.Test.YtgdgjalfabffcaaQuC
import Derived.Test.YtgdgjalfabffcaaClone
namespace Go.Proofs.Ytgdgjalfabffcaa
open Go.RowKit
set_option linter.unusedVariables false
set_option linter.unusedSimpArgs false
/-- Block b is a queue of the numbers zs, up to lim; its row is v, in a block from B on. -/
structure IsQ (w : World) (B b : Nat) (lim : Int) (v : Value) (zs : List Int) : Prop where
  obj : w.heap[b]? = some (.cells #[.int .i64 lim, v] 71 (0, 0))
  row : QRow w B v zs
  ne : v.ownBlock ≠ some b
  base : B ≤ b
  nd : zs.Nodup
  lim1 : 1 ≤ lim
  limL : (zs.length : Int) ≤ lim
  limM : lim ≤ 1099511627776
section
variable {w w' : World} {B b : Nat} {lim : Int} {v : Value} {zs : List Int}
theorem IsQ.cells (h : IsQ w B b lim v zs) : w.cell? ⟨b, 0, none⟩ = some (.int .i64 lim) ∧ w.cell? ⟨b, 1, none⟩ = some v :=
  ⟨by rw [cell_of_row _ _ 0 _ _ _ h.obj]; rfl, by rw [cell_of_row _ _ 1 _ _ _ h.obj]; rfl⟩
theorem IsQ.frozen (h : IsQ w B b lim v zs) (o : Nat) : w.frozen? ⟨b, o, none⟩ = false := frozen_of_row _ _ _ _ _ h.obj
theorem IsQ.lt (h : IsQ w B b lim v zs) : ∀ k, foot b v k → B ≤ k ∧ k < w.heap.size := by
  intro k hk
  rcases hk with rfl | hk
  · exact ⟨h.base, (Array.getElem?_eq_some_iff.1 h.obj).1⟩
  · exact h.row.lt k hk
theorem IsQ.len (h : IsQ w B b lim v zs) : zs.length ≤ 1099511627776 := by have := h.limL; have := h.limM; omega
theorem IsQ.same (h : IsQ w B b lim v zs) (he : ∀ k, foot b v k → w'.heap[k]? = w.heap[k]?) : IsQ w' B b lim v zs :=
  ⟨(he b (Or.inl rfl)).trans h.obj, h.row.same (fun k hk => he k (Or.inr hk)), h.ne, h.base, h.nd, h.lim1, h.limL, h.limM⟩
theorem IsQ.other {S : Nat → Prop} (h : IsQ w B b lim v zs) (ht : Touch S w w') (hS : ∀ k, foot b v k → ¬ S k) : IsQ w' B b lim v zs := h.same fun k hk => ht.block k (h.lt k hk).2 (hS k hk)
theorem IsQ.far (h : IsQ w B b lim v zs) (hb : Below w.heap.size w w') : IsQ w' B b lim v zs := h.same fun k hk => hb.block k (h.lt k hk).2
theorem IsQ.lower {B2 : Nat} (h : IsQ w B b lim v zs) (hB : B2 ≤ B) : IsQ w B2 b lim v zs := ⟨h.obj, h.row.lower hB, h.ne, Nat.le_trans hB h.base, h.nd, h.lim1, h.limL, h.limM⟩
/-- What an act leaves: the queue holds other numbers, maybe in another row, and nothing else has turned. -/
def QStep (w w' : World) (B b : Nat) (lim : Int) (v : Value) (zs' : List Int) : Prop :=
  ∃ v', IsQ w' B b lim v' zs' ∧ Touch (foot b v) w w' ∧ (∀ k, v'.ownBlock = some k → v.ownBlock = some k ∨ w.heap.size ≤ k)
theorem QStep.refl (h : IsQ w B b lim v zs) : QStep w w B b lim v zs := ⟨v, h, Touch.refl _ _, fun k hk => Or.inl hk⟩
theorem QStep.drew (h : IsQ w B b lim v zs) (n : Nat) : QStep w (w.drewN n) B b lim v zs := ⟨v, h.same (fun _ _ => rfl), touch_drewN _ _ _, fun k hk => Or.inl hk⟩
/-- The row is stored anew. -/
theorem QStep.store {w1 : World} {v' : Value} {zs' : List Int} (h : IsQ w B b lim v zs) (ht : Touch (foot b v) w w1) (hb : w1.heap[b]? = w.heap[b]?) (hq : QRow w1 B v' zs') (ho : ∀ k, v'.ownBlock = some k → v.ownBlock = some k ∨ w.heap.size ≤ k)
    (hnd : zs'.Nodup) (hl : (zs'.length : Int) ≤ lim) : QStep w (w1.setCell ⟨b, 1, none⟩ v') B b lim v zs' := by
  have hlt := (h.lt b (Or.inl rfl)).2
  have hne : v'.ownBlock ≠ some b := fun e => by
    rcases ho b e with h1 | h1
    · exact h.ne h1
    · omega
  refine ⟨v', ⟨?_, ?_, hne, h.base, hnd, h.lim1, hl, h.limM⟩, ht.setCell (Or.inl (Or.inl rfl)) _, ho⟩
  · have := heap_setCell_same w1 b 1 _ _ v' (hb.trans h.obj)
    rw [this]
    rfl
  · exact hq.same fun k hk => heap_setCell_other w1 _ k _ (fun e => hne (by rw [hk]; exact congrArg some e))
set_option maxHeartbeats 1000000 in
theorem qmade_any (w : World) (h : IsQ w B b lim v zs) : Calls Try.prog 44 #[.pointer (some ⟨b, 0, none⟩)] w fun e w' => e = .returned (.bool true) ∧ w' = w := by
  have c0 := h.cells.1
  have h1 : lim > 0 := by have := h.lim1; omega
  clear h
  go_enter Try.func44, Try.ntmps44
  go_wp2_with fail
  go_ret
  exact ⟨rfl, rfl⟩
set_option maxHeartbeats 1000000 in
theorem qmade_nil (w : World) : Calls Try.prog 44 #[.pointer none] w fun e w' => e = .returned (.bool false) ∧ w' = w := by
  go_enter Try.func44, Try.ntmps44
  go_wp2_with fail
  go_ret
  exact ⟨rfl, rfl⟩
set_option maxHeartbeats 1000000 in
theorem qlen_any (w : World) (h : IsQ w B b lim v zs) : Calls Try.prog 17 #[.pointer (some ⟨b, 0, none⟩)] w fun e w' => e = .returned (.int .i64 (zs.length : Int)) ∧ w' = w := by
  have c1 := h.cells.2
  obtain ⟨a, cap, rfl, _⟩ := h.row.shape
  clear h
  go_enter Try.func17, Try.ntmps17
  go_wp2_with fail
  go_ret
  exact ⟨rfl, rfl⟩
set_option maxHeartbeats 1000000 in
theorem qlen_nil (w : World) : Calls Try.prog 17 #[.pointer none] w fun e w' => e = .returned (.int .i64 0) ∧ w' = w := by
  go_enter Try.func17, Try.ntmps17
  go_wp2_with fail
  go_ret
  exact ⟨rfl, rfl⟩
set_option maxHeartbeats 1000000 in
theorem qhas_any (n : Int) (w : World) (h : IsQ w B b lim v zs) : Calls Try.prog 18 #[.pointer (some ⟨b, 0, none⟩), .int .i64 n] w fun e w' => e = .returned (.bool (decide (n ∈ zs))) ∧ w' = w := by
  have c1 := h.cells.2
  have hl := h.len
  have HC := Lib.hid (contains_any v zs n w h.row.ints (by omega))
  obtain ⟨a, cap, rfl, _⟩ := h.row.shape
  clear h
  generalize decide (n ∈ zs) = R at *
  go_enter Try.func18, Try.ntmps18
  go_wp2_with fail
  refine HC.out.mono ?_
  rintro e w1 ⟨rfl, rfl⟩
  go_wp2_with fail
  go_ret
  exact ⟨rfl, rfl⟩
set_option maxHeartbeats 1000000 in
theorem qhas_nil (n : Int) (w : World) : Calls Try.prog 18 #[.pointer none, .int .i64 n] w fun e w' => e = .returned (.bool false) ∧ w' = w := by
  go_enter Try.func18, Try.ntmps18
  go_wp2_with fail
  go_ret
  exact ⟨rfl, rfl⟩
/-- A copy of a row. -/
theorem clone_nil (w : World) : Calls Try.prog 42 #[.slice none 0 0] w fun e w' => e = .returned (.slice none 0 0) ∧ w' = w := by
  have hnil : ∀ W, (binOp .eql 28 (.slice none 0 0) (.slice none 0 0)).run Try.prog W = .ok (.bool true) W := fun W => Lib.run_eql_slice_nil W _ _ _ _ _ _ _ Try.underlying28
  go_enter Try.func42, Try.ntmps42
  go_wp2_with fail
  go_ret
  exact ⟨rfl, rfl⟩
theorem clone_q (w : World) (h : QRow w B v zs) (hl : zs.length ≤ 1000000) : Calls Try.prog 42 #[v] w fun e w' => ∃ u, e = .returned u ∧ OwnI w' w.heap.size u zs ∧ Below w.heap.size w w' := by
  rcases h with ⟨rfl, rfl⟩ | ⟨g, off, cap, n, f, rfl, h⟩
  · refine (clone_nil w).mono ?_
    rintro e w1 ⟨rfl, rfl⟩
    exact ⟨_, rfl, World.ownsRow_nil _ _ _ _, Below.refl _ _⟩
  · exact clone_any g off zs.length cap zs w (QRow.ints (B := B) (Or.inr ⟨g, off, cap, n, f, rfl, h⟩)) hl
set_option maxHeartbeats 1000000 in
theorem qall_any (w : World) (h : IsQ w B b lim v zs) (hl : zs.length ≤ 1000000) : Calls Try.prog 16 #[.pointer (some ⟨b, 0, none⟩)] w fun e w' => ∃ u, e = .returned u ∧ OwnI w' w.heap.size u zs ∧ Below w.heap.size w w' := by
  have c1 := h.cells.2
  have HC := Lib.hid (clone_q w h.row hl)
  obtain ⟨a, cap, rfl, _⟩ := h.row.shape
  clear h
  go_enter Try.func16, Try.ntmps16
  go_wp2_with fail
  refine HC.out.mono ?_
  rintro e w1 ⟨u, rfl, h1, h2⟩
  have H1 := Lib.hid (And.intro h1 h2)
  clear h1 h2
  go_wp2_with fail
  go_ret
  exact ⟨_, rfl, H1.out⟩
set_option maxHeartbeats 1000000 in
theorem qall_nil (w : World) : Calls Try.prog 16 #[.pointer none] w fun e w' => e = .returned (.slice none 0 0) ∧ w' = w := by
  go_enter Try.func16, Try.ntmps16
  go_wp2_with fail
  go_ret
  exact ⟨rfl, rfl⟩
/-- The front of a list, and why there is none. -/
def frontN : List Int → Int
  | [] => 0
  | x :: _ => x
def frontE : List Int → Int
  | [] => 6
  | _ :: _ => 0
set_option maxHeartbeats 1000000 in
theorem qfront_any (w : World) (h : IsQ w B b lim v zs) : Calls Try.prog 22 #[.pointer (some ⟨b, 0, none⟩)] w fun e w' => e = .returned (.tuple #[.int .i64 (frontN zs), .int .i64 (frontE zs)]) ∧ w' = w := by
  have c1 := h.cells.2
  have HM := Lib.hid (qmade_any w h)
  have HL := Lib.hid (qlen_any w h)
  cases zs with
  | nil =>
    clear h
    go_enter Try.func22, Try.ntmps22
    go_wp2_with fail
    refine HM.out.mono ?_
    rintro e w1 ⟨rfl, rfl⟩
    go_wp2_with fail
    refine HL.out.mono ?_
    rintro e w1 ⟨rfl, rfl⟩
    go_wp2_with fail
    go_ret2
    exact ⟨rfl, rfl⟩
  | cons x zs =>
    obtain ⟨g, off, cap, hv, c2⟩ := h.row.ints.cell (k := 0) (by simp)
    subst hv
    have c2' : w.cell? ⟨g, off, none⟩ = some (.int .i64 x) := c2
    obtain ⟨M, hM⟩ : ∃ M, (x :: zs).length = M := ⟨_, rfl⟩
    have hM0 : 0 < M := by rw [← hM]; simp
    rw [hM] at HL c1
    clear c2 h hM
    have h1 : (0 : Int) < (M : Int) := by omega
    have h2 : ((M : Int) == 0) = false := by rw [beq_eq_false_iff_ne]; omega
    go_enter Try.func22, Try.ntmps22
    go_wp2_with fail
    refine HM.out.mono ?_
    rintro e w1 ⟨rfl, rfl⟩
    go_wp2_with fail
    refine HL.out.mono ?_
    rintro e w1 ⟨rfl, rfl⟩
    go_wp2_with fail
    go_ret2
    exact ⟨rfl, rfl⟩
set_option maxHeartbeats 1000000 in
theorem qfront_nil (w : World) : Calls Try.prog 22 #[.pointer none] w fun e w' => e = .returned (.tuple #[.int .i64 0, .int .i64 7]) ∧ w' = w := by
  have HM := Lib.hid (qmade_nil w)
  go_enter Try.func22, Try.ntmps22
  go_wp2_with fail
  refine HM.out.mono ?_
  rintro e w1 ⟨rfl, rfl⟩
  go_wp2_with fail
  go_ret2
  exact ⟨rfl, rfl⟩
end
end Go.Proofs.Ytgdgjalfabffcaa
