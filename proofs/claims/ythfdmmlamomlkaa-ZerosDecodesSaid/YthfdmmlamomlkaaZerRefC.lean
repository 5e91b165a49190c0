/-
  THE WALKS OF THE DOCUMENT's ANSWERS OF LAYER 7 (balerref07): a Reader by value; Count, Put.
-/
import Derived.Test.YthfdmmlamomlkaaZerRefB
namespace Go.Proofs.Ythfdmmlamomlkaa
open Go.RowKit ZerM
set_option linter.unusedVariables false
/-- A reader by value: its cells. -/
def rdc (n : Int) (most : Nat) (told : Int) (u : Value) (d : Bool) : Array Value := #[.int .i64 n, .int .i64 (most : Int), .int .i64 told, u, .bool d]
def stc (n : Int) (most : Nat) (told : Int) (u : Value) (d : Bool) (z p e : Int) : Array Value := #[.int .i64 n, .int .i64 (most : Int), .int .i64 told, u, .bool d, .int .i64 z, .int .i64 p, .int .i64 e]
theorem info_rd : (Try.prog.info? 39).map (·.size) = some 5 := by kernel_rfl
theorem info_st : (Try.prog.info? 43).map (·.size) = some 8 := by kernel_rfl
theorem stc_all (n : Int) (most : Nat) (told : Int) (a : Option Addr) (N cap : Nat) (d : Bool) (z p e : Int) : (stc n most told (.slice a N cap) d z p e).all (·.oneCell') = true := by kernel_rfl
theorem OwnI.one {w : World} {base : Nat} {v : Value} {zs : List Int} (h : OwnI w base v zs) : v.oneCell' = true := by
  obtain ⟨a, cap, rfl⟩ := h.slice
  rfl
theorem OwnI.weak {w : World} {base : Nat} {v : Value} {zs : List Int} (h : OwnI w base v zs) : OwnI w 0 v zs := h.lower (Nat.zero_le _)
set_option maxRecDepth 100000 in
set_option maxHeartbeats 1000000 in
theorem rcount_any (n : Int) (most : Nat) (s : St) (u : Value) (C : Nat) (w : World) (hu : OwnI w 0 u s.rc) (hb : Bin s.rc) (hl : s.rc.length ≤ 41) (hv : val s.rc ≤ 4398046511104) (ho : s.out.length ≤ 4398046511104) (hC : cnt s = C) :
    Calls Try.prog 28 #[.agg #[.int .i64 n, .int .i64 (most : Int), .int .i64 (s.out.length : Int), u, .bool s.done]] w fun e w' => e = .returned (.int .i64 (C : Int)) ∧ Below w.heap.size w w' := by
  obtain ⟨a, cap, hus⟩ := hu.slice
  have HI : Hid (∀ k, IsInts ((w.alloc (.cells #[.int .i64 n, .int .i64 (most : Int), .int .i64 (s.out.length : Int), u, .bool s.done] 39)).drewN k) u s.rc) := Lib.hid (fun k => ((hu.alloc _).drewN k).ints)
  have HB := Lib.hid hb
  have hcI : (s.out.length : Int) + (val s.rc : Int) = (C : Int) := by rw [← hC]; unfold cnt; simp
  have hw1 : IntKind.i64.wrap ((s.out.length : Int) + (val s.rc : Int)) = (C : Int) := by rw [hcI]; exact IntWalk.i64_in _ (by rw [← hcI]; omega)
  have HV := Lib.hid (fun W (h : IsInts W u s.rc) => rvalue_any u s.rc W h hb hl hv)
  clear hu hb hC
  generalize val s.rc = V at *
  generalize s.out.length = T at *
  subst hus
  go_enter Try.func28, Try.ntmps28
  go_wp2_with fail
  go_quiet ((go_at_call 20; exact Calls.quiet_of (HV.out _ (HI.out _))))
  go_wp2_with fail
  go_ret
  exact ⟨rfl, ((Below.refl _ _).alloc (Nat.le_refl _) _).trans ⟨rfl, rfl, rfl, Nat.le_refl _, fun _ _ => rfl⟩⟩
/-- What the document's Put tells, and the reader behind it. -/
def RPutP (n : Int) (most : Nat) (s : St) (c : Int) (u : Value) (w : World) (e : Ending) (w' : World) : Prop :=
  Below w.heap.size w w' ∧ ((putE n most s c = 0 ∧ ∃ u', OwnI w' w.heap.size u' (putS n s c).rc ∧ e = .returned (.agg (stc n most ((putS n s c).out.length : Int) u' (putS n s c).done (putZ s c : Int) (putP n c) 0))) ∨
    (putE n most s c ≠ 0 ∧ e = .returned (.agg (stc n most (s.out.length : Int) u s.done 0 0 (putE n most s c : Int)))))
/-- A whole step is stored into its variable, and told. -/
theorem heap_two (w : World) (x y : Obj) : ((w.alloc x).alloc y).heap[w.heap.size + 1]? = some y := by
  show ((w.heap.push x).push y)[w.heap.size + 1]? = some y
  rw [Array.getElem?_push]
  simp
theorem heap_three (w : World) (x y z : Obj) : (((w.alloc x).alloc y).alloc z).heap[w.heap.size]? = some x ∧ (((w.alloc x).alloc y).alloc z).heap[w.heap.size + 1]? = some y ∧ (((w.alloc x).alloc y).alloc z).heap[w.heap.size + 2]? = some z ∧ (((w.alloc x).alloc y).alloc z).heap.size = w.heap.size + 3 := by
  refine ⟨?_, ?_, ?_, ?_⟩
  · show (((w.heap.push x).push y).push z)[w.heap.size]? = some x
    rw [Array.getElem?_push, if_neg (by simp; omega), Array.getElem?_push, if_neg (by simp)]
    simp
  · show (((w.heap.push x).push y).push z)[w.heap.size + 1]? = some y
    rw [Array.getElem?_push, if_neg (by simp), Array.getElem?_push, if_pos (by simp)]
  · show (((w.heap.push x).push y).push z)[w.heap.size + 2]? = some z
    rw [Array.getElem?_push, if_pos (by simp)]
  · simp
set_option maxRecDepth 100000 in
set_option maxHeartbeats 2000000 in
theorem rput_stop (n : Int) (most : Nat) (s : St) (c : Int) (u : Value) (w : World) (hu : OwnI w 0 u s.rc) (h1 : 1 ≤ n) (h2 : n ≤ 256) (hs : s.done = true ∨ c < 0 ∨ n + 1 < c) :
    Calls Try.prog 25 #[.agg #[.int .i64 n, .int .i64 (most : Int), .int .i64 (s.out.length : Int), u, .bool s.done], .int .i64 c] w (RPutP n most s c u w) := by
  obtain ⟨a, cap, hus⟩ := hu.slice
  clear hu
  have hw1 : IntKind.i64.wrap (n + 1) = n + 1 := IntWalk.i64_in _ (by omega)
  by_cases hd : s.done = true
  · have hE : Hid (putE n most s c = 7) := Lib.hid (by unfold putE; rw [if_pos hd])
    rw [hd]
    clear hs
    subst hus
    go_enter Try.func25, Try.ntmps25
    go_wp2_with fail
    refine bodyPost_ret (v := .agg (stc n most (s.out.length : Int) (.slice a s.rc.length cap) true 0 0 7)) (results_cell_row rfl _ _ (w.heap.size + 1) 43 _ (0, 0) _ rfl (heap_two _ _ _) Try.underlying43 rfl info_st) rfl ?_
    exact ⟨((Below.refl _ _).alloc (Nat.le_refl _) _).alloc (by simp) _, Or.inr ⟨by rw [hE.out]; decide, by rw [hE.out, hd]; rfl⟩⟩
  · have hc : c < 0 ∨ n + 1 < c := by rcases hs with h | h; exact absurd h hd; exact h
    have hE : Hid (putE n most s c = 25) := Lib.hid (by unfold putE; rw [if_neg hd, if_pos hc])
    have hd2 : s.done = false := by simpa using hd
    have HD := Lib.hid hd2
    rw [hd2]
    clear hs hd hd2
    subst hus
    by_cases hc0 : c < 0
    · clear hc
      go_enter Try.func25, Try.ntmps25
      go_wp2_with fail
      refine bodyPost_ret (v := .agg (stc n most (s.out.length : Int) (.slice a s.rc.length cap) false 0 0 25)) (results_cell_row rfl _ _ (w.heap.size + 1) 43 _ (0, 0) _ rfl (heap_two _ _ _) Try.underlying43 rfl info_st) rfl ?_
      exact ⟨((Below.refl _ _).alloc (Nat.le_refl _) _).alloc (by simp) _, Or.inr ⟨by rw [hE.out]; decide, by rw [hE.out, HD.out]; rfl⟩⟩
    · have hc3 : n + 1 < c := by omega
      clear hc
      go_enter Try.func25, Try.ntmps25
      go_wp2_with fail
      refine bodyPost_ret (v := .agg (stc n most (s.out.length : Int) (.slice a s.rc.length cap) false 0 0 25)) (results_cell_row rfl _ _ (w.heap.size + 1) 43 _ (0, 0) _ rfl (heap_two _ _ _) Try.underlying43 rfl info_st) rfl ?_
      exact ⟨((Below.refl _ _).alloc (Nat.le_refl _) _).alloc (by simp) _, Or.inr ⟨by rw [hE.out]; decide, by rw [hE.out, HD.out]; rfl⟩⟩
/-- The three variables of a Put: what came, what it tells, and what comes of it. -/
def PutW (w : World) (n : Int) (most : Nat) (told : Int) (u : Value) (W : World) (told' : Int) (u' : Value) (d' : Bool) : Prop :=
  W.heap[w.heap.size]? = some (.cells (rdc n most told u false) 39 (0, 0)) ∧ W.heap[w.heap.size + 1]? = some (.cells (stc 0 0 0 (.slice none 0 0) false 0 0 0) 43 (0, 0)) ∧
  W.heap[w.heap.size + 2]? = some (.cells (rdc n most told' u' d') 39 (0, 0)) ∧ w.heap.size + 3 ≤ W.heap.size ∧ Below w.heap.size w W
theorem PutW.below {w W W' : World} {n : Int} {most : Nat} {told : Int} {u : Value} {told' : Int} {u' : Value} {d' : Bool} (h : PutW w n most told u W told' u' d') {B : Nat} (hb : Below B W W') (hB : w.heap.size + 3 ≤ B) : PutW w n most told u W' told' u' d' := by
  obtain ⟨h0, h1, h2, h3, h4⟩ := h
  exact ⟨(hb.block _ (by omega)).trans h0, (hb.block _ (by omega)).trans h1, (hb.block _ (by omega)).trans h2, Nat.le_trans h3 hb.size, h4.trans (hb.mono (by omega))⟩
end Go.Proofs.Ythfdmmlamomlkaa
