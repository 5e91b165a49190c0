/-
  LAYER 29's STATEMENTS: an act by the program; the example; QueueNil, QueueOrder, QueueRound.
-/
import Derived.Test.YtgdgjalfabffcaaQuH
namespace Go.Proofs.Ytgdgjalfabffcaa
open Go.ChangeShapes Go.WideShapes Go.ChangeAt Go.RowKit Go.Deep
set_option linter.unusedVariables false
set_option linter.unusedSimpArgs false
theorem QStep.outAlloc {w w' : World} {o : Obj} {B b : Nat} {lim : Int} {v : Value} {zs : List Int} (h : QStep (w.alloc o) w' B b lim v zs) : QStep w w' B b lim v zs := by
  obtain ⟨v', h1, h2, h3⟩ := h
  exact ⟨v', h1, touch_alloc_out h2, fun k hk => (h3 k hk).imp id (fun h => by simp at h; omega)⟩
set_option maxRecDepth 100000 in
set_option maxHeartbeats 4000000 in
theorem done29_any {B b : Nat} {lim : Int} {v : Value} {zs : List Int} (K Z : Int) (w : World) (h : IsQ w B b lim v zs) :
    Calls Try.prog 14 #[.pointer (some ⟨b, 0, none⟩), .agg #[.int .i64 K, .int .i64 Z]] w fun e w' => e = .returned (.tuple #[.int .i64 (actN K zs), .int .i64 (actE lim K Z zs)]) ∧ QStep w w' B b lim v (actL lim K Z zs) := by
  obtain ⟨w1, hw1⟩ : ∃ w1, w.alloc (.cells #[.int .i64 K, .int .i64 Z] 30) = w1 := ⟨_, rfl⟩
  obtain ⟨G0, hG0⟩ : ∃ G, w.heap.size = G := ⟨_, rfl⟩
  have hx : w1.heap[G0]? = some (.cells #[.int .i64 K, .int .i64 Z] 30 (0, 0)) := by rw [← hw1, ← hG0]; exact heap_alloc_new _ _
  have cK : w1.cell? ⟨G0, 0, none⟩ = some (.int .i64 K) := by rw [cell_of_row _ _ 0 _ _ _ hx]; rfl
  have cZ : w1.cell? ⟨G0, 1, none⟩ = some (.int .i64 Z) := by rw [cell_of_row _ _ 1 _ _ _ hx]; rfl
  have h1 : IsQ w1 B b lim v zs := h.far (by rw [← hw1]; exact (Below.refl _ _).alloc (Nat.le_refl _) _)
  have HO : Hid (∀ w' zs', QStep w1 w' B b lim v zs' → QStep w w' B b lim v zs') := Lib.hid (fun w' zs' hq => QStep.outAlloc (by rw [hw1]; exact hq))
  have H1 := Lib.hid h1
  clear hx h h1
  unfold actN actE actL
  by_cases k0 : K = 0
  · subst k0
    rw [if_pos rfl, if_pos rfl, if_pos rfl]
    have HP := Lib.hid (qpush_any Z w1 H1.out)
    generalize pushE zs lim Z = E at *
    go_enter Try.func14, Try.ntmps14
    go_wp2_with fail
    refine HP.out.mono ?_
    rintro e w2 ⟨rfl, hq⟩
    have HQ := Lib.hid (HO.out _ _ hq)
    clear hq
    go_wp2_with fail
    go_ret2
    exact ⟨rfl, HQ.out⟩
  have j0 : (K == 0) = false := by rw [beq_eq_false_iff_ne]; exact k0
  rw [if_neg k0, if_neg k0, if_neg k0]
  by_cases k1 : K = 1
  · subst k1
    rw [if_pos rfl, if_pos rfl, if_pos rfl]
    have HP := Lib.hid (qpop_any w1 H1.out)
    clear j0 k0
    generalize frontN zs = n at *
    generalize frontE zs = E at *
    go_enter Try.func14, Try.ntmps14
    go_wp2_with fail
    refine HP.out.mono ?_
    rintro e w2 ⟨rfl, hq⟩
    have HQ := Lib.hid (HO.out _ _ hq)
    clear hq
    go_wp2_with fail
    go_ret2
    exact ⟨rfl, HQ.out⟩
  have j1 : (K == 1) = false := by rw [beq_eq_false_iff_ne]; exact k1
  rw [if_neg k1, if_neg k1, if_neg k1]
  by_cases k2 : K = 2
  · subst k2
    rw [if_pos rfl, if_pos rfl, if_pos rfl]
    have HP := Lib.hid (qremove_any Z w1 H1.out)
    clear j0 k0 j1 k1
    generalize remE zs Z = E at *
    go_enter Try.func14, Try.ntmps14
    go_wp2_with fail
    refine HP.out.mono ?_
    rintro e w2 ⟨rfl, hq⟩
    have HQ := Lib.hid (HO.out _ _ hq)
    clear hq
    go_wp2_with fail
    go_ret2
    exact ⟨rfl, HQ.out⟩
  have j2 : (K == 2) = false := by rw [beq_eq_false_iff_ne]; exact k2
  rw [if_neg k2, if_neg k2, if_neg k2]
  by_cases k3 : K = 3
  · subst k3
    rw [if_pos rfl, if_pos rfl, if_pos rfl]
    have HP := Lib.hid (qrotate_any w1 H1.out)
    clear j0 k0 j1 k1 j2 k2
    go_enter Try.func14, Try.ntmps14
    go_wp2_with fail
    refine HP.out.mono ?_
    rintro e w2 ⟨rfl, hq⟩
    have HQ := Lib.hid (HO.out _ _ hq)
    clear hq
    go_wp2_with fail
    go_ret2
    exact ⟨rfl, HQ.out⟩
  have j3 : (K == 3) = false := by rw [beq_eq_false_iff_ne]; exact k3
  rw [if_neg k3, if_neg k3, if_neg k3]
  have HP := Lib.hid (qfront_any w1 H1.out)
  have HQ := Lib.hid (HO.out _ _ (QStep.refl H1.out))
  clear k0 k1 k2 k3
  generalize frontN zs = n at *
  generalize frontE zs = E at *
  go_enter Try.func14, Try.ntmps14
  go_wp2_with fail
  refine HP.out.mono ?_
  rintro e w2 ⟨rfl, rfl⟩
  go_wp2_with fail
  go_ret2
  exact ⟨rfl, HQ.out⟩
/-! ### A queue that the call made -/
structure QAt (w0 w : World) (b : Nat) (lim : Int) (zs : List Int) : Prop where
  ex : ∃ v, IsQ w w0.heap.size b lim v zs
  below : Below w0.heap.size w0 w
section
variable {w0 w w' : World} {b : Nat} {lim : Int} {zs : List Int}
theorem QAt.next (h : QAt w0 w b lim zs) (hb : Below w.heap.size w w') : QAt w0 w' b lim zs := by
  obtain ⟨⟨v, h1⟩, h2⟩ := h
  exact ⟨⟨v, h1.far hb⟩, h2.trans (hb.mono h2.size)⟩
theorem QAt.step {v : Value} {zs' : List Int} (h : IsQ w w0.heap.size b lim v zs) (hb : Below w0.heap.size w0 w) (hs : QStep w w' w0.heap.size b lim v zs') : QAt w0 w' b lim zs' := by
  obtain ⟨v', h1, h2, _⟩ := hs
  exact ⟨⟨v', h1⟩, hb.trans (h2.below hb.size (fun i hi => (h.lt i hi).1))⟩
theorem at_new (lim : Int) (w : World) (h1 : 1 ≤ lim) (h2 : lim ≤ 1099511627776) : Calls Try.prog 12 #[.int .i64 lim] w fun e w' => e = .returned (.tuple #[.pointer (some ⟨w.heap.size, 0, none⟩), .int .i64 0]) ∧ QAt w w' w.heap.size lim [] :=
  (qnew_any lim w h1 h2).mono fun e w' ⟨he, hq, hb⟩ => ⟨he, ⟨_, hq⟩, hb⟩
theorem at_push (n : Int) (h : QAt w0 w b lim zs) : Calls Try.prog 20 #[.pointer (some ⟨b, 0, none⟩), .int .i64 n] w fun e w' => e = .returned (.int .i64 (pushE zs lim n)) ∧ QAt w0 w' b lim (pushL zs lim n) := by
  obtain ⟨⟨v, h1⟩, h2⟩ := h
  exact (qpush_any n w h1).mono fun e w' ⟨he, hq⟩ => ⟨he, QAt.step h1 h2 hq⟩
theorem at_pop (h : QAt w0 w b lim zs) : Calls Try.prog 21 #[.pointer (some ⟨b, 0, none⟩)] w fun e w' => e = .returned (.tuple #[.int .i64 (frontN zs), .int .i64 (frontE zs)]) ∧ QAt w0 w' b lim (popL zs) := by
  obtain ⟨⟨v, h1⟩, h2⟩ := h
  exact (qpop_any w h1).mono fun e w' ⟨he, hq⟩ => ⟨he, QAt.step h1 h2 hq⟩
theorem at_remove (n : Int) (h : QAt w0 w b lim zs) : Calls Try.prog 24 #[.pointer (some ⟨b, 0, none⟩), .int .i64 n] w fun e w' => e = .returned (.int .i64 (remE zs n)) ∧ QAt w0 w' b lim (DrrM.without zs n) := by
  obtain ⟨⟨v, h1⟩, h2⟩ := h
  exact (qremove_any n w h1).mono fun e w' ⟨he, hq⟩ => ⟨he, QAt.step h1 h2 hq⟩
theorem at_rotate (h : QAt w0 w b lim zs) : Calls Try.prog 23 #[.pointer (some ⟨b, 0, none⟩)] w fun e w' => e = .returned (.tuple #[]) ∧ QAt w0 w' b lim (DrrM.rotated zs) := by
  obtain ⟨⟨v, h1⟩, h2⟩ := h
  exact (qrotate_any w h1).mono fun e w' ⟨he, hq⟩ => ⟨he, QAt.step h1 h2 hq⟩
theorem at_front (h : QAt w0 w b lim zs) : Calls Try.prog 22 #[.pointer (some ⟨b, 0, none⟩)] w fun e w' => e = .returned (.tuple #[.int .i64 (frontN zs), .int .i64 (frontE zs)]) ∧ w' = w := by
  obtain ⟨⟨v, h1⟩, h2⟩ := h
  exact qfront_any w h1
theorem at_all (h : QAt w0 w b lim zs) (hl : zs.length ≤ 1000000) : Calls Try.prog 16 #[.pointer (some ⟨b, 0, none⟩)] w fun e w' => ∃ u, e = .returned u ∧ OwnI w' w.heap.size u zs ∧ Below w.heap.size w w' := by
  obtain ⟨⟨v, h1⟩, h2⟩ := h
  exact qall_any w h1 hl
end
set_option maxRecDepth 100000 in
set_option maxHeartbeats 4000000 in
theorem three29_any (w : World) : Calls Try.prog 11 #[] w fun e w' => e = .returned (.bool true) ∧ Below w.heap.size w w' := by
  have HN := Lib.hid (at_new 9 w (by omega) (by omega))
  go_enter Try.func11, Try.ntmps11
  go_wp2_with fail
  refine HN.out.mono ?_
  rintro e w1 ⟨rfl, h1⟩
  obtain ⟨B, hB⟩ : ∃ B, w.heap.size = B := ⟨_, rfl⟩
  rw [hB] at h1
  have H1 := Lib.hid (at_push 3 h1)
  clear h1
  go_wp2_with fail
  refine H1.out.mono ?_
  rintro e w2 ⟨rfl, h2⟩
  have H2 := Lib.hid (at_push 1 h2)
  clear h2
  rw [show pushE [] 9 3 = 0 by decide]
  go_wp2_with fail
  refine H2.out.mono ?_
  rintro e w3 ⟨rfl, h3⟩
  rw [show pushL (pushL [] 9 3) 9 1 = [3, 1] by decide] at h3
  have H3 := Lib.hid (at_push 2 h3)
  clear h3
  rw [show pushE (pushL [] 9 3) 9 1 = 0 by decide]
  go_wp2_with fail
  refine H3.out.mono ?_
  rintro e w4 ⟨rfl, h4⟩
  rw [show pushL [3, 1] 9 2 = [3, 1, 2] by decide] at h4
  have H4 := Lib.hid (at_rotate h4)
  clear h4
  rw [show pushE [3, 1] 9 2 = 0 by decide]
  go_wp2_with fail
  refine H4.out.mono ?_
  rintro e w5 ⟨rfl, h5⟩
  rw [show DrrM.rotated [3, 1, 2] = [1, 2, 3] by decide] at h5
  have H5 := Lib.hid (at_remove 2 h5)
  clear h5
  go_wp2_with fail
  refine H5.out.mono ?_
  rintro e w6 ⟨rfl, h6⟩
  rw [show DrrM.without [1, 2, 3] 2 = [1, 3] by decide] at h6
  have H6 := Lib.hid (at_all h6 (by decide))
  have HB6 := Lib.hid h6.below
  clear h6
  rw [show remE [1, 2, 3] 2 = 0 by decide]
  go_wp2_with fail
  refine H6.out.mono ?_
  rintro e w7 ⟨u, rfl, h7, hb7⟩
  obtain ⟨au, cu, hu⟩ := slice_of_own h7
  have HU : Hid (∀ o, IsInts (w7.alloc o) u [1, 3]) := Lib.hid (fun o => (ints_of_own h7).alloc o)
  have HB7 := Lib.hid (HB6.out.trans (hb7.mono HB6.out.size))
  clear h7 hb7
  obtain ⟨w8, hw8⟩ : ∃ w8, w7.alloc (.cells #[.int .i64 1, .int .i64 3] 3) = w8 := ⟨_, rfl⟩
  obtain ⟨G, hG⟩ : ∃ G, w7.heap.size = G := ⟨_, rfl⟩
  have h8 : IsInts w8 (.slice (some ⟨G, 0, none⟩) 2 2) [1, 3] := by rw [← hw8, ← hG]; exact ints_of_row (zs := [1, 3]) (rest := []) (heap_alloc_new w7 _) rfl
  have HI := Lib.hid (ints_any u (.slice (some ⟨G, 0, none⟩) 2 2) [1, 3] [1, 3] true w8 (by rw [← hw8]; exact HU.out _) h8 (by simp) (by decide) (by decide))
  have HB8 : Hid (Below w.heap.size w w8) := Lib.hid (by rw [← hw8]; exact HB7.out.alloc HB7.out.size _)
  clear h8
  subst hu
  go_wp2_with fail
  refine HI.out.mono ?_
  rintro e w9 ⟨rfl, m, rfl⟩
  go_wp2_with fail
  go_ret
  exact ⟨rfl, HB8.out.trans (below_drewN _ _ |>.mono HB8.out.size)⟩
end Go.Proofs.Ytgdgjalfabffcaa
