/-
  LAYER 28's STATEMENTS: WindowActs: the state of its loop, and what is told then.
-/
import Derived.Test.YtjpahpbofgfgfaaWinO
namespace Go.Proofs.Ytjpahpbofgfgfaa
open Go.RowKit Go.ChangeShapes Go.WideShapes Go.ChangeAt Go.Deep
set_option linter.unusedVariables false
set_option linter.unusedSimpArgs false
/-- A meter of the call's own, and a row of all that was charged. -/
structure WAct (w0 w : World) (b : Nat) (v : Value) (zs : List Int) (S A : Int) (C D : Nat → Int) (vc : Value) (l : List Chg) (k : Nat) : Prop where
  mt : IsMt w0.heap.size w b v zs S A C D
  inv : MtInv zs S A C D
  fit : WdMatch zs.length S A C D l
  row : OwnCh w w0.heap.size vc l
  apart : ∀ j, vc.ownBlock = some j → j ≠ b ∧ v.ownBlock ≠ some j
  below : Below w0.heap.size w0 w
  all : WdRow l A k
section
variable {w0 w w' : World} {b k m : Nat} {v vc vc2 : Value} {zs : List Int} {S A : Int} {C D : Nat → Int} {l : List Chg}
theorem WAct.next (h : WAct w0 w b v zs S A C D vc l k) (hb : Below w.heap.size w w') : WAct w0 w' b v zs S A C D vc l k :=
  ⟨h.mt.far hb, h.inv, h.fit, h.row.same (fun j hj => hb.block j (h.row.lt j hj).2), h.apart, h.below.trans (hb.mono h.below.size), h.all⟩
/-- Blocks of no part of it were turned. -/
theorem WAct.other (h : WAct w0 w b v zs S A C D vc l k) {T : Nat → Prop} (ht : Touch T w w') (hT : ∀ j, T j → w0.heap.size ≤ j ∧ j ≠ b ∧ v.ownBlock ≠ some j ∧ vc.ownBlock ≠ some j) : WAct w0 w' b v zs S A C D vc l k :=
  ⟨h.mt.other ht (fun e => (hT _ e).2.1 rfl) (fun j hj e => (hT j e).2.2.1 hj), h.inv, h.fit, h.row.same (fun j hj => ht.block j (h.row.lt j hj).2 (fun e => (hT j e).2.2.2 hj)), h.apart, h.below.trans (ht.below h.below.size (fun i hi => (hT i hi).1)), h.all⟩
theorem WAct.more (h : WAct w0 w b v zs S A C D vc l k) : WAct w0 w b v zs S A C D vc l (k + 1) := ⟨h.mt, h.inv, h.fit, h.row, h.apart, h.below, h.all.mono (Int.le_refl _) (Nat.le_succ _)⟩
theorem WAct.ticked (h : WAct w0 w b v zs S A C D vc l k) (hA : ¬ A = 1099511627776) (hl : IsMt w0.heap.size w' b v zs S (tkA A) (tkC S A C) D) (ht : Touch (· = b) w w') : WAct w0 w' b v zs S (A + 1) (tkC S A C) D vc l (k + 1) := by
  have e1 : tkA A = A + 1 := by unfold tkA; rw [if_neg hA]
  have hi := h.inv.tick
  rw [e1] at hl hi
  exact ⟨hl, hi, h.fit.tick h.all h.inv.1.1 h.inv.2.1.1 hA, h.row.same (fun j hj => ht.block j (h.row.lt j hj).2 (fun e => (h.apart j hj).1 e)), h.apart, h.below.trans (ht.below h.below.size (fun i hi => by have : i = b := hi; have := h.mt.own; omega)), h.all.mono (by omega) (Nat.le_succ _)⟩
/-- What a charge leaves, ahead of the row. -/
structure WMid (w0 w : World) (b : Nat) (v : Value) (zs : List Int) (S A : Int) (vc : Value) (l l2 : List Chg) (k : Nat) : Prop where
  mt : ∃ C D, IsMt w0.heap.size w b v zs S A C D ∧ MtInv zs S A C D ∧ WdMatch zs.length S A C D l2
  row : OwnCh w w0.heap.size vc l
  apart : ∀ j, vc.ownBlock = some j → j ≠ b ∧ v.ownBlock ≠ some j
  below : Below w0.heap.size w0 w
  all1 : WdRow l A k
  all : WdRow l2 A (k + 1)
theorem wact_charge (T x : Int) (h : WAct w0 w b v zs S A C D vc l k) :
    Calls Try.prog 30 #[.pointer (some ⟨b, 0, none⟩), .int .i64 T, .int .i64 x] w fun e w' => e = .returned (.int .i64 (refR zs l S T x A)) ∧ WMid w0 w' b v zs S A vc l (chNext l T x A (refR zs l S T x A)) k ∧ Touch (· = b) w w' := by
  have hc := wdcharge_any T x w h.mt h.inv
  rw [chgA_ref h.fit] at hc
  refine hc.mono ?_
  rintro e w' ⟨rfl, C', D', hs, hl, ht⟩
  have hz : refR zs l S T x A = 0 → 0 ≤ x ∧ x ≤ 1099511627776 := fun e => by
    rw [← chgA_ref h.fit] at e
    exact (chgA_zero e).2.1
  have hv : MtInv zs S A C' D' := by
    have := hs
    rw [← chgA_ref h.fit] at this
    exact this.inv h.inv
  exact ⟨rfl, ⟨⟨C', D', hl, hv, h.fit.step hs⟩, h.row.same (fun j hj => ht.block j (h.row.lt j hj).2 (fun e => (h.apart j hj).1 e)), h.apart, h.below.trans (ht.below h.below.size (fun i hi => by have : i = b := hi; have := h.mt.own; omega)), h.all, h.all.next h.inv.2.1.1 hz⟩, ht⟩
theorem WMid.stay {l2 : List Chg} (h : WMid w0 w b v zs S A vc l l2 k) (he : l2 = l) : ∃ C D, WAct w0 w b v zs S A C D vc l (k + 1) := by
  subst he
  obtain ⟨C, D, h1, h2, h3⟩ := h.mt
  exact ⟨C, D, h1, h2, h3, h.row, h.apart, h.below, h.all⟩
theorem WMid.push {l2 : List Chg} (h : WMid w0 w b v zs S A vc l l2 k) (hrow : OwnCh w' w0.heap.size vc2 l2) (ht : Touch (fun j => vc.ownBlock = some j) w w') (hv : ∀ j, vc2.ownBlock = some j → vc.ownBlock = some j ∨ w.heap.size ≤ j) : ∃ C D, WAct w0 w' b v zs S A C D vc2 l2 (k + 1) := by
  obtain ⟨C, D, h1, h2, h3⟩ := h.mt
  refine ⟨C, D, h1.other ht (fun e => (h.apart _ e).1 rfl) (fun j hj e => (h.apart j e).2 hj), h2, h3, hrow, fun j hj => ?_, h.below.trans (ht.below h.below.size (fun i hi => (h.row.lt i hi).1)), h.all⟩
  rcases hv j hj with e | e
  · exact h.apart j e
  · have l1 := h1.lt
    exact ⟨by omega, fun e2 => by have := (h1.row.lt j e2).2; omega⟩
theorem wact_left (h : WAct w0 w b v zs S A C D vc l k) (hm : m < zs.length) : Calls Try.prog 32 #[.pointer (some ⟨b, 0, none⟩), .int .i64 (m : Int)] w fun e w' => e = .returned (.int .i64 (leftF zs C m)) ∧ Below w.heap.size w w' := by
  refine (wdleft_any m w h.mt h.inv hm).mono ?_
  rintro e w' ⟨rfl, j, rfl⟩
  exact ⟨rfl, below_drewN _ _⟩
theorem wact_total (h : WAct w0 w b v zs S A C D vc l k) (hm : m < zs.length) : Calls Try.prog 33 #[.pointer (some ⟨b, 0, none⟩), .int .i64 (m : Int)] w fun e w' => e = .returned (.int .i64 (D m)) ∧ Below w.heap.size w w' := by
  refine (wdtotal_any m w h.mt h.inv hm).mono ?_
  rintro e w' ⟨rfl, rfl⟩
  exact ⟨rfl, Below.refl _ _⟩
theorem wact_rtotal (h : WAct w0 w b v zs S A C D vc l k) (hm : m < zs.length) (hk : k ≤ 1000) : Calls Try.prog 34 #[vc, .int .i64 (m : Int)] w fun e w' => e = .returned (.int .i64 (D m)) ∧ Below w.heap.size w w' := by
  have := rtotal28_any vc l (m : Int) w h.row.ch (h.all.chok hk h.inv.2.1.2)
  rw [← (h.fit m hm).2] at this
  exact this
theorem wact_rcharged (h : WAct w0 w b v zs S A C D vc l k) (hm : m < zs.length) (hk : k ≤ 1000) : Calls Try.prog 31 #[vc, .agg #[.int .i64 (m : Int), .int .i64 0, .int .i64 A], .int .i64 S] w fun e w' => e = .returned (.int .i64 (C m)) ∧ Below w.heap.size w w' := by
  have := rcharged28_any vc l S (m : Int) 0 A w h.row.ch (h.all.chok hk h.inv.2.1.2) h.inv.1 h.inv.2.1
  rw [← (h.fit m hm).1] at this
  exact this
theorem wact_num (h : WAct w0 w b v zs S A C D vc l k) (hm : m < zs.length) : 0 ≤ C m ∧ C m ≤ zs.getD m 0 ∧ zs.getD m 0 ≤ 1099511627776 := by
  obtain ⟨d1, d2, d3, _⟩ := h.inv.2.2.2 m hm
  exact ⟨d1, d2, d3⟩
end
/-- A row of what all may yet use, of the call's own, beside the rest. -/
structure AllR (w0 w : World) (b : Nat) (v vc va : Value) (zs : List Int) (C : Nat → Int) (m : Nat) : Prop where
  row : OwnI w w0.heap.size va (allF zs C m)
  apart : ∀ j, va.ownBlock = some j → j ≠ b ∧ v.ownBlock ≠ some j ∧ vc.ownBlock ≠ some j
section
variable {w0 w w' : World} {b m k : Nat} {v vc va va2 : Value} {zs : List Int} {S A : Int} {C D : Nat → Int} {l : List Chg}
theorem AllR.nil (w0 w : World) (b : Nat) (v vc : Value) (zs : List Int) (C : Nat → Int) : AllR w0 w b v vc (.slice none 0 0) zs C 0 := ⟨OwnI.nil _ _, fun j hj => by simp [Value.ownBlock] at hj⟩
theorem AllR.next (h : AllR w0 w b v vc va zs C m) (hb : Below w.heap.size w w') : AllR w0 w' b v vc va zs C m := ⟨h.row.below hb, h.apart⟩
/-- One more was put at its end. -/
theorem AllR.push (h : AllR w0 w b v vc va zs C m) (hW : WAct w0 w b v zs S A C D vc l k) (hrow : OwnI w' w0.heap.size va2 (allF zs C m ++ [leftF zs C m])) (hb : Below w0.heap.size w w') (hsame : ∀ j, j < w.heap.size → va.ownBlock ≠ some j → w'.heap[j]? = w.heap[j]?) (hv : ∀ j, va2.ownBlock = some j → va.ownBlock = some j ∨ w.heap.size ≤ j) :
    AllR w0 w' b v vc va2 zs C (m + 1) ∧ WAct w0 w' b v zs S A C D vc l k := by
  refine ⟨⟨by rw [allF_next]; exact hrow, fun j hj => ?_⟩, ?_⟩
  · rcases hv j hj with e | e
    · exact h.apart j e
    · have l1 := hW.mt.lt
      exact ⟨by omega, fun e2 => by have := (hW.mt.row.lt j e2).2; omega, fun e2 => by have := (hW.row.lt j e2).2; omega⟩
  · have ht : Touch (fun j => va.ownBlock = some j) w w' := ⟨hb.os, hb.tape, hb.output, hb.size, hsame⟩
    exact hW.other ht (fun j hj => ⟨(h.row.lt j hj).1, h.apart j hj⟩)
end
end Go.Proofs.Ytjpahpbofgfgfaa
