/-
  LAYER 28's STATEMENTS: WindowHolds.
-/
import Derived.Test.YtjpahpbofgfgfaaWinL
namespace Go.Proofs.Ytjpahpbofgfgfaa
open Go.RowKit Go.ChangeShapes Go.WideShapes Go.ChangeAt Go.Deep
set_option linter.unusedVariables false
set_option linter.unusedSimpArgs false
def sumL (C : Nat → Int) (n : Nat) : List Int := (List.range n).map C
theorem sumL_len (C : Nat → Int) (n : Nat) : (sumL C n).length = n := by simp [sumL]
theorem sumL_get (C : Nat → Int) {n t : Nat} (h : t < n) : (sumL C n).getD t 0 = C t := by
  rw [List.getD_eq_getElem?_getD]
  unfold sumL
  rw [List.getElem?_map, List.getElem?_range h]
  rfl
theorem sumL_set (C : Nat → Int) {n t : Nat} (x : Int) : (sumL C n).set t x = sumL (updI C t x) n := by
  apply List.ext_getElem
  · simp [sumL]
  · intro i h1 h2
    rw [List.getElem_set]
    simp only [sumL, List.getElem_map, List.getElem_range]
    unfold updI
    by_cases e : t = i
    · rw [if_pos e, if_pos e.symm]
    · rw [if_neg e, if_neg (fun h => e h.symm)]
theorem sumL_zero (n : Nat) : List.replicate n (0 : Int) = sumL zeroF n := by
  unfold sumL
  apply List.ext_getElem
  · simp
  · intro i h1 h2
    simp [zeroF]
/-- A meter of the call's own, and a row of what each tenant was charged in the window. -/
structure HoldM (w0 w : World) (b : Nat) (v : Value) (zs : List Int) (S A : Int) (C D : Nat → Int) (g : Nat) : Prop where
  mt : IsMt w0.heap.size w b v zs S A C D
  inv : MtInv zs S A C D
  row : RowI w g (sumL C zs.length)
  ne : g ≠ b ∧ ∀ k, v.ownBlock = some k → k ≠ g
  below : Below w0.heap.size w0 w
  own : w0.heap.size ≤ g
section
variable {w0 w w' : World} {b g : Nat} {v : Value} {zs : List Int} {S A : Int} {C D : Nat → Int}
theorem HoldM.next (h : HoldM w0 w b v zs S A C D g) (hb : Below w.heap.size w w') : HoldM w0 w' b v zs S A C D g := ⟨h.mt.far hb, h.inv, h.row.below hb, h.ne, h.below.trans (hb.mono h.below.size), h.own⟩
/-- Ticked, no new window. -/
theorem HoldM.ticked (h : HoldM w0 w b v zs S A C D g) (hA : ¬ A = 1099511627776) (hm : ¬ (A + 1) % S = 0) (hl : IsMt w0.heap.size w' b v zs S (tkA A) (tkC S A C) D) (ht : Touch (· = b) w w') : HoldM w0 w' b v zs S (A + 1) C D g := by
  have e1 : tkA A = A + 1 := by unfold tkA; rw [if_neg hA]
  have e2 : tkC S A C = C := by unfold tkC; rw [if_neg hA, if_neg hm]
  have hi := h.inv.tick
  rw [e1, e2] at hl hi
  exact ⟨hl, hi, h.row.other ht (fun e => h.ne.1 e), h.ne, h.below.trans (ht.below h.below.size (fun i hi => by have : i = b := hi; have := h.mt.own; omega)), h.own⟩
/-- Ticked into a new window, with a new row. -/
theorem HoldM.begun (h : HoldM w0 w b v zs S A C D g) (hA : ¬ A = 1099511627776) (hm : (A + 1) % S = 0) (hl : IsMt w0.heap.size w' b v zs S (tkA A) (tkC S A C) D) (ht : Touch (· = b) w w') : HoldM w0 (w'.alloc (.cells (madeCells #[Value.int .i64 0] zs.length) 3)) b v zs S (A + 1) zeroF D w'.heap.size := by
  have e1 : tkA A = A + 1 := by unfold tkA; rw [if_neg hA]
  have e2 : tkC S A C = zeroF := by unfold tkC; rw [if_neg hA, if_pos hm]
  have hi := h.inv.tick
  rw [e1, e2] at hl hi
  have hb : Below w0.heap.size w0 w' := h.below.trans (ht.below h.below.size (fun i hi => by have : i = b := hi; have := h.mt.own; omega))
  have hal : Below w'.heap.size w' (w'.alloc (.cells (madeCells #[Value.int .i64 0] zs.length) 3)) := (Below.refl _ _).alloc (Nat.le_refl _) _
  refine ⟨hl.far hal, hi, ?_, ⟨by have := hl.lt; omega, fun k hk => by have := (hl.row.lt k hk).2; omega⟩, hb.trans (hal.mono hb.size), hb.size⟩
  rw [← sumL_zero]
  exact RowI.made w' zs.length
/-- What a charge leaves, ahead of the row. -/
theorem HoldM.refused {T x E : Int} (h : HoldM w0 w b v zs S A C D g) (hE : E ≠ 0) (hd : MtDone w0.heap.size w w' b v zs S A C D T x E) : HoldM w0 w' b v zs S A C D g := by
  obtain ⟨C', D', hs, hl, ht⟩ := hd
  rcases hs with ⟨_, rfl, rfl⟩ | ⟨e, _⟩
  · exact ⟨hl, h.inv, h.row.other ht (fun e => h.ne.1 e), h.ne, h.below.trans (ht.below h.below.size (fun i hi => by have : i = b := hi; have := h.mt.own; omega)), h.own⟩
  · exact absurd e hE
theorem chgA_zero {T x : Int} (h : chgA zs C T x = 0) : (0 ≤ T ∧ T < (zs.length : Int)) ∧ lgIs x ∧ x ≤ zs.getD T.toNat 0 - C T.toNat := by
  unfold chgA at h
  split at h
  · omega
  · rename_i h1
    split at h
    · omega
    · rename_i h2
      split at h
      · omega
      · rename_i h3
        unfold leftF at h3
        exact ⟨Classical.not_not.1 h1, Classical.not_not.1 h2, by omega⟩
/-- Charged: the row still as before. -/
theorem HoldM.charged {t : Nat} {x : Int} (h : HoldM w0 w b v zs S A C D g) (hE : chgA zs C (t : Int) x = 0) (hd : MtDone w0.heap.size w w' b v zs S A C D (t : Int) x (chgA zs C (t : Int) x)) :
    RowI w' g (sumL C zs.length) ∧ Touch (· = b) w w' ∧ ∀ m, HoldM w0 ((w'.drewN m).setCell ⟨g, t, none⟩ (.int .i64 (C t + x))) b v zs S A (updI C t (C t + x)) (updI D t (min (D t + x) 1099511627776)) g := by
  have ht0 := (chgA_zero hE).1
  obtain ⟨C', D', hs, hl, ht⟩ := hd
  have hv := hs.inv h.inv
  rcases hs with ⟨e, _⟩ | ⟨_, j, e1, ht1, rfl, rfl⟩
  · exact absurd hE e
  · have : j = t := by omega
    subst this
    have hrow := h.row.other ht (fun e => h.ne.1 e)
    refine ⟨hrow, ht, fun m => ?_⟩
    have hr2 : RowI (w'.drewN m) g (sumL C zs.length) := hrow
    have hb : Below w0.heap.size w0 w' := h.below.trans (ht.below h.below.size (fun i hi => by have : i = b := hi; have := h.mt.own; omega))
    have hT : Touch (· = g) w' ((w'.drewN m).setCell ⟨g, j, none⟩ (.int .i64 (C j + x))) := touch_cell (touch_drewN _ _ _)
    refine ⟨hl.other hT (fun e => h.ne.1 e.symm) (fun k hk e => h.ne.2 k hk e), hv, ?_, h.ne, hb.trans (hT.below hb.size (fun i hi => by have : i = g := hi; have := h.own; omega)), h.own⟩
    rw [← sumL_set]
    exact (hr2.cell (by rw [sumL_len]; exact ht1)).2.2 _
end
end Go.Proofs.Ytjpahpbofgfgfaa
