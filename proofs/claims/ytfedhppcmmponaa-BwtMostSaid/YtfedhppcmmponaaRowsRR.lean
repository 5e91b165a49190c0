/-
  ROWS OF ROWS OF NUMBERS: what one is; rows of the call's own, appended to.
-/
import Derived.Test.YtfedhppcmmponaaInts
namespace Go.Proofs.Ytfedhppcmmponaa
open Go.RowKit
set_option linter.unusedVariables false
theorem info_slice : (Try.prog.info? 23).map (fun i => (i.zero, i.size, i.bytes)) = some (some (.slice none 0 0), 1, 24) := by kernel_rfl
/-- v is a row of rows, each in blocks below bn, the call's own. -/
def OwnRR (W : World) (B bn : Nat) (v : Value) (gs : List (List Int)) : Prop :=
  B ≤ bn ∧ bn ≤ W.heap.size ∧ (∀ k, v.ownBlock = some k → k < bn) ∧ ∃ vs : List Value, vs.length = gs.length ∧ W.ownsRow B 23 1 v gs.length vs ∧
    ∀ (i : Nat) (u : Value), vs[i]? = some u → ∃ g, gs[i]? = some g ∧ OwnI W 0 u g ∧ ∀ k, u.ownBlock = some k → k < bn ∧ v.ownBlock ≠ some k
theorem OwnRR.nil (W : World) (B : Nat) (hB : B ≤ W.heap.size) : OwnRR W B B (.slice none 0 0) [] :=
  ⟨Nat.le_refl _, hB, fun k h => by simp [Value.ownBlock] at h, [], rfl, World.ownsRow_nil _ _ _ _, fun i u h => by simp at h⟩
theorem OwnRR.below {W W' : World} {B bn : Nat} {v : Value} {gs : List (List Int)} (h : OwnRR W B bn v gs) (hb : Below bn W W') : OwnRR W' B bn v gs := by
  obtain ⟨h1, h2, h3, vs, h4, h5, h6⟩ := h
  refine ⟨h1, Nat.le_trans h2 hb.size, h3, vs, h4, ownsRow_other h5 (fun k hk => hb.block k (h3 k hk)), fun i u hu => ?_⟩
  obtain ⟨g, hg, ho, hk⟩ := h6 i u hu
  exact ⟨g, hg, ho.same (fun k hkk => hb.block k (hk k hkk).1), hk⟩
/-- v reads as a row of rows. -/
def IsRR (w : World) (v : Value) (gs : List (List Int)) : Prop := ∃ a cap, v = .slice a gs.length cap ∧ ∀ (i : Nat) (g : List Int), gs[i]? = some g → ∃ b off u, a = some ⟨b, off, none⟩ ∧ w.cell? ⟨b, off + i, none⟩ = some u ∧ IsInts w u g
theorem IsRR.below {w w' : World} {v : Value} {gs : List (List Int)} (h : IsRR w v gs) (hb : Below w.heap.size w w') : IsRR w' v gs := by
  obtain ⟨a, cap, hv, hc⟩ := h
  refine ⟨a, cap, hv, fun i g hg => ?_⟩
  obtain ⟨b, off, u, ha, hcell, hi⟩ := hc i g hg
  exact ⟨b, off, u, ha, (hb.cell (cell_lt hcell)).trans hcell, hi.below hb⟩
theorem OwnRR.rr {W : World} {B bn : Nat} {v : Value} {gs : List (List Int)} (h : OwnRR W B bn v gs) : IsRR W v gs := by
  obtain ⟨h1, h2, h3, vs, h4, h5, h6⟩ := h
  rcases h5.2 with ⟨rfl, h0⟩ | ⟨g, cap, cur, rfl, _, hg, _⟩
  · obtain rfl : gs = [] := List.eq_nil_of_length_eq_zero h0
    exact ⟨none, 0, rfl, fun i g hg => by simp at hg⟩
  · refine ⟨_, cap, rfl, fun i x hx => ?_⟩
    have hi := (List.getElem?_eq_some_iff.1 hx).1
    have hvi : vs[i]? = some (vs[i]'(by omega)) := List.getElem?_eq_getElem (by omega)
    obtain ⟨g', hg', ho, _⟩ := h6 i _ hvi
    rw [hx] at hg'
    cases hg'
    exact ⟨g, 0, _, rfl, by rw [Nat.zero_add, h5.cellAt i (by omega), hvi], ho.ints⟩
/-! ### Rows that lie anywhere below bn, but not in the outer row's own block -/
def OwnRI (W : World) (B bn : Nat) (v : Value) (gs : List (List Int)) : Prop :=
  B ≤ bn ∧ bn ≤ W.heap.size ∧ (∀ k, v.ownBlock = some k → k < bn) ∧ ∃ vs : List Value, vs.length = gs.length ∧ W.ownsRow B 23 1 v gs.length vs ∧
    ∀ (i : Nat) (u : Value), vs[i]? = some u → ∃ g, gs[i]? = some g ∧ IsInts W u g ∧ ∀ k, u.ownBlock = some k → B ≤ k ∧ k < bn ∧ v.ownBlock ≠ some k
theorem OwnRI.nil (W : World) (B : Nat) (hB : B ≤ W.heap.size) : OwnRI W B B (.slice none 0 0) [] :=
  ⟨Nat.le_refl _, hB, fun k h => by simp [Value.ownBlock] at h, [], rfl, World.ownsRow_nil _ _ _ _, fun i u h => by simp at h⟩
theorem IsInts.same {w w' : World} {v : Value} {zs : List Int} (h : IsInts w v zs) (he : ∀ k, v.ownBlock = some k → w'.heap[k]? = w.heap[k]?) : IsInts w' v zs := by
  obtain ⟨a, cap, rfl, hc⟩ := h
  refine ⟨a, cap, rfl, fun i x hx => ?_⟩
  obtain ⟨b, off, ha, hb⟩ := hc i x hx
  refine ⟨b, off, ha, ?_⟩
  rw [World.cell?_of_block (w := w) (a := ⟨b, off + i, none⟩) (he b (by rw [ha]; rfl))]
  exact hb
theorem OwnRI.below {W W' : World} {B bn : Nat} {v : Value} {gs : List (List Int)} (h : OwnRI W B bn v gs) (hb : Below bn W W') : OwnRI W' B bn v gs := by
  obtain ⟨h1, h2, h3, vs, h4, h5, h6⟩ := h
  refine ⟨h1, Nat.le_trans h2 hb.size, h3, vs, h4, ownsRow_other h5 (fun k hk => hb.block k (h3 k hk)), fun i u hu => ?_⟩
  obtain ⟨g, hg, ho, hk⟩ := h6 i u hu
  exact ⟨g, hg, ho.same (fun k hkk => hb.block k (hk k hkk).2.1), hk⟩
theorem OwnRI.same {W W' : World} {B bn : Nat} {v : Value} {gs : List (List Int)} (h : OwnRI W B bn v gs) (he : ∀ k, B ≤ k → k < bn → W'.heap[k]? = W.heap[k]?) (hs : W.heap.size ≤ W'.heap.size) : OwnRI W' B bn v gs := by
  obtain ⟨h1, h2, h3, vs, h4, h5, h6⟩ := h
  refine ⟨h1, Nat.le_trans h2 hs, h3, vs, h4, ownsRow_other h5 (fun k hk => he k (World.ownsRow.lt h5 k hk).1 (h3 k hk)), fun i u hu => ?_⟩
  obtain ⟨g, hg, ho, hk⟩ := h6 i u hu
  exact ⟨g, hg, ho.same (fun k hkk => he k (hk k hkk).1 (hk k hkk).2.1), hk⟩
theorem OwnRI.up {W : World} {B bn b2 : Nat} {v : Value} {gs : List (List Int)} (h : OwnRI W B bn v gs) (h1 : bn ≤ b2) (h2 : b2 ≤ W.heap.size) : OwnRI W B b2 v gs := by
  obtain ⟨k1, k2, k3, vs, k4, k5, k6⟩ := h
  refine ⟨Nat.le_trans k1 h1, h2, fun k hk => Nat.lt_of_lt_of_le (k3 k hk) h1, vs, k4, k5, fun i u hu => ?_⟩
  obtain ⟨g, hg, ho, hk⟩ := k6 i u hu
  exact ⟨g, hg, ho, fun k hkk => ⟨(hk k hkk).1, Nat.lt_of_lt_of_le (hk k hkk).2.1 h1, (hk k hkk).2.2⟩⟩
theorem OwnRI.rr {W : World} {B bn : Nat} {v : Value} {gs : List (List Int)} (h : OwnRI W B bn v gs) : IsRR W v gs := by
  obtain ⟨h1, h2, h3, vs, h4, h5, h6⟩ := h
  rcases h5.2 with ⟨rfl, h0⟩ | ⟨g, cap, cur, rfl, _, hg, _⟩
  · obtain rfl : gs = [] := List.eq_nil_of_length_eq_zero h0
    exact ⟨none, 0, rfl, fun i g hg => by simp at hg⟩
  · refine ⟨_, cap, rfl, fun i x hx => ?_⟩
    have hi := (List.getElem?_eq_some_iff.1 hx).1
    have hvi : vs[i]? = some (vs[i]'(by omega)) := List.getElem?_eq_getElem (by omega)
    obtain ⟨g', hg', ho, _⟩ := h6 i _ hvi
    rw [hx] at hg'
    cases hg'
    exact ⟨g, 0, _, rfl, by rw [Nat.zero_add, h5.cellAt i (by omega), hvi], ho⟩
theorem OwnRI.slice {W : World} {B bn : Nat} {v : Value} {gs : List (List Int)} (h : OwnRI W B bn v gs) : ∃ a cap, v = .slice a gs.length cap := by
  obtain ⟨a, cap, hv, _⟩ := h.rr
  exact ⟨a, cap, hv⟩
theorem OwnRI.lt {W : World} {B bn : Nat} {v : Value} {gs : List (List Int)} (h : OwnRI W B bn v gs) : ∀ k, v.ownBlock = some k → B ≤ k ∧ k < bn := by
  obtain ⟨h1, h2, h3, vs, h4, h5, h6⟩ := h
  exact fun k hk => ⟨(World.ownsRow.lt h5 k hk).1, h3 k hk⟩
end Go.Proofs.Ytfedhppcmmponaa
