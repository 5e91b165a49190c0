/-
  ROWS OF ROWS OF NUMBERS: what one is; rows of the call's own, appended to.
-/
import Derived.Test.YtgdgjalfabffcaaInts
namespace Go.Proofs.Ytgdgjalfabffcaa
open Go.RowKit
set_option linter.unusedVariables false
theorem info_slice : (Try.prog.info? 28).map (fun i => (i.zero, i.size, i.bytes)) = some (some (.slice none 0 0), 1, 24) := by kernel_rfl
/-- v is a row of rows, each in blocks below bn, the call's own. -/
def OwnRR (W : World) (B bn : Nat) (v : Value) (gs : List (List Int)) : Prop :=
  B ≤ bn ∧ bn ≤ W.heap.size ∧ (∀ k, v.ownBlock = some k → k < bn) ∧ ∃ vs : List Value, vs.length = gs.length ∧ W.ownsRow B 28 1 v gs.length vs ∧
    ∀ (i : Nat) (u : Value), vs[i]? = some u → ∃ g, gs[i]? = some g ∧ OwnI W 0 u g ∧ ∀ k, u.ownBlock = some k → k < bn ∧ v.ownBlock ≠ some k
theorem OwnRR.nil (W : World) (B : Nat) (hB : B ≤ W.heap.size) : OwnRR W B B (.slice none 0 0) [] :=
  ⟨Nat.le_refl _, hB, fun k h => by simp [Value.ownBlock] at h, [], rfl, World.ownsRow_nil _ _ _ _, fun i u h => by simp at h⟩
theorem OwnRR.below {W W' : World} {B bn : Nat} {v : Value} {gs : List (List Int)} (h : OwnRR W B bn v gs) (hb : Below bn W W') : OwnRR W' B bn v gs := by
  obtain ⟨h1, h2, h3, vs, h4, h5, h6⟩ := h
  refine ⟨h1, Nat.le_trans h2 hb.size, h3, vs, h4, ownsRow_other h5 (fun k hk => hb.block k (h3 k hk)), fun i u hu => ?_⟩
  obtain ⟨g, hg, ho, hk⟩ := h6 i u hu
  exact ⟨g, hg, ho.same (fun k hkk => hb.block k (hk k hkk).1), hk⟩
/-- v reads as a row of rows. -/
def IsRR (w : World) (v : Value) (gs : List (List Int)) : Prop := ∃ a cap, v = .slice a gs.length cap ∧ ∀ (i : Nat) (g : List Int), gs[i]? = some g → ∃ b off u, a = some ⟨b, off, none⟩ ∧ w.cell? ⟨b, off + i, none⟩ = some u ∧ IsInts w u g
theorem IsRR.below {w w' : World} {v : Value} {gs : List (List Int)} (h : IsRR w v gs) (hb : Below w.heap.size w w') : IsRR w' v gs := by
  obtain ⟨a, cap, hv, hc⟩ := h
  refine ⟨a, cap, hv, fun i g hg => ?_⟩
  obtain ⟨b, off, u, ha, hcell, hi⟩ := hc i g hg
  exact ⟨b, off, u, ha, (hb.cell (cell_lt hcell)).trans hcell, hi.below hb⟩
theorem OwnRR.rr {W : World} {B bn : Nat} {v : Value} {gs : List (List Int)} (h : OwnRR W B bn v gs) : IsRR W v gs := by
  obtain ⟨h1, h2, h3, vs, h4, h5, h6⟩ := h
  rcases h5.2 with ⟨rfl, h0⟩ | ⟨g, cap, cur, rfl, _, hg, _⟩
  · obtain rfl : gs = [] := List.eq_nil_of_length_eq_zero h0
    exact ⟨none, 0, rfl, fun i g hg => by simp at hg⟩
  · refine ⟨_, cap, rfl, fun i x hx => ?_⟩
    have hi := (List.getElem?_eq_some_iff.1 hx).1
    have hvi : vs[i]? = some (vs[i]'(by omega)) := List.getElem?_eq_getElem (by omega)
    obtain ⟨g', hg', ho, _⟩ := h6 i _ hvi
    rw [hx] at hg'
    cases hg'
    exact ⟨g, 0, _, rfl, by rw [Nat.zero_add, h5.cellAt i (by omega), hvi], ho.ints⟩
set_option maxHeartbeats 1000000 in
theorem push_row {ops : Array Oper} {rest : List Oper} {o : Oper} {a : Act} {Q : Exit → Act → World → Prop} (W : World) (hgd : o.guard = none) (s x : Operand)
    (ho : o.op = .call { callee := .builtin .append, args := #[s, x], argTypes := #[49, 49] })
    (B bn : Nat) (v : Value) (gs : List (List Int)) (u : Value) (g : List Int) (hown : OwnRR W B bn v gs) (hu : OwnI W bn u g) (hs : a.eval s = v) (hx : a.eval x = .slice (some ⟨W.heap.size, 0, none⟩) 1 1)
    (hlen : gs.length + 1 ≤ 1099511627776)
    (h : ∀ v' w', OwnRR w' B w'.heap.size v' (gs ++ [g]) → Below B W w' → wpList Try.prog ops Q rest (a.put o.dst v') w') :
    wpList Try.prog ops Q (o :: rest) a (W.alloc (.cells #[u] 28)) := by
  obtain ⟨i0, hi, hz0, hz1, hz2⟩ := info_parts info_slice
  obtain ⟨h1, h2, h3, vs, h4, h5, h6⟩ := hown
  refine wpList_append_own2 hgd s x 49 ho B 28 i0 (.slice none 0 0) 1 24 Try.underlying49 hi hz0 hz1 hz2 rfl (by decide) v gs.length vs (World.ownsRow.alloc h5 _) hs ⟨W.heap.size, 0, none⟩ 1 1 [u] hx rfl ?_ ?_ ?_ ?_ ?_ ?_
  · exact news_new _ _ _ _ rfl
  · intro y hy
    rw [List.mem_singleton] at hy
    subst hy
    obtain ⟨a1, c1, rfl⟩ := hu.slice
    rfl
  · unfold maxLen; omega
  · omega
  · simp; omega
  · intro v' w' hown' hg hv
    have hBW : Below B W w' := Below.grown ((Below.refl B W).alloc (by omega) _) hg (by simp; omega) (fun j hj => (World.ownsRow.lt h5 j hj).1)
    have keep : ∀ k, k < W.heap.size → v.ownBlock ≠ some k → w'.heap[k]? = W.heap[k]? := fun k hk hne => (hg.block k (by simp; omega) (fun e => hne e.symm)).trans (alloc_old hk)
    have hvv : ∀ k, v'.ownBlock = some k → v.ownBlock = some k ∨ W.heap.size ≤ k := fun k hk => (hv k hk).imp id (fun h => by simp at h; omega)
    refine h v' w' ⟨Nat.le_trans (by omega) hBW.size, Nat.le_refl _, fun k hk => (World.ownsRow.lt hown' k hk).2, vs ++ [u], by simp [h4], by rw [List.length_append]; exact hown', fun i y hy => ?_⟩ hBW
    rw [List.getElem?_append] at hy
    split at hy
    · rename_i hlt
      obtain ⟨g', hg', ho', hk'⟩ := h6 i y hy
      refine ⟨g', by rw [List.getElem?_append_left (by omega)]; exact hg', ho'.same (fun k hk => keep k (by have := (hk' k hk).1; omega) (hk' k hk).2), fun k hk => ⟨by have := (hk' k hk).1; have := hBW.size; omega, fun e => ?_⟩⟩
      rcases hvv k e with h | h
      · exact (hk' k hk).2 h
      · have := (hk' k hk).1; omega
    · rename_i hge
      have hi0 : i - vs.length = 0 := by
        by_cases h0 : i - vs.length = 0
        · exact h0
        · exfalso
          rw [List.getElem?_eq_none (by simp; omega)] at hy
          cases hy
      rw [hi0] at hy
      simp only [List.getElem?_cons_zero, Option.some.injEq] at hy
      subst hy
      have hne : ∀ k, u.ownBlock = some k → v.ownBlock ≠ some k := fun k hk e => by have h7 := (hu.lt k hk).1; have h8 := h3 k e; omega
      refine ⟨g, by rw [show i = gs.length by omega]; simp, (hu.lower (Nat.zero_le _)).same (fun k hk => keep k (hu.lt k hk).2 (hne k hk)), fun k hk => ⟨by have := (hu.lt k hk).2; have := hBW.size; omega, fun e => ?_⟩⟩
      rcases hvv k e with h | h
      · exact hne k hk h
      · have := (hu.lt k hk).2; omega
/-! ### Rows that lie anywhere below bn, but not in the outer row's own block -/
def OwnRI (W : World) (B bn : Nat) (v : Value) (gs : List (List Int)) : Prop :=
  B ≤ bn ∧ bn ≤ W.heap.size ∧ (∀ k, v.ownBlock = some k → k < bn) ∧ ∃ vs : List Value, vs.length = gs.length ∧ W.ownsRow B 28 1 v gs.length vs ∧
    ∀ (i : Nat) (u : Value), vs[i]? = some u → ∃ g, gs[i]? = some g ∧ IsInts W u g ∧ ∀ k, u.ownBlock = some k → B ≤ k ∧ k < bn ∧ v.ownBlock ≠ some k
theorem OwnRI.nil (W : World) (B : Nat) (hB : B ≤ W.heap.size) : OwnRI W B B (.slice none 0 0) [] :=
  ⟨Nat.le_refl _, hB, fun k h => by simp [Value.ownBlock] at h, [], rfl, World.ownsRow_nil _ _ _ _, fun i u h => by simp at h⟩
theorem IsInts.same {w w' : World} {v : Value} {zs : List Int} (h : IsInts w v zs) (he : ∀ k, v.ownBlock = some k → w'.heap[k]? = w.heap[k]?) : IsInts w' v zs := by
  obtain ⟨a, cap, rfl, hc⟩ := h
  refine ⟨a, cap, rfl, fun i x hx => ?_⟩
  obtain ⟨b, off, ha, hb⟩ := hc i x hx
  refine ⟨b, off, ha, ?_⟩
  rw [World.cell?_of_block (w := w) (a := ⟨b, off + i, none⟩) (he b (by rw [ha]; rfl))]
  exact hb
theorem OwnRI.below {W W' : World} {B bn : Nat} {v : Value} {gs : List (List Int)} (h : OwnRI W B bn v gs) (hb : Below bn W W') : OwnRI W' B bn v gs := by
  obtain ⟨h1, h2, h3, vs, h4, h5, h6⟩ := h
  refine ⟨h1, Nat.le_trans h2 hb.size, h3, vs, h4, ownsRow_other h5 (fun k hk => hb.block k (h3 k hk)), fun i u hu => ?_⟩
  obtain ⟨g, hg, ho, hk⟩ := h6 i u hu
  exact ⟨g, hg, ho.same (fun k hkk => hb.block k (hk k hkk).2.1), hk⟩
theorem OwnRI.same {W W' : World} {B bn : Nat} {v : Value} {gs : List (List Int)} (h : OwnRI W B bn v gs) (he : ∀ k, B ≤ k → k < bn → W'.heap[k]? = W.heap[k]?) (hs : W.heap.size ≤ W'.heap.size) : OwnRI W' B bn v gs := by
  obtain ⟨h1, h2, h3, vs, h4, h5, h6⟩ := h
  refine ⟨h1, Nat.le_trans h2 hs, h3, vs, h4, ownsRow_other h5 (fun k hk => he k (World.ownsRow.lt h5 k hk).1 (h3 k hk)), fun i u hu => ?_⟩
  obtain ⟨g, hg, ho, hk⟩ := h6 i u hu
  exact ⟨g, hg, ho.same (fun k hkk => he k (hk k hkk).1 (hk k hkk).2.1), hk⟩
theorem OwnRI.up {W : World} {B bn b2 : Nat} {v : Value} {gs : List (List Int)} (h : OwnRI W B bn v gs) (h1 : bn ≤ b2) (h2 : b2 ≤ W.heap.size) : OwnRI W B b2 v gs := by
  obtain ⟨k1, k2, k3, vs, k4, k5, k6⟩ := h
  refine ⟨Nat.le_trans k1 h1, h2, fun k hk => Nat.lt_of_lt_of_le (k3 k hk) h1, vs, k4, k5, fun i u hu => ?_⟩
  obtain ⟨g, hg, ho, hk⟩ := k6 i u hu
  exact ⟨g, hg, ho, fun k hkk => ⟨(hk k hkk).1, Nat.lt_of_lt_of_le (hk k hkk).2.1 h1, (hk k hkk).2.2⟩⟩
theorem OwnRI.rr {W : World} {B bn : Nat} {v : Value} {gs : List (List Int)} (h : OwnRI W B bn v gs) : IsRR W v gs := by
  obtain ⟨h1, h2, h3, vs, h4, h5, h6⟩ := h
  rcases h5.2 with ⟨rfl, h0⟩ | ⟨g, cap, cur, rfl, _, hg, _⟩
  · obtain rfl : gs = [] := List.eq_nil_of_length_eq_zero h0
    exact ⟨none, 0, rfl, fun i g hg => by simp at hg⟩
  · refine ⟨_, cap, rfl, fun i x hx => ?_⟩
    have hi := (List.getElem?_eq_some_iff.1 hx).1
    have hvi : vs[i]? = some (vs[i]'(by omega)) := List.getElem?_eq_getElem (by omega)
    obtain ⟨g', hg', ho, _⟩ := h6 i _ hvi
    rw [hx] at hg'
    cases hg'
    exact ⟨g, 0, _, rfl, by rw [Nat.zero_add, h5.cellAt i (by omega), hvi], ho⟩
theorem OwnRI.slice {W : World} {B bn : Nat} {v : Value} {gs : List (List Int)} (h : OwnRI W B bn v gs) : ∃ a cap, v = .slice a gs.length cap := by
  obtain ⟨a, cap, hv, _⟩ := h.rr
  exact ⟨a, cap, hv⟩
theorem OwnRI.lt {W : World} {B bn : Nat} {v : Value} {gs : List (List Int)} (h : OwnRI W B bn v gs) : ∀ k, v.ownBlock = some k → B ≤ k ∧ k < bn := by
  obtain ⟨h1, h2, h3, vs, h4, h5, h6⟩ := h
  exact fun k hk => ⟨(World.ownsRow.lt h5 k hk).1, h3 k hk⟩
set_option maxHeartbeats 1000000 in
theorem push_rowI {ops : Array Oper} {rest : List Oper} {o : Oper} {a : Act} {Q : Exit → Act → World → Prop} (W : World) (hgd : o.guard = none) (s x : Operand)
    (ho : o.op = .call { callee := .builtin .append, args := #[s, x], argTypes := #[49, 49] })
    (B bn : Nat) (v : Value) (gs : List (List Int)) (u : Value) (g : List Int) (hown : OwnRI W B bn v gs) (hu : IsInts W u g) (hul : ∀ k, u.ownBlock = some k → bn ≤ k ∧ k < W.heap.size) (hs : a.eval s = v) (hx : a.eval x = .slice (some ⟨W.heap.size, 0, none⟩) 1 1)
    (hlen : gs.length + 1 ≤ 1099511627776)
    (h : ∀ v' w', OwnRI w' B w'.heap.size v' (gs ++ [g]) → Below B W w' → (∀ k, k < W.heap.size → v.ownBlock ≠ some k → w'.heap[k]? = W.heap[k]?) → (∀ k, v'.ownBlock = some k → v.ownBlock = some k ∨ W.heap.size ≤ k) → wpList Try.prog ops Q rest (a.put o.dst v') w') :
    wpList Try.prog ops Q (o :: rest) a (W.alloc (.cells #[u] 28)) := by
  obtain ⟨i0, hi, hz0, hz1, hz2⟩ := info_parts info_slice
  obtain ⟨h1, h2, h3, vs, h4, h5, h6⟩ := hown
  refine wpList_append_own2 hgd s x 49 ho B 28 i0 (.slice none 0 0) 1 24 Try.underlying49 hi hz0 hz1 hz2 rfl (by decide) v gs.length vs (World.ownsRow.alloc h5 _) hs ⟨W.heap.size, 0, none⟩ 1 1 [u] hx rfl ?_ ?_ ?_ ?_ ?_ ?_
  · exact news_new _ _ _ _ rfl
  · intro y hy
    rw [List.mem_singleton] at hy
    subst hy
    obtain ⟨a1, c1, rfl, _⟩ := hu
    rfl
  · unfold maxLen; omega
  · omega
  · simp; omega
  · intro v' w' hown' hg hv
    have hBW : Below B W w' := Below.grown ((Below.refl B W).alloc (by omega) _) hg (by simp; omega) (fun j hj => (World.ownsRow.lt h5 j hj).1)
    have keep : ∀ k, k < W.heap.size → v.ownBlock ≠ some k → w'.heap[k]? = W.heap[k]? := fun k hk hne => (hg.block k (by simp; omega) (fun e => hne e.symm)).trans (alloc_old hk)
    have hvv : ∀ k, v'.ownBlock = some k → v.ownBlock = some k ∨ W.heap.size ≤ k := fun k hk => (hv k hk).imp id (fun h => by simp at h; omega)
    refine h v' w' ⟨Nat.le_trans (by omega) hBW.size, Nat.le_refl _, fun k hk => (World.ownsRow.lt hown' k hk).2, vs ++ [u], by simp [h4], by rw [List.length_append]; exact hown', fun i y hy => ?_⟩ hBW keep hvv
    rw [List.getElem?_append] at hy
    split at hy
    · rename_i hlt
      obtain ⟨g', hg', ho', hk'⟩ := h6 i y hy
      refine ⟨g', by rw [List.getElem?_append_left (by omega)]; exact hg', ho'.same (fun k hk => keep k (by have := (hk' k hk).2.1; omega) (hk' k hk).2.2), fun k hk => ⟨(hk' k hk).1, by have := (hk' k hk).2.1; have := hBW.size; omega, fun e => ?_⟩⟩
      rcases hvv k e with h | h
      · exact (hk' k hk).2.2 h
      · have := (hk' k hk).2.1; omega
    · rename_i hge
      have hi0 : i - vs.length = 0 := by
        by_cases h0 : i - vs.length = 0
        · exact h0
        · exfalso
          rw [List.getElem?_eq_none (by simp; omega)] at hy
          cases hy
      rw [hi0] at hy
      simp only [List.getElem?_cons_zero, Option.some.injEq] at hy
      subst hy
      have hne : ∀ k, u.ownBlock = some k → v.ownBlock ≠ some k := fun k hk e => by have h7 := (hul k hk).1; have h8 := h3 k e; omega
      refine ⟨g, by rw [show i = gs.length by omega]; simp, hu.same (fun k hk => keep k (hul k hk).2 (hne k hk)), fun k hk => ⟨by have := (hul k hk).1; omega, by have := (hul k hk).2; have := hBW.size; omega, fun e => ?_⟩⟩
      rcases hvv k e with h | h
      · exact hne k hk h
      · have := (hul k hk).2; omega
end Go.Proofs.Ytgdgjalfabffcaa
