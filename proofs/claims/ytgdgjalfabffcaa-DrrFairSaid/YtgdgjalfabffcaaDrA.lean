/-
  LAYER 30 (package drr): tenants in a row; a scheduler's blocks; what turns, and what stays.
-/
import Derived.Test.YtgdgjalfabffcaaQuE
import Derived.Test.YtgdgjalfabffcaaCells
import Derived.Shelf.Abstract
namespace Go.Proofs.Ytgdgjalfabffcaa
open Go.RowKit
set_option linter.unusedVariables false
set_option linter.unusedSimpArgs false
/-! ### Tenants -/
def updF {α : Type} (F : Nat → α) (i : Nat) (x : α) : Nat → α := fun k => if k = i then x else F k
theorem updF_same {α : Type} (F : Nat → α) (i : Nat) (x : α) : updF F i x i = x := if_pos rfl
theorem updF_ne {α : Type} (F : Nat → α) {i k : Nat} (x : α) (h : k ≠ i) : updF F i x k = F k := if_neg h
def tenF (p : Nat → Value) (q c : Nat → Int) (k : Nat) : Value := if k % 3 = 0 then p (k / 3) else .int .i64 (if k % 3 = 1 then q (k / 3) else c (k / 3))
/-- Block g is n tenants: queues p, quanta q, credits c. -/
def Ten (w : World) (g n : Nat) (p : Nat → Value) (q c : Nat → Int) : Prop := w.heap[g]? = some (.cells (cellsF (3 * n) (tenF p q c)) 83 (0, 0))
section
variable {w w' : World} {g n : Nat} {p : Nat → Value} {q c : Nat → Int}
theorem Ten.lt (h : Ten w g n p q c) : g < w.heap.size := (Array.getElem?_eq_some_iff.1 h).1
theorem Ten.same (h : Ten w g n p q c) (he : w'.heap[g]? = w.heap[g]?) : Ten w' g n p q c := he.trans h
theorem Ten.cells (h : Ten w g n p q c) {i : Nat} (hi : i < n) : w.cell? ⟨g, i * 3, none⟩ = some (p i) ∧ w.cell? ⟨g, i * 3 + 1, none⟩ = some (.int .i64 (q i)) ∧ w.cell? ⟨g, i * 3 + 2, none⟩ = some (.int .i64 (c i)) := by
  have key : ∀ j, j < 3 → w.cell? ⟨g, i * 3 + j, none⟩ = some (tenF p q c (i * 3 + j)) := fun j hj => (cell_of_row _ _ _ _ _ _ h).trans (cellsF_get _ _ (by omega))
  refine ⟨(key 0 (by omega)).trans ?_, (key 1 (by omega)).trans ?_, (key 2 (by omega)).trans ?_⟩
  · unfold tenF
    rw [if_pos (by omega), show (i * 3 + 0) / 3 = i by omega]
  · unfold tenF
    rw [if_neg (by omega), if_pos (by omega), show (i * 3 + 1) / 3 = i by omega]
  · unfold tenF
    rw [if_neg (by omega), if_neg (by omega), show (i * 3 + 2) / 3 = i by omega]
theorem Ten.frozen (h : Ten w g n p q c) (o : Nat) : w.frozen? ⟨g, o, none⟩ = false := frozen_of_row _ _ _ _ _ h
theorem Ten.ext {p' : Nat → Value} {q' c' : Nat → Int} (h : Ten w g n p q c) (hp : ∀ i, i < n → p i = p' i) (hq : ∀ i, i < n → q i = q' i) (hc : ∀ i, i < n → c i = c' i) : Ten w g n p' q' c' := by
  have e : cellsF (3 * n) (tenF p q c) = cellsF (3 * n) (tenF p' q' c') := by
    unfold cellsF
    congr 1
    refine List.map_congr_left fun k hk => ?_
    have hk' := List.mem_range.1 hk
    unfold tenF
    rw [hp (k / 3) (by omega), hq (k / 3) (by omega), hc (k / 3) (by omega)]
  unfold Ten at h ⊢
  rw [h, e]
theorem Ten.set (h : Ten w g n p q c) {i : Nat} (hi : i < n) (v : Value) (x : Int) : Ten (w.setCell ⟨g, i * 3, none⟩ v) g n (updF p i v) q c ∧ Ten (w.setCell ⟨g, i * 3 + 1, none⟩ (.int .i64 x)) g n p (updF q i x) c ∧ Ten (w.setCell ⟨g, i * 3 + 2, none⟩ (.int .i64 x)) g n p q (updF c i x) := by
  have key : ∀ (j : Nat) (u : Value) (p' : Nat → Value) (q' c' : Nat → Int), (∀ k, upd (tenF p q c) (i * 3 + j) u k = tenF p' q' c' k) → Ten (w.setCell ⟨g, i * 3 + j, none⟩ u) g n p' q' c' := fun j u p' q' c' hk => by
    have := heap_setCell_same w g (i * 3 + j) _ _ u h
    rw [cellsF_set] at this
    unfold Ten
    rw [this, show upd (tenF p q c) (i * 3 + j) u = tenF p' q' c' from funext hk]
  refine ⟨key 0 _ _ _ _ fun k => ?_, key 1 _ _ _ _ fun k => ?_, key 2 _ _ _ _ fun k => ?_⟩
  · unfold upd tenF updF
    by_cases e : k = i * 3 + 0
    · rw [if_pos e, if_pos (by omega), if_pos (by omega)]
    · rw [if_neg e]
      by_cases e0 : k % 3 = 0
      · rw [if_pos e0, if_pos e0, if_neg (by omega)]
      · rw [if_neg e0, if_neg e0]
  · unfold upd tenF updF
    by_cases e : k = i * 3 + 1
    · rw [if_pos e, if_neg (by omega), if_pos (by omega), if_pos (by omega)]
    · rw [if_neg e]
      by_cases e0 : k % 3 = 0
      · rw [if_pos e0, if_pos e0]
      · rw [if_neg e0, if_neg e0]
        by_cases e1 : k % 3 = 1
        · rw [if_pos e1, if_pos e1, if_neg (by omega)]
        · rw [if_neg e1, if_neg e1]
  · unfold upd tenF updF
    by_cases e : k = i * 3 + 2
    · rw [if_pos e, if_neg (by omega), if_neg (by omega), if_pos (by omega)]
    · rw [if_neg e]
      by_cases e0 : k % 3 = 0
      · rw [if_pos e0, if_pos e0]
      · rw [if_neg e0, if_neg e0]
        by_cases e1 : k % 3 = 1
        · rw [if_pos e1, if_pos e1]
        · rw [if_neg e1, if_neg e1, if_neg (by omega)]
end
theorem infoTen : (Try.prog.info? 83).map (fun i => (i.zero, i.size, i.bytes)) = some (some (.agg #[.pointer none, .int .i64 0, .int .i64 0]), 3, 24) := by kernel_rfl
def tenZ : Array Value := #[.pointer none, .int .i64 0, .int .i64 0]
def nilQ (_ : Nat) : Value := .pointer none
def zeroI (_ : Nat) : Int := 0
theorem tenZ_get (i : Nat) (h : i < 3) : tenZ[i]! = if i = 0 then .pointer none else .int .i64 0 := by
  match i, h with
  | 0, _ => rfl
  | 1, _ => rfl
  | 2, _ => rfl
theorem Ten.made (w : World) (n : Nat) : Ten (w.alloc (.cells (madeCells tenZ (n * 3)) 83)) w.heap.size n nilQ zeroI zeroI := by
  have e : madeCells tenZ (n * 3) = cellsF (3 * n) (tenF nilQ zeroI zeroI) := by
    unfold madeCells cellsF
    apply Array.toList_inj.1
    rw [Array.toList_map, Array.toList_range, Nat.mul_comm n 3]
    show _ = (List.range (3 * n)).map _
    refine List.map_congr_left fun i _ => ?_
    show tenZ[i % 3]! = _
    rw [tenZ_get _ (Nat.mod_lt _ (by decide))]
    unfold tenF nilQ zeroI
    split
    · rfl
    · split <;> rfl
  unfold Ten
  rw [e]
  exact heap_alloc_new _ _
set_option maxHeartbeats 1000000 in
theorem make_tens (n : Nat) (hn : n ≤ 1000) (W : World) : (Instr.makeSlice 79 (.int .i64 (n : Int)) (.int .i64 (n : Int))).run Try.prog W = .ok (.slice (some ⟨W.heap.size, 0, none⟩) n n) (W.alloc (.cells (madeCells tenZ (n * 3)) 83)) := by
  obtain ⟨i0, hi, hz0, hz1, hz2⟩ := info_parts infoTen
  have := run_make (P := Try.prog) W 79 83 i0 (.agg #[.pointer none, .int .i64 0, .int .i64 0]) Try.underlying79 hi hz0 .i64 .i64 (n : Int) (n : Int) (by omega) (by omega) (by rw [hz2]; omega) (by omega)
  rw [hz1] at this
  simpa [Value.cells, tenZ] using this
/-! ### A scheduler's blocks -/
def limQ (n i : Nat) : Int := if i = n then (n : Int) else 1099511627776
def ptrQ (Q : Nat → Nat) (i : Nat) : Value := .pointer (some ⟨Q i, 0, none⟩)
/-- All blocks of a scheduler. -/
def dfoot (s g n : Nat) (Q : Nat → Nat) (V : Nat → Value) (k : Nat) : Prop := k = s ∨ k = g ∨ ∃ i, i ≤ n ∧ foot (Q i) (V i) k
/-- Block s is a scheduler of n tenants in block g; queue i is in block Q i, its row V i; the ring is queue n. -/
structure IsDm (w : World) (B s g n : Nat) (Q : Nat → Nat) (V : Nat → Value) (q c : Nat → Int) (J : Nat → List Int) : Prop where
  obj : w.heap[s]? = some (.cells #[.slice (some ⟨g, 0, none⟩) n n, .pointer (some ⟨Q n, 0, none⟩)] 81 (0, 0))
  ten : Ten w g n (ptrQ Q) q c
  qs : ∀ i, i ≤ n → IsQ w B (Q i) (limQ n i) (V i) (J i)
  apart : ∀ i j, i ≤ n → j ≤ n → i ≠ j → ∀ k, foot (Q i) (V i) k → ¬ foot (Q j) (V j) k
  own : ∀ i, i ≤ n → ∀ k, foot (Q i) (V i) k → k ≠ s ∧ k ≠ g
  ne : s ≠ g
  base : B ≤ s ∧ B ≤ g
section
variable {w w' : World} {B s g n : Nat} {Q : Nat → Nat} {V : Nat → Value} {q c : Nat → Int} {J : Nat → List Int}
theorem IsDm.cells (h : IsDm w B s g n Q V q c J) : w.cell? ⟨s, 0, none⟩ = some (.slice (some ⟨g, 0, none⟩) n n) ∧ w.cell? ⟨s, 1, none⟩ = some (.pointer (some ⟨Q n, 0, none⟩)) :=
  ⟨by rw [cell_of_row _ _ 0 _ _ _ h.obj]; rfl, by rw [cell_of_row _ _ 1 _ _ _ h.obj]; rfl⟩
theorem IsDm.lt (h : IsDm w B s g n Q V q c J) : ∀ k, dfoot s g n Q V k → B ≤ k ∧ k < w.heap.size := by
  rintro k (rfl | rfl | ⟨i, hi, hk⟩)
  · exact ⟨h.base.1, (Array.getElem?_eq_some_iff.1 h.obj).1⟩
  · exact ⟨h.base.2, h.ten.lt⟩
  · exact (h.qs i hi).lt k hk
theorem IsDm.same (h : IsDm w B s g n Q V q c J) (he : ∀ k, dfoot s g n Q V k → w'.heap[k]? = w.heap[k]?) : IsDm w' B s g n Q V q c J :=
  ⟨(he s (Or.inl rfl)).trans h.obj, h.ten.same (he g (Or.inr (Or.inl rfl))), fun i hi => (h.qs i hi).same (fun k hk => he k (Or.inr (Or.inr ⟨i, hi, hk⟩))), h.apart, h.own, h.ne, h.base⟩
theorem IsDm.far (h : IsDm w B s g n Q V q c J) (hb : Below w.heap.size w w') : IsDm w' B s g n Q V q c J := h.same fun k hk => hb.block k (h.lt k hk).2
theorem IsDm.other {S : Nat → Prop} (h : IsDm w B s g n Q V q c J) (ht : Touch S w w') (hS : ∀ k, dfoot s g n Q V k → ¬ S k) : IsDm w' B s g n Q V q c J := h.same fun k hk => ht.block k (h.lt k hk).2 (hS k hk)
theorem IsDm.ext {q' c' : Nat → Int} {J' : Nat → List Int} (h : IsDm w B s g n Q V q c J) (hq : ∀ i, i < n → q i = q' i) (hc : ∀ i, i < n → c i = c' i) (hJ : ∀ i, i ≤ n → J i = J' i) : IsDm w B s g n Q V q' c' J' :=
  ⟨h.obj, h.ten.ext (fun _ _ => rfl) hq hc, fun i hi => by rw [← hJ i hi]; exact h.qs i hi, h.apart, h.own, h.ne, h.base⟩
/-- What an act leaves. -/
def DStep (w w' : World) (B s g n : Nat) (Q : Nat → Nat) (V : Nat → Value) (q c : Nat → Int) (J : Nat → List Int) : Prop :=
  ∃ V', IsDm w' B s g n Q V' q c J ∧ Touch (dfoot s g n Q V) w w' ∧ (∀ k, dfoot s g n Q V' k → dfoot s g n Q V k ∨ w.heap.size ≤ k)
theorem DStep.refl (h : IsDm w B s g n Q V q c J) : DStep w w B s g n Q V q c J := ⟨V, h, Touch.refl _ _, fun k hk => Or.inl hk⟩
theorem DStep.below (h : IsDm w B s g n Q V q c J) (hb : Below w.heap.size w w') : DStep w w' B s g n Q V q c J := ⟨V, h.far hb, Touch.ofBelow hb, fun k hk => Or.inl hk⟩
/-- Two acts, one behind the other. -/
theorem DStep.comp {w1 w2 : World} {V1 : Nat → Value} {q2 c2 : Nat → Int} {J2 : Nat → List Int} (ht : Touch (dfoot s g n Q V) w w1) (hf : ∀ k, dfoot s g n Q V1 k → dfoot s g n Q V k ∨ w.heap.size ≤ k) (h2 : DStep w1 w2 B s g n Q V1 q2 c2 J2) : DStep w w2 B s g n Q V q2 c2 J2 := by
  obtain ⟨V2, a1, a2, a3⟩ := h2
  refine ⟨V2, a1, ht.trans a2 hf, fun k hk => ?_⟩
  rcases a3 k hk with h | h
  · exact hf k h
  · have := ht.size; exact Or.inr (by omega)
theorem DStep.ext {q' c' : Nat → Int} {J' : Nat → List Int} (h : DStep w w' B s g n Q V q c J) (hq : ∀ i, i < n → q i = q' i) (hc : ∀ i, i < n → c i = c' i) (hJ : ∀ i, i ≤ n → J i = J' i) : DStep w w' B s g n Q V q' c' J' := by
  obtain ⟨V', a1, a2, a3⟩ := h
  exact ⟨V', a1.ext hq hc hJ, a2, a3⟩
/-- One queue turns. -/
theorem IsDm.qstep {i : Nat} {zs : List Int} (h : IsDm w B s g n Q V q c J) (hi : i ≤ n) (hs : QStep w w' B (Q i) (limQ n i) (V i) zs) : DStep w w' B s g n Q V q c (updF J i zs) := by
  obtain ⟨v', a1, a2, a3⟩ := hs
  have hfi : ∀ k, foot (Q i) v' k → foot (Q i) (V i) k ∨ w.heap.size ≤ k := fun k hk => by
    rcases hk with rfl | hk
    · exact Or.inl (Or.inl rfl)
    · rcases a3 k hk with h | h
      · exact Or.inl (Or.inr h)
      · exact Or.inr h
  have hf : ∀ j, j ≤ n → ∀ k, foot (Q j) (updF V i v' j) k → foot (Q j) (V j) k ∨ (w.heap.size ≤ k ∧ j = i) := fun j hj k hk => by
    by_cases e : j = i
    · subst e
      rw [updF_same] at hk
      rcases hfi k hk with h | h
      · exact Or.inl h
      · exact Or.inr ⟨h, rfl⟩
    · rw [updF_ne V v' e] at hk
      exact Or.inl hk
  have keep : ∀ k, k < w.heap.size → ¬ foot (Q i) (V i) k → w'.heap[k]? = w.heap[k]? := fun k hk hn => a2.block k hk hn
  have hsl := (h.lt s (Or.inl rfl)).2
  have hgl := (h.lt g (Or.inr (Or.inl rfl))).2
  refine ⟨updF V i v', ⟨?_, ?_, fun j hj => ?_, fun j l hj hl hne k h1 h2 => ?_, fun j hj k hk => ?_, h.ne, h.base⟩, a2.mono (fun k hk => Or.inr (Or.inr ⟨i, hi, hk⟩)), fun k hk => ?_⟩
  · exact (keep s hsl (fun hf => (h.own i hi s hf).1 rfl)).trans h.obj
  · exact h.ten.same (keep g hgl (fun hf => (h.own i hi g hf).2 rfl))
  · by_cases e : j = i
    · subst e
      rw [updF_same, updF_same]
      exact a1
    · rw [updF_ne V v' e, updF_ne J zs e]
      exact (h.qs j hj).other a2 (fun k hk hki => h.apart j i hj hi e k hk hki)
  · rcases hf j hj k h1 with e1 | ⟨e1, e1'⟩
    · rcases hf l hl k h2 with e2 | ⟨e2, e2'⟩
      · exact h.apart j l hj hl hne k e1 e2
      · have := ((h.qs j hj).lt k e1).2; omega
    · rcases hf l hl k h2 with e2 | ⟨e2, e2'⟩
      · have := ((h.qs l hl).lt k e2).2; omega
      · exact hne (e1'.trans e2'.symm)
  · rcases hf j hj k hk with e1 | ⟨e1, _⟩
    · exact h.own j hj k e1
    · omega
  · rcases hk with rfl | rfl | ⟨j, hj, hk⟩
    · exact Or.inl (Or.inl rfl)
    · exact Or.inl (Or.inr (Or.inl rfl))
    · rcases hf j hj k hk with e1 | ⟨e1, _⟩
      · exact Or.inl (Or.inr (Or.inr ⟨j, hj, e1⟩))
      · exact Or.inr e1
/-- A credit turns. -/
theorem IsDm.setC {i : Nat} (h : IsDm w B s g n Q V q c J) (hi : i < n) (x : Int) : DStep w (w.setCell ⟨g, i * 3 + 2, none⟩ (.int .i64 x)) B s g n Q V q (updF c i x) J := by
  have keep : ∀ k, k ≠ g → (w.setCell ⟨g, i * 3 + 2, none⟩ (.int .i64 x)).heap[k]? = w.heap[k]? := fun k hk => heap_setCell_other w _ k _ hk
  refine ⟨V, ⟨(keep s h.ne).trans h.obj, (h.ten.set hi (.pointer none) x).2.2, fun j hj => (h.qs j hj).same (fun k hk => keep k (h.own j hj k hk).2), h.apart, h.own, h.ne, h.base⟩, (Touch.refl _ _).setCell (Or.inl (Or.inr (Or.inl rfl))) _, fun k hk => Or.inl hk⟩
end
end Go.Proofs.Ytgdgjalfabffcaa
