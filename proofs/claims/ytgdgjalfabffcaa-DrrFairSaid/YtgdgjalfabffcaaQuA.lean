/-
  LAYER 29 (package queue): a row of numbers that may begin anywhere in a block of its own: pushed, and cut.
-/
import Derived.Test.YtgdgjalfabffcaaInts
import Derived.ArgAppend
import Derived.Lib.LazyBuf
import Derived.Lib.SliceRun
namespace Go.Proofs.Ytgdgjalfabffcaa
open Go.RowKit
set_option linter.unusedVariables false
set_option linter.unusedSimpArgs false
/-- v is the row zs, in a block of its own from B on; it may begin anywhere there. -/
def QRow (w : World) (B : Nat) (v : Value) (zs : List Int) : Prop :=
  (v = .slice none 0 0 ∧ zs = []) ∨
  ∃ g off cap n f, v = .slice (some ⟨g, off, none⟩) zs.length cap ∧ B ≤ g ∧ w.rowIs g 3 n f ∧ zs.length ≤ cap ∧ cap ≤ maxLen ∧ off + cap ≤ n ∧ ∀ i, i < zs.length → f (off + i) = .int .i64 (zs.getD i 0)
section
variable {w w' : World} {B : Nat} {v : Value} {zs : List Int}
theorem QRow.nil (w : World) (B : Nat) : QRow w B (.slice none 0 0) [] := Or.inl ⟨rfl, rfl⟩
theorem QRow.lt (h : QRow w B v zs) : ∀ k, v.ownBlock = some k → B ≤ k ∧ k < w.heap.size := by
  intro k hk
  rcases h with ⟨rfl, _⟩ | ⟨g, off, cap, n, f, rfl, hB, hr, _⟩
  · simp [Value.ownBlock] at hk
  · simp [Value.ownBlock] at hk
    subst hk
    exact ⟨hB, hr.lt⟩
theorem QRow.same (h : QRow w B v zs) (he : ∀ k, v.ownBlock = some k → w'.heap[k]? = w.heap[k]?) : QRow w' B v zs := by
  rcases h with h | ⟨g, off, cap, n, f, rfl, hB, hr, h1⟩
  · exact Or.inl h
  · exact Or.inr ⟨g, off, cap, n, f, rfl, hB, hr.of_block (he g rfl), h1⟩
theorem QRow.lower {B2 : Nat} (h : QRow w B v zs) (hb : B2 ≤ B) : QRow w B2 v zs := by
  rcases h with h | ⟨g, off, cap, n, f, rfl, hB, h1⟩
  · exact Or.inl h
  · exact Or.inr ⟨g, off, cap, n, f, rfl, Nat.le_trans hb hB, h1⟩
theorem QRow.shape (h : QRow w B v zs) : ∃ a cap, v = .slice a zs.length cap ∧ zs.length ≤ cap ∧ cap ≤ maxLen := by
  rcases h with ⟨rfl, rfl⟩ | ⟨g, off, cap, n, f, rfl, hB, hr, h1, h2, _⟩
  · exact ⟨none, 0, rfl, Nat.le_refl _, by decide⟩
  · exact ⟨_, cap, rfl, h1, h2⟩
theorem QRow.ints (h : QRow w B v zs) : IsInts w v zs := by
  rcases h with ⟨rfl, rfl⟩ | ⟨g, off, cap, n, f, rfl, hB, hr, h1, h2, h3, h4⟩
  · exact IsInts.nil w
  · refine ⟨_, cap, rfl, fun i x hx => ⟨g, off, rfl, ?_⟩⟩
    have hi := (List.getElem?_eq_some_iff.1 hx).1
    rw [hr.cell (by omega), h4 i hi, List.getD_eq_getElem?_getD, hx]
    rfl
theorem QRow.addr (h : QRow w B v zs) (h0 : 0 < zs.length) : ∃ g off cap, v = .slice (some ⟨g, off, none⟩) zs.length cap := by
  rcases h with ⟨rfl, rfl⟩ | ⟨g, off, cap, n, f, rfl, _⟩
  · simp at h0
  · exact ⟨g, off, cap, rfl⟩
theorem QRow.ofOwn {n : Nat} (h : w.ownsRow B 3 1 v n (zs.map iv64)) : QRow w B v zs := by
  have hl : zs.length = n := by simpa using h.1
  rcases h.2 with ⟨rfl, h0⟩ | ⟨g, cap, cur, rfl, hB, hg, hn, hm, hs, ht⟩
  · obtain rfl : zs = [] := List.eq_nil_of_length_eq_zero (by omega)
    exact Or.inl ⟨rfl, rfl⟩
  · refine Or.inr ⟨g, 0, cap, cap, fun i => (cur[i]?).getD (.int .i64 0), by rw [hl], hB, ⟨cur, hg, by simpa using hs, fun i hi => ?_⟩, by omega, hm, by omega, fun i hi => ?_⟩
    · show cur[i]? = some ((cur[i]?).getD (.int .i64 0))
      rw [Array.getElem?_eq_getElem (show i < cur.size by omega)]
      rfl
    · have e : cur.toList[i]? = some (iv64 (zs.getD i 0)) := by
        have : (cur.toList.take (n * 1))[i]? = (zs.map iv64)[i]? := by rw [ht]
        rw [List.getElem?_take, if_pos (by omega), List.getElem?_map, List.getElem?_eq_getElem hi] at this
        rw [this, List.getD_eq_getElem?_getD, List.getElem?_eq_getElem hi]
        rfl
      show (cur[0 + i]?).getD (.int .i64 0) = _
      rw [Nat.zero_add, ← Array.getElem?_toList, e]
      rfl
/-- 'append' of one number. -/
theorem run_push_q (h : QRow w B v zs) (ad : Addr) (c : Nat) (x : Int) (hx : w.cell? ad = some (.int .i64 x)) (hsp : ad.spot = none) (hlen : zs.length + 1 ≤ 17592186044416) (hB : B ≤ w.heap.size) :
    ∃ v' w', (Builtin.append_ #[28, 28] 28 #[v, .slice (some ad) 1 c]).run Try.prog w = .ok v' w' ∧ QRow w' B v' (zs ++ [x]) ∧ w.grownBy w' v.ownBlock ∧ (∀ k, v'.ownBlock = some k → v.ownBlock = some k ∨ w.heap.size ≤ k) := by
  obtain ⟨i0, hi, hz0, hz1, hz2⟩ := info_parts info_int
  obtain ⟨b, o, s⟩ := ad
  obtain rfl : s = none := hsp
  have hnews : ∀ j u, [Value.int .i64 x][j]? = some u → w.cell? ((⟨b, o, none⟩ : Addr).add j) = some u := fun j u hu => by
    match j with
    | 0 => simp at hu; subst hu; rw [Addr.add_lit]; exact hx
    | j + 1 => simp at hu
  have hone : ∀ u ∈ [Value.int .i64 x], u.oneCell' = true := fun u hu => by simp at hu; subst hu; rfl
  rcases h with ⟨rfl, rfl⟩ | ⟨g, off, cap, n, f, rfl, hBg, hr, h1, h2, h3, h4⟩
  · obtain ⟨v', w', hrun, hown, hg, _⟩ := run_append_own w w.heap.size 28 28 3 i0 (.int .i64 0) 1 8 Try.underlying28 hi hz0 hz1 hz2 rfl (by decide) (.slice none 0 0) 0 [] (World.ownsRow_nil w _ _ _) ⟨b, o, none⟩ 1 c [.int .i64 x] rfl hnews hone (by decide) (by decide) (Nat.le_refl _)
    have hq : QRow w' w.heap.size v' [x] := QRow.ofOwn (n := 1) hown
    exact ⟨v', w', hrun, hq.lower hB, hg, fun k hk => Or.inr (hq.lt k hk).1⟩
  · by_cases hroom : zs.length + 1 ≤ cap
    · have hrun := run_append_room_cells (P := Try.prog) w 28 28 3 i0 Try.underlying28 hi g off zs.length cap ⟨b, o, none⟩ 1 c [.int .i64 x] (by rw [hz1]; rfl) hnews hone hroom
        (fun j hj => by simp at hj; subst hj; rw [hz1, hr.cell (by omega)]; rfl) (fun j _ => hr.frozen _)
      refine ⟨_, _, hrun, ?_, ?_, fun k hk => Or.inl hk⟩
      · have hr2 := hr.set (off + zs.length) (.int .i64 x)
        refine Or.inr ⟨g, off, cap, n, _, by rw [List.length_append]; rfl, hBg, by rw [hz1, Nat.mul_one]; exact hr2, by rw [List.length_append]; exact hroom, h2, h3, fun i hi => ?_⟩
        rw [List.length_append] at hi
        simp only [List.length_cons, List.length_nil] at hi
        show (if off + i = off + zs.length then Value.int .i64 x else f (off + i)) = _
        by_cases e : i = zs.length
        · subst e
          rw [if_pos rfl, List.getD_eq_getElem?_getD, List.getElem?_append_right (Nat.le_refl _), Nat.sub_self]
          rfl
        · rw [if_neg (by omega), h4 i (by omega), List.getD_eq_getElem?_getD, List.getD_eq_getElem?_getD, List.getElem?_append_left (by omega)]
      · show w.grownBy (w.setCell _ _) (some g)
        refine ⟨rfl, rfl, rfl, by simp [World.setCell], fun k hk hne => ?_⟩
        exact heap_setCell_other w _ k _ (fun e => hne (by rw [e]))
    · obtain ⟨v', w', hrun, hown, hg⟩ := run_append_arg_grows (P := Try.prog) w 28 28 3 i0 (.int .i64 0) 1 8 Try.underlying28 hi hz0 hz1 hz2 rfl (by decide) ⟨g, off, none⟩ zs.length cap (zs.map iv64) (by simp)
        (fun j u hu => by
          have hj := (List.getElem?_eq_some_iff.1 hu).1
          rw [List.length_map] at hj
          rw [List.getElem?_map, List.getElem?_eq_getElem hj] at hu
          rw [Addr.add_lit, hr.cell (by omega), h4 j hj, List.getD_eq_getElem?_getD, List.getElem?_eq_getElem hj]
          exact hu)
        ⟨b, o, none⟩ 1 c [.int .i64 x] rfl hnews (by omega) (by unfold maxLen; omega) (by omega)
      have hq : QRow w' w.heap.size v' (zs ++ [x]) := QRow.ofOwn (n := zs.length + 1) (by rw [List.map_append]; exact hown)
      exact ⟨v', w', hrun, hq.lower hB, ⟨hg.os, hg.tape, hg.output, hg.size, fun k hk _ => hg.block k hk (by simp)⟩, fun k hk => Or.inr (hq.lt k hk).1⟩
/-- The front cut away. -/
theorem QRow.tail {x : Int} {zs : List Int} {a : Option Addr} {m cap : Nat} (h : QRow w B (.slice a m cap) (x :: zs)) : QRow w B (sliced a 1 m cap 1) zs := by
  rcases h with ⟨h, _⟩ | ⟨g, off, c, n, f, he, hB, hr, h1, h2, h3, h4⟩
  · simp at h
    rename_i h5
    cases h5
  · simp only [Value.slice.injEq] at he
    obtain ⟨rfl, rfl, rfl⟩ := he
    unfold sliced
    have hl : (x :: zs).length - 1 = zs.length := by simp
    rw [hl]
    by_cases hc : cap = 1
    · subst hc
      rw [if_pos rfl]
      have h0 : zs = [] := by
        have : (x :: zs).length ≤ 1 := h1
        simp at this
        exact this
      subst h0
      exact Or.inr ⟨g, off, 0, n, f, rfl, hB, hr, Nat.le_refl _, by decide, by omega, fun i hi => by simp at hi⟩
    · rw [if_neg hc]
      have hc1 : 1 ≤ cap := by have : (x :: zs).length ≤ cap := h1; simp at this; omega
      refine Or.inr ⟨g, off + 1 * 1, cap - 1, n, f, rfl, hB, hr, by have : (x :: zs).length ≤ cap := h1; simp at this; omega, by omega, by omega, fun i hi => ?_⟩
      have := h4 (i + 1) (by simp; omega)
      rw [show off + 1 * 1 + i = off + (i + 1) by omega, this]
      simp
theorem sliced_own (a : Option Addr) (l m cap : Nat) (k : Nat) : (sliced a l m cap 1).ownBlock = some k → (Value.slice a m cap).ownBlock = some k := by
  unfold sliced
  intro h
  cases a with
  | none => split at h <;> simp [Value.ownBlock] at h
  | some a =>
    split at h
    · exact h
    · rw [← h]
      show some a.block = some (a.add (l * 1)).block
      unfold Addr.add
      split <;> rfl
end
end Go.Proofs.Ytgdgjalfabffcaa
