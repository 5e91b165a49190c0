/-
  LAYER 28's STATEMENTS: WindowActs: rows of charges of the call's own; a meter and all that was charged.
-/
import Derived.Test.YtjpahpbofgfgfaaWinN
namespace Go.Proofs.Ytjpahpbofgfgfaa
open Go.RowKit Go.ChangeShapes Go.WideShapes Go.ChangeAt Go.Deep
set_option linter.unusedVariables false
set_option linter.unusedSimpArgs false
def chL (c : Chg) : List Value := [.int .i64 c.T, .int .i64 c.Z, .int .i64 c.A]
theorem chs_get : ∀ (bs : List Chg) (i : Nat) (b : Chg) (j : Nat), bs[i]? = some b → j < 3 → (bs.flatMap chL)[i * 3 + j]? = (chL b)[j]?
  | [], i, b, j, h, _ => by simp at h
  | x :: xs, 0, b, j, h, hj => by
    simp at h
    subst h
    rw [List.flatMap_cons, List.getElem?_append_left (by show _ < 3; omega), Nat.zero_mul, Nat.zero_add]
  | x :: xs, i + 1, b, j, h, hj => by
    rw [List.flatMap_cons, List.getElem?_append_right (by show 3 ≤ _; omega)]
    have := chs_get xs i b j (by simpa using h) hj
    rw [show (i + 1) * 3 + j - (chL x).length = i * 3 + j by show (i + 1) * 3 + j - 3 = _; omega]
    exact this
/-- v is a row of charges, the call's own. -/
def OwnCh (W : World) (B : Nat) (v : Value) (l : List Chg) : Prop := W.ownsRow B 52 3 v l.length (l.flatMap chL)
theorem OwnCh.nil (W : World) (B : Nat) : OwnCh W B (.slice none 0 0) [] := World.ownsRow_nil _ _ _ _
theorem OwnCh.slice {W : World} {B : Nat} {v : Value} {l : List Chg} (h : OwnCh W B v l) : ∃ a cap, v = .slice a l.length cap := slice_of_own h
theorem OwnCh.lt {W : World} {B : Nat} {v : Value} {l : List Chg} (h : OwnCh W B v l) : ∀ k, v.ownBlock = some k → B ≤ k ∧ k < W.heap.size := World.ownsRow.lt h
theorem OwnCh.same {W W' : World} {B : Nat} {v : Value} {l : List Chg} (h : OwnCh W B v l) (he : ∀ k, v.ownBlock = some k → W'.heap[k]? = W.heap[k]?) : OwnCh W' B v l := ownsRow_other h he
theorem OwnCh.ch {W : World} {B : Nat} {v : Value} {l : List Chg} (h : OwnCh W B v l) : IsCh W v l := by
  rcases h.2 with ⟨rfl, h0⟩ | ⟨g, cap, cur, rfl, hB, hg, hnc, _, hcs, ht⟩
  · obtain rfl : l = [] := List.eq_nil_of_length_eq_zero h0
    exact ⟨none, 0, rfl, fun i x hx => by simp at hx⟩
  · refine ⟨_, cap, rfl, fun i x hx => ⟨g, 0, rfl, ?_⟩⟩
    have hlt := (List.getElem?_eq_some_iff.1 hx).1
    have hc : ∀ j, j < 3 → W.cell? ⟨g, 0 + i * 3 + j, none⟩ = (chL x)[j]? := fun j hj => by
      rw [Nat.zero_add, cell_of_row _ _ _ _ _ _ hg, ← chs_get l i x j hx hj, ← ht, List.getElem?_take, if_pos (by omega), Array.getElem?_toList]
    exact ⟨hc 0 (by omega), hc 1 (by omega), hc 2 (by omega)⟩
theorem infoCh : (Try.prog.info? 52).map (fun i => (i.zero, i.size, i.bytes)) = some (some (.agg #[.int .i64 0, .int .i64 0, .int .i64 0]), 3, 24) := by kernel_rfl
set_option maxHeartbeats 400000 in
/-- 'append' of one charge. -/
theorem push_ch {ops : Array Oper} {rest : List Oper} {o : Oper} {a : Act} {Q : Exit → Act → World → Prop} (W : World) (hgd : o.guard = none) (s x : Operand)
    (ho : o.op = .call { callee := .builtin .append, args := #[s, x], argTypes := #[48, 48] })
    (B : Nat) (v : Value) (bs : List Chg) (c : Chg) (hown : OwnCh W B v bs) (hs : a.eval s = v) (hx : a.eval x = .slice (some ⟨W.heap.size, 0, none⟩) 1 1)
    (hlen : bs.length ≤ 1000000) (hb : B ≤ W.heap.size)
    (h : ∀ v' w', OwnCh w' B v' (bs ++ [c]) → Touch (fun k => v.ownBlock = some k) W w' → (∀ k, v'.ownBlock = some k → v.ownBlock = some k ∨ W.heap.size ≤ k) → wpList Try.prog ops Q rest (a.put o.dst v') w') :
    wpList Try.prog ops Q (o :: rest) a (W.alloc (.cells #[.int .i64 c.T, .int .i64 c.Z, .int .i64 c.A] 52)) := by
  obtain ⟨i0, hi, hz0, hz1, hz2⟩ := info_parts infoCh
  refine wpList_append_own2 hgd s x 48 ho B 52 i0 (.agg #[.int .i64 0, .int .i64 0, .int .i64 0]) 3 24 Try.underlying48 hi hz0 hz1 hz2 rfl (by decide) v bs.length (bs.flatMap chL) (World.ownsRow.alloc hown _) hs ⟨W.heap.size, 0, none⟩ 1 1 (chL c) hx rfl ?_ ?_ ?_ ?_ ?_ ?_
  · exact news_new _ _ _ _ rfl
  · intro u hu; simp [chL] at hu; rcases hu with rfl | rfl | rfl <;> rfl
  · unfold maxLen; omega
  · omega
  · simp; omega
  · intro v' w' hown' hg hv
    refine h v' w' ?_ ?_ (fun k hk => (hv k hk).imp id (fun h => by simp at h; omega))
    · unfold OwnCh
      rw [List.length_append, List.flatMap_append]
      simpa using hown'
    · exact ⟨hg.os, hg.tape, hg.output, by have := hg.size; simp at this; omega, fun k hk hn => (hg.block k (by simp; omega) (fun e => hn e.symm)).trans (alloc_old hk)⟩
/-! ### What was charged -/
def WdMatch (n : Nat) (S A : Int) (C D : Nat → Int) (l : List Chg) : Prop := ∀ i, i < n → C i = chD S l (i : Int) (A / S) ∧ D i = totD l (i : Int)
def chNext (l : List Chg) (T x A E : Int) : List Chg := if E = 0 then l ++ [⟨T, x, A⟩] else l
/-- All that was charged, till the tick A. -/
structure WdRow (l : List Chg) (A : Int) (k : Nat) : Prop where
  len : l.length ≤ k
  ok : ∀ c ∈ l, (0 ≤ c.Z ∧ c.Z ≤ 1099511627776) ∧ 0 ≤ c.A ∧ c.A ≤ A
theorem WdRow.chok {l : List Chg} {A : Int} {k : Nat} (h : WdRow l A k) (hk : k ≤ 1000) (hA : A ≤ 1099511627776) : ChOk l := ⟨by have := h.len; omega, fun c hc => by have := h.ok c hc; exact ⟨this.1, this.2.1, by omega⟩⟩
theorem WdRow.mono {l : List Chg} {A A2 : Int} {k k2 : Nat} (h : WdRow l A k) (hA : A ≤ A2) (hk : k ≤ k2) : WdRow l A2 k2 := ⟨Nat.le_trans h.len hk, fun c hc => by have := h.ok c hc; exact ⟨this.1, this.2.1, by omega⟩⟩
theorem WdRow.next {l : List Chg} {A T x E : Int} {k : Nat} (h : WdRow l A k) (hA : 0 ≤ A) (hx : E = 0 → 0 ≤ x ∧ x ≤ 1099511627776) : WdRow (chNext l T x A E) A (k + 1) := by
  unfold chNext
  by_cases h0 : E = 0
  · rw [if_pos h0]
    refine ⟨by simp; have := h.len; omega, fun c hc => ?_⟩
    rcases List.mem_append.1 hc with hc | hc
    · exact h.ok c hc
    · simp at hc
      subst hc
      exact ⟨hx h0, hA, Int.le_refl _⟩
  · rw [if_neg h0]
    exact h.mono (Int.le_refl _) (Nat.le_succ _)
theorem WdMatch.step {n : Nat} {S A : Int} {C D C' D' : Nat → Int} {l : List Chg} {T x E : Int} (h : WdMatch n S A C D l) (hs : MtStep n C D C' D' T x E) : WdMatch n S A C' D' (chNext l T x A E) := by
  unfold chNext
  rcases hs with ⟨h0, rfl, rfl⟩ | ⟨h0, t, rfl, ht, rfl, rfl⟩
  · rw [if_neg h0]; exact h
  · rw [if_pos h0]
    intro i hi
    obtain ⟨h1, h2⟩ := h i hi
    rw [totD_append, chD_append]
    by_cases e : i = t
    · subst e
      rw [updI_same, updI_same, ← h1, ← h2]
      refine ⟨by simp [chD], ?_⟩
      unfold totS
      dsimp only
      rw [if_pos rfl]
      by_cases hg : D i + x > 1099511627776
      · rw [if_pos hg]; omega
      · rw [if_neg hg]; omega
    · rw [updI_ne _ _ e, updI_ne _ _ e, ← h1, ← h2]
      have hne : ¬ (t : Int) = (i : Int) := by omega
      unfold totS
      dsimp only
      rw [if_neg hne]
      refine ⟨?_, rfl⟩
      simp only [chD, hne, false_and, if_false]
      omega
/-- No charge lies in a window that begins now. -/
theorem chD_new {S A2 : Int} (hS : 1 ≤ S) (hm : A2 % S = 0) : ∀ (l : List Chg) (T : Int), (∀ c ∈ l, 0 ≤ c.A ∧ c.A < A2) → chD S l T (A2 / S) = 0
  | [], T, _ => rfl
  | c :: l, T, h => by
    have h1 := chD_new hS hm l T (fun x hx => h x (List.mem_cons_of_mem _ hx))
    have h2 := h c (List.mem_cons_self ..)
    have h3 : ¬ c.A / S = A2 / S := by
      have e1 := Int.emod_add_mul_ediv A2 S
      have e2 := Int.emod_add_mul_ediv c.A S
      have e3 := Int.emod_nonneg c.A (show S ≠ 0 by omega)
      intro e
      rw [e] at e2
      omega
    rw [chD, if_neg (fun h => h3 h.2), h1]
    rfl
theorem WdMatch.tick {n : Nat} {S A : Int} {C D : Nat → Int} {l : List Chg} {k : Nat} (h : WdMatch n S A C D l) (hr : WdRow l A k) (hS : 1 ≤ S) (hA : 0 ≤ A) (hA2 : ¬ A = 1099511627776) : WdMatch n S (A + 1) (tkC S A C) D l := by
  intro i hi
  obtain ⟨h1, h2⟩ := h i hi
  refine ⟨?_, h2⟩
  unfold tkC
  rw [if_neg hA2]
  by_cases hm : (A + 1) % S = 0
  · rw [if_pos hm, chD_new hS hm l _ (fun c hc => by have := hr.ok c hc; omega)]
    rfl
  · rw [if_neg hm, h1]
    have e : (A + 1) / S = A / S := by
      have e1 := Int.emod_add_mul_ediv (A + 1) S
      have e2 := Int.emod_add_mul_ediv A S
      have e3 := Int.emod_nonneg A (show S ≠ 0 by omega)
      have e4 := Int.emod_lt_of_pos A (show 0 < S by omega)
      have e5 := Int.emod_nonneg (A + 1) (show S ≠ 0 by omega)
      have e6 := Int.emod_lt_of_pos (A + 1) (show 0 < S by omega)
      have key : S * ((A + 1) / S - A / S) = 1 + A % S - (A + 1) % S := by rw [Int.mul_sub]; omega
      have hlt : S * ((A + 1) / S - A / S) < S * 1 := by omega
      have hgt : S * (-1) < S * ((A + 1) / S - A / S) := by omega
      have h3 := Int.lt_of_mul_lt_mul_left hlt (by omega)
      have h4 := Int.lt_of_mul_lt_mul_left hgt (by omega)
      omega
    rw [e]
theorem chgA_ref {zs : List Int} {S A : Int} {C D : Nat → Int} {l : List Chg} (h : WdMatch zs.length S A C D l) (T x : Int) : chgA zs C T x = refR zs l S T x A := by
  unfold chgA refR leftF
  by_cases hT : 0 ≤ T ∧ T < (zs.length : Int)
  · obtain ⟨t, rfl⟩ : ∃ t : Nat, T = (t : Int) := ⟨T.toNat, by omega⟩
    rw [Int.toNat_natCast, (h t (by omega)).1]
  · rw [if_pos hT, if_pos hT]
end Go.Proofs.Ytjpahpbofgfgfaa
