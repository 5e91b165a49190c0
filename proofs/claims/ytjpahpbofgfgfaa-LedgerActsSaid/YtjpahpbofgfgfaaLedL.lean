/-
  LAYER 27's STATEMENTS: LedgerActs: rows of deeds of the call's own; a ledger and what was done.
-/
import Derived.Test.YtjpahpbofgfgfaaLedK
namespace Go.Proofs.Ytjpahpbofgfgfaa
open Go.RowKit Go.ChangeShapes Go.WideShapes Go.ChangeAt Go.Deep
set_option linter.unusedVariables false
set_option linter.unusedSimpArgs false
def ddL (d : Int × Int) : List Value := [.int .i64 d.1, .int .i64 d.2]
theorem dds_get : ∀ (bs : List (Int × Int)) (i : Nat) (b : Int × Int) (j : Nat), bs[i]? = some b → j < 2 → (bs.flatMap ddL)[i * 2 + j]? = (ddL b)[j]?
  | [], i, b, j, h, _ => by simp at h
  | x :: xs, 0, b, j, h, hj => by
    simp at h
    subst h
    rw [List.flatMap_cons, List.getElem?_append_left (by show _ < 2; omega), Nat.zero_mul, Nat.zero_add]
  | x :: xs, i + 1, b, j, h, hj => by
    rw [List.flatMap_cons, List.getElem?_append_right (by show 2 ≤ _; omega)]
    have := dds_get xs i b j (by simpa using h) hj
    rw [show (i + 1) * 2 + j - (ddL x).length = i * 2 + j by show (i + 1) * 2 + j - 2 = _; omega]
    exact this
theorem dds_len : ∀ bs : List (Int × Int), (bs.flatMap ddL).length = bs.length * 2
  | [] => rfl
  | b :: bs => by rw [List.flatMap_cons, List.length_append, dds_len bs, List.length_cons]; show 2 + _ = _; omega
/-- v is a row of deeds, the call's own. -/
def OwnDd (W : World) (B : Nat) (v : Value) (ds : List (Int × Int)) : Prop := W.ownsRow B 34 2 v ds.length (ds.flatMap ddL)
theorem OwnDd.nil (W : World) (B : Nat) : OwnDd W B (.slice none 0 0) [] := World.ownsRow_nil _ _ _ _
theorem OwnDd.slice {W : World} {B : Nat} {v : Value} {bs : List (Int × Int)} (h : OwnDd W B v bs) : ∃ a cap, v = .slice a bs.length cap := slice_of_own h
theorem OwnDd.lt {W : World} {B : Nat} {v : Value} {bs : List (Int × Int)} (h : OwnDd W B v bs) : ∀ k, v.ownBlock = some k → B ≤ k ∧ k < W.heap.size := World.ownsRow.lt h
theorem OwnDd.same {W W' : World} {B : Nat} {v : Value} {bs : List (Int × Int)} (h : OwnDd W B v bs) (he : ∀ k, v.ownBlock = some k → W'.heap[k]? = W.heap[k]?) : OwnDd W' B v bs := ownsRow_other h he
theorem OwnDd.dd {W : World} {B : Nat} {v : Value} {bs : List (Int × Int)} (h : OwnDd W B v bs) : IsDd W v bs := by
  rcases h.2 with ⟨rfl, h0⟩ | ⟨g, cap, cur, rfl, hB, hg, hnc, _, hcs, ht⟩
  · obtain rfl : bs = [] := List.eq_nil_of_length_eq_zero h0
    exact ⟨none, 0, rfl, Nat.le_refl _, fun i x hx => by simp at hx⟩
  · refine ⟨_, cap, rfl, hnc, fun i x hx => ⟨g, 0, rfl, ?_⟩⟩
    have hlt := (List.getElem?_eq_some_iff.1 hx).1
    have hc : ∀ j, j < 2 → W.cell? ⟨g, 0 + i * 2 + j, none⟩ = (ddL x)[j]? := fun j hj => by
      rw [Nat.zero_add, cell_of_row _ _ _ _ _ _ hg, ← dds_get bs i x j hx hj, ← ht, List.getElem?_take, if_pos (by omega), Array.getElem?_toList]
    exact ⟨hc 0 (by omega), hc 1 (by omega)⟩
theorem infoDd : (Try.prog.info? 34).map (fun i => (i.zero, i.size, i.bytes)) = some (some (.agg #[.int .i64 0, .int .i64 0]), 2, 16) := by kernel_rfl
set_option maxHeartbeats 400000 in
/-- 'append' of one deed. -/
theorem push_dd {ops : Array Oper} {rest : List Oper} {o : Oper} {a : Act} {Q : Exit → Act → World → Prop} (W : World) (hgd : o.guard = none) (s x : Operand)
    (ho : o.op = .call { callee := .builtin .append, args := #[s, x], argTypes := #[30, 30] })
    (B : Nat) (v : Value) (bs : List (Int × Int)) (D Z : Int) (hown : OwnDd W B v bs) (hs : a.eval s = v) (hx : a.eval x = .slice (some ⟨W.heap.size, 0, none⟩) 1 1)
    (hlen : bs.length ≤ 1000000) (hb : B ≤ W.heap.size)
    (h : ∀ v' w', OwnDd w' B v' (bs ++ [(D, Z)]) → Touch (fun k => v.ownBlock = some k) W w' → (∀ k, v'.ownBlock = some k → v.ownBlock = some k ∨ W.heap.size ≤ k) → wpList Try.prog ops Q rest (a.put o.dst v') w') :
    wpList Try.prog ops Q (o :: rest) a (W.alloc (.cells #[.int .i64 D, .int .i64 Z] 34)) := by
  obtain ⟨i0, hi, hz0, hz1, hz2⟩ := info_parts infoDd
  refine wpList_append_own2 hgd s x 30 ho B 34 i0 (.agg #[.int .i64 0, .int .i64 0]) 2 16 Try.underlying30 hi hz0 hz1 hz2 rfl (by decide) v bs.length (bs.flatMap ddL) (World.ownsRow.alloc hown _) hs ⟨W.heap.size, 0, none⟩ 1 1 (ddL (D, Z)) hx rfl ?_ ?_ ?_ ?_ ?_ ?_
  · exact news_new _ _ _ _ rfl
  · intro u hu; simp [ddL] at hu; rcases hu with rfl | rfl <;> rfl
  · unfold maxLen; omega
  · omega
  · simp; omega
  · intro v' w' hown' hg hv
    refine h v' w' ?_ ?_ (fun k hk => (hv k hk).imp id (fun h => by simp at h; omega))
    · unfold OwnDd
      rw [List.length_append, List.flatMap_append]
      simpa using hown'
    · exact ⟨hg.os, hg.tape, hg.output, by have := hg.size; simp at this; omega, fun k hk hn => (hg.block k (by simp; omega) (fun e => hn e.symm)).trans (alloc_old hk)⟩
/-! ### What was done -/
def LgMatch (n : Nat) (U P : Nat → Int) (ds : List (Int × Int)) : Prop := ∀ i, i < n → U i = usedD ds (i : Int) ∧ P i = peakD ds (i : Int)
def ddNext (ds : List (Int × Int)) (T d E : Int) : List (Int × Int) := if E = 0 then ds ++ [(T, d)] else ds
theorem LgMatch.step {n : Nat} {L U P U' P' : Nat → Int} {ds : List (Int × Int)} {T d E : Int} (h : LgMatch n U P ds) (hs : LgStep n U P U' P' T d E) (hV : LgInv n L U P) : LgMatch n U' P' (ddNext ds T d E) := by
  unfold ddNext
  rcases hs with ⟨h0, rfl, rfl⟩ | ⟨h0, t, rfl, ht, rfl, rfl⟩
  · rw [if_neg h0]; exact h
  · rw [if_pos h0]
    intro i hi
    obtain ⟨h1, h2⟩ := h i hi
    rw [peakD_append, usedD_append]
    by_cases e : i = t
    · subst e
      rw [updI_same, updI_same, ← h1, ← h2]
      simp [usedD]
    · rw [updI_ne _ _ e, updI_ne _ _ e, ← h1, ← h2]
      have hne : ¬ (t : Int) = (i : Int) := by omega
      have := (hV i hi).2.1
      simp only [usedD, if_neg hne]
      omega
theorem ddNext_ok {n k : Nat} {L U P U' P' : Nat → Int} {ds : List (Int × Int)} {T d E : Int} (hs : LgStep n U P U' P' T d E) (hV : LgInv n L U P) (hV' : LgInv n L U' P') (hk : ds.length ≤ k) (h : ∀ x ∈ ds, -1099511627776 ≤ x.2 ∧ x.2 ≤ 1099511627776) :
    (ddNext ds T d E).length ≤ k + 1 ∧ ∀ x ∈ ddNext ds T d E, -1099511627776 ≤ x.2 ∧ x.2 ≤ 1099511627776 := by
  unfold ddNext
  rcases hs with ⟨h0, rfl, rfl⟩ | ⟨h0, t, rfl, ht, rfl, rfl⟩
  · rw [if_neg h0]; exact ⟨by omega, h⟩
  · rw [if_pos h0]
    refine ⟨by simp; omega, fun x hx => ?_⟩
    rcases List.mem_append.1 hx with hx | hx
    · exact h x hx
    · simp at hx
      subst hx
      have a := hV t ht
      have b := hV' t ht
      rw [updI_same, updI_same] at b
      show -1099511627776 ≤ d ∧ d ≤ 1099511627776
      omega
theorem rsvA_ref {zs : List Int} {U P : Nat → Int} {ds : List (Int × Int)} (h : LgMatch zs.length U P ds) (h0 : 1 ≤ zs.length) (T x : Int) : rsvA zs.length (limF zs) U T x = rsvR zs ds T x := by
  unfold rsvA rsvR
  by_cases hT : 0 ≤ T ∧ T < (zs.length : Int)
  · obtain ⟨t, rfl⟩ : ∃ t : Nat, T = (t : Int) := ⟨T.toNat, by omega⟩
    have ht : t < zs.length := by omega
    rw [if_neg (by omega), if_neg (by omega), lk_at _ ht, lk_at _ ht, (h t ht).1, Int.toNat_natCast]
    unfold rsvE
    by_cases h1 : lgIs x
    · have n1 : ¬ ¬ lgIs x := fun h => h h1
      rw [if_neg n1, if_neg n1]
      by_cases h2 : limF zs t < x
      · have g2 : x > limF zs t := h2
        rw [if_pos h2, if_pos g2]
      · have g2 : ¬ x > limF zs t := h2
        rw [if_neg h2, if_neg g2]
        by_cases h3 : limF zs t - usedD ds (t : Int) < x
        · have g3 : usedD ds (t : Int) + x > limF zs t := by omega
          rw [if_pos h3, if_pos g3]
        · have g3 : ¬ usedD ds (t : Int) + x > limF zs t := by omega
          rw [if_neg h3, if_neg g3]
    · rw [if_pos h1, if_pos h1]
  · rw [if_pos hT, if_pos hT, if_neg (by omega)]
theorem relA_ref {zs : List Int} {U P : Nat → Int} {ds : List (Int × Int)} (h : LgMatch zs.length U P ds) (h0 : 1 ≤ zs.length) (T x : Int) : relA zs.length U T x = relR zs ds T x := by
  unfold relA relR
  by_cases hT : 0 ≤ T ∧ T < (zs.length : Int)
  · obtain ⟨t, rfl⟩ : ∃ t : Nat, T = (t : Int) := ⟨T.toNat, by omega⟩
    have ht : t < zs.length := by omega
    rw [if_neg (by omega), if_neg (by omega), lk_at _ ht, (h t ht).1]
    rfl
  · rw [if_pos hT, if_pos hT, if_neg (by omega)]
/-- A ledger of the call's own, and a row of all that was done. -/
structure LgAct (w0 w : World) (b g : Nat) (zs : List Int) (v : Value) (ds : List (Int × Int)) (k : Nat) : Prop where
  lg : ∃ U P, IsLg w b g zs.length (limF zs) U P ∧ LgInv zs.length (limF zs) U P ∧ LgMatch zs.length U P ds
  row : OwnDd w w0.heap.size v ds
  apart : ∀ j, v.ownBlock = some j → j ≠ b ∧ j ≠ g
  below : Below w0.heap.size w0 w
  own : w0.heap.size ≤ b ∧ w0.heap.size ≤ g
  len : ds.length ≤ k
  ok : ∀ x ∈ ds, -1099511627776 ≤ x.2 ∧ x.2 ≤ 1099511627776
section
variable {w0 w w' : World} {b g k : Nat} {zs : List Int} {v v' : Value} {ds : List (Int × Int)}
theorem LgAct.next (h : LgAct w0 w b g zs v ds k) (hb : Below w.heap.size w w') : LgAct w0 w' b g zs v ds k := by
  obtain ⟨⟨U, P, h1, h2⟩, h3, h4, h5, h6, h7, h8⟩ := h
  exact ⟨⟨U, P, h1.far hb, h2⟩, h3.same (fun j hj => hb.block j (h3.lt j hj).2), h4, h5.trans (hb.mono h5.size), h6, h7, h8⟩
theorem LgAct.ddok (h : LgAct w0 w b g zs v ds k) (hk : k ≤ 1000) : DdOk ds := ⟨by have := h.len; omega, h.ok⟩
/-- What an act leaves, ahead of the row. -/
structure LgMid (w0 w : World) (b g : Nat) (zs : List Int) (v : Value) (ds ds2 : List (Int × Int)) (k : Nat) : Prop where
  lg : ∃ U P, IsLg w b g zs.length (limF zs) U P ∧ LgInv zs.length (limF zs) U P ∧ LgMatch zs.length U P ds2
  row : OwnDd w w0.heap.size v ds
  apart : ∀ j, v.ownBlock = some j → j ≠ b ∧ j ≠ g
  below : Below w0.heap.size w0 w
  own : w0.heap.size ≤ b ∧ w0.heap.size ≤ g
  len1 : ds.length ≤ k
  len : ds2.length ≤ k + 1
  ok : ∀ x ∈ ds2, -1099511627776 ≤ x.2 ∧ x.2 ≤ 1099511627776
theorem lga_rsv (T x : Int) (h : LgAct w0 w b g zs v ds k) (h0 : 1 ≤ zs.length) (hx : -9223372036854775808 ≤ x ∧ x ≤ 9223372036854775807) :
    Calls Try.prog 17 #[.pointer (some ⟨b, 0, none⟩), .int .i64 T, .int .i64 x] w fun e w' => e = .returned (.int .i64 (rsvR zs ds T x)) ∧ LgMid w0 w' b g zs v ds (ddNext ds T x (rsvR zs ds T x)) k ∧ Touch (· = g) w w' := by
  obtain ⟨⟨U, P, h1, h2, h3⟩, h4, h5, h6, h7, h8, h9⟩ := h
  refine (lgrsv_any T x w h1 h2 hx).mono ?_
  rintro e w' ⟨rfl, U', P', hs, hl, ht⟩
  have hV := hs.inv_rsv h2
  rw [rsvA_ref h3 h0] at hs ⊢
  obtain ⟨k1, k2⟩ := ddNext_ok hs h2 hV h8 h9
  exact ⟨rfl, ⟨⟨U', P', hl, hV, h3.step hs h2⟩, h4.same (fun j hj => ht.block j (h4.lt j hj).2 (h5 j hj).2), h5, h6.trans (ht.below h6.size (fun i hi => by have : i = g := hi; omega)), h7, h8, k1, k2⟩, ht⟩
theorem lga_rel (T x : Int) (h : LgAct w0 w b g zs v ds k) (h0 : 1 ≤ zs.length) (hx : -9223372036854775808 ≤ x ∧ x ≤ 9223372036854775807) :
    Calls Try.prog 15 #[.pointer (some ⟨b, 0, none⟩), .int .i64 T, .int .i64 x] w fun e w' => e = .returned (.int .i64 (relR zs ds T x)) ∧ LgMid w0 w' b g zs v ds (ddNext ds T (-x) (relR zs ds T x)) k ∧ Touch (· = g) w w' := by
  obtain ⟨⟨U, P, h1, h2, h3⟩, h4, h5, h6, h7, h8, h9⟩ := h
  refine (lgrel_any T x w h1 h2 hx).mono ?_
  rintro e w' ⟨rfl, U', P', hs, hl, ht⟩
  have hV := hs.inv_rel h2
  rw [relA_ref h3 h0] at hs ⊢
  obtain ⟨k1, k2⟩ := ddNext_ok hs h2 hV h8 h9
  exact ⟨rfl, ⟨⟨U', P', hl, hV, h3.step hs h2⟩, h4.same (fun j hj => ht.block j (h4.lt j hj).2 (h5 j hj).2), h5, h6.trans (ht.below h6.size (fun i hi => by have : i = g := hi; omega)), h7, h8, k1, k2⟩, ht⟩
theorem LgMid.stay {ds2 : List (Int × Int)} (h : LgMid w0 w b g zs v ds ds2 k) (he : ds2 = ds) : LgAct w0 w b g zs v ds (k + 1) := by
  obtain ⟨⟨U, P, h1, h2, h3⟩, h4, h5, h6, h7, h8, h9, h10⟩ := h
  subst he
  exact ⟨⟨U, P, h1, h2, h3⟩, h4, h5, h6, h7, by omega, h10⟩
theorem LgMid.next {ds2 : List (Int × Int)} (h : LgMid w0 w b g zs v ds ds2 k) {S : Nat → Prop} (ht : Touch S w w') (hS : ∀ j, S j → j ≠ b ∧ j ≠ g ∧ w0.heap.size ≤ j) (hS2 : ∀ j, v.ownBlock = some j → ¬ S j) : LgMid w0 w' b g zs v ds ds2 k := by
  obtain ⟨⟨U, P, h1, h2, h3⟩, h4, h5, h6, h7, h8, h9, h10⟩ := h
  exact ⟨⟨U, P, h1.other ht (fun e => (hS _ e).1 rfl) (fun e => (hS _ e).2.1 rfl), h2, h3⟩, h4.same (fun j hj => ht.block j (h4.lt j hj).2 (hS2 j hj)), h5, h6.trans (ht.below h6.size (fun i hi => (hS i hi).2.2)), h7, h8, h9, h10⟩
theorem LgMid.push {ds2 : List (Int × Int)} (h : LgMid w0 w b g zs v ds ds2 k) (hrow : OwnDd w' w0.heap.size v' ds2) (ht : Touch (fun j => v.ownBlock = some j) w w') (hv : ∀ j, v'.ownBlock = some j → v.ownBlock = some j ∨ w.heap.size ≤ j) : LgAct w0 w' b g zs v' ds2 (k + 1) := by
  obtain ⟨⟨U, P, h1, h2, h3⟩, h4, h5, h6, h7, h8, h9, h10⟩ := h
  refine ⟨⟨U, P, h1.other ht (fun e => (h5 _ e).1 rfl) (fun e => (h5 _ e).2 rfl), h2, h3⟩, hrow, fun j hj => ?_, h6.trans (ht.below h6.size (fun i hi => (h4.lt i hi).1)), h7, h9, h10⟩
  rcases hv j hj with h | h
  · exact h5 j h
  · have := h1.lt
    omega
end
end Go.Proofs.Ytjpahpbofgfgfaa
