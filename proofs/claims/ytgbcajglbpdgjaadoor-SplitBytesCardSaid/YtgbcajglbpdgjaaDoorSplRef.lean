/-
  THE WALKS OF THE DOCUMENT's ANSWERS OF LAYER 19 (balerref19).
-/
import Derived.Test.YtgbcajglbpdgjaaDoorSplMath
import Derived.Test.YtgbcajglbpdgjaaDoorSplA
import Derived.Test.YtgbcajglbpdgjaaDoorRleRefB
import Derived.Test.YtgbcajglbpdgjaaDoorInts
namespace Go.Proofs.YtgbcajglbpdgjaaDoor
open Go.RowKit RleM SplM
set_option linter.unusedVariables false
set_option linter.unusedSimpArgs false
set_option maxHeartbeats 1000000 in
theorem rroom19_any (r : Int) (w : World) : Calls Tryd.prog 12 #[.int .i64 r] w fun e w' => e = .returned (.bool (decide (5 ≤ r ∧ r ≤ 900000))) ∧ w' = w := by
  by_cases h1 : r < 5
  · have h2 : ¬ r ≥ 5 := by omega
    have h3 : decide (5 ≤ r ∧ r ≤ 900000) = false := by rw [decide_eq_false_iff_not]; omega
    rw [h3]
    go_enter Tryd.func12, Tryd.ntmps12
    go_wp2_with fail
    go_ret
    exact ⟨rfl, rfl⟩
  · have h2 : r ≥ 5 := by omega
    by_cases h4 : r ≤ 900000
    · have h3 : decide (5 ≤ r ∧ r ≤ 900000) = true := by rw [decide_eq_true_eq]; omega
      rw [h3]
      go_enter Tryd.func12, Tryd.ntmps12
      go_wp2_with fail
      go_ret
      exact ⟨rfl, rfl⟩
    · have h3 : decide (5 ≤ r ∧ r ≤ 900000) = false := by rw [decide_eq_false_iff_not]; omega
      rw [h3]
      go_enter Tryd.func12, Tryd.ntmps12
      go_wp2_with fail
      go_ret
      exact ⟨rfl, rfl⟩
def crcS (l : List UInt8) : BitVec 32 := CrcM.crc l
set_option maxHeartbeats 1000000 in
theorem rsum19_any (b s : ByteArray) (w : World) (hs : s.size ≤ maxLen) : Calls Tryd.prog 21 #[.agg #[.string b, .string s]] w fun e w' => e = .returned (.int .u32 ((crcS s.data.toList).toNat : Int)) ∧ Below w.heap.size w w' := by
  have HO := Lib.hid (fun W => refOf_any s W hs)
  clear hs
  go_enter Tryd.func21, Tryd.ntmps21
  go_wp2_with fail
  refine (HO.out _).mono ?_
  rintro e w1 ⟨rfl, rfl⟩
  go_wp2_with fail
  go_ret
  exact ⟨rfl, (Below.refl _ _).alloc (Nat.le_refl _) _⟩
/-! ### Rows of the document's blocks -/
def rbL (b : List Pc) : List Value := [.string ⟨(pack b).toArray⟩, .string ⟨(flat b).toArray⟩]
theorem rbL_len (b : List Pc) : (rbL b).length = 2 := rfl
theorem rbs_get : ∀ (bs : List (List Pc)) (i : Nat) (b : List Pc) (j : Nat), bs[i]? = some b → j < 2 → (bs.flatMap rbL)[i * 2 + j]? = (rbL b)[j]?
  | [], i, b, j, h, _ => by simp at h
  | x :: xs, 0, b, j, h, hj => by
    simp at h
    subst h
    rw [List.flatMap_cons, List.getElem?_append_left (by rw [rbL_len]; omega), Nat.zero_mul, Nat.zero_add]
  | x :: xs, i + 1, b, j, h, hj => by
    rw [List.flatMap_cons, List.getElem?_append_right (by rw [rbL_len]; omega), rbL_len]
    have := rbs_get xs i b j (by simpa using h) hj
    rw [show (i + 1) * 2 + j - 2 = i * 2 + j by omega]
    exact this
def OwnRb (W : World) (B : Nat) (v : Value) (bs : List (List Pc)) : Prop := W.ownsRow B 52 2 v bs.length (bs.flatMap rbL)
theorem OwnRb.nil (W : World) (B : Nat) : OwnRb W B (.slice none 0 0) [] := World.ownsRow_nil _ _ _ _
theorem OwnRb.slice {W : World} {B : Nat} {v : Value} {bs : List (List Pc)} (h : OwnRb W B v bs) : ∃ a cap, v = .slice a bs.length cap := slice_of_own h
theorem OwnRb.lt {W : World} {B : Nat} {v : Value} {bs : List (List Pc)} (h : OwnRb W B v bs) : ∀ k, v.ownBlock = some k → B ≤ k ∧ k < W.heap.size := World.ownsRow.lt h
theorem OwnRb.same {W W' : World} {B : Nat} {v : Value} {bs : List (List Pc)} (h : OwnRb W B v bs) (he : ∀ k, v.ownBlock = some k → W'.heap[k]? = W.heap[k]?) : OwnRb W' B v bs := ownsRow_other h he
theorem OwnRb.below {W W' : World} {B : Nat} {v : Value} {bs : List (List Pc)} (h : OwnRb W B v bs) (hb : Below W.heap.size W W') : OwnRb W' B v bs := h.same (fun k hk => hb.block k (h.lt k hk).2)
theorem OwnRb.cell {W : World} {B : Nat} {v : Value} {bs : List (List Pc)} (h : OwnRb W B v bs) {i : Nat} {b : List Pc} (hi : bs[i]? = some b) : ∃ g cap, v = .slice (some ⟨g, 0, none⟩) bs.length cap ∧ g < W.heap.size ∧ B ≤ g ∧
    W.cell? ⟨g, i * 2, none⟩ = some (.string ⟨(pack b).toArray⟩) ∧ W.cell? ⟨g, i * 2 + 1, none⟩ = some (.string ⟨(flat b).toArray⟩) := by
  have hlt := (List.getElem?_eq_some_iff.1 hi).1
  rcases h.2 with ⟨rfl, h0⟩ | ⟨g, cap, cur, rfl, hB, hg, hnc, _, hcs, ht⟩
  · omega
  · have hc : ∀ j, j < 2 → W.cell? ⟨g, i * 2 + j, none⟩ = (rbL b)[j]? := fun j hj => by
      rw [cell_of_row _ _ _ _ _ _ hg, ← rbs_get bs i b j hi hj, ← ht, List.getElem?_take, if_pos (by omega), Array.getElem?_toList]
    exact ⟨g, cap, rfl, (Array.getElem?_eq_some_iff.1 hg).1, hB, hc 0 (by omega), hc 1 (by omega)⟩
theorem infoRb : (Tryd.prog.info? 52).map (fun i => (i.zero, i.size, i.bytes)) = some (some (.agg #[.string ⟨#[]⟩, .string ⟨#[]⟩]), 2, 32) := by kernel_rfl
set_option maxHeartbeats 400000 in
theorem push_rb {ops : Array Oper} {rest : List Oper} {o : Oper} {a : Act} {Q : Exit → Act → World → Prop} (W : World) (hgd : o.guard = none) (s x : Operand)
    (ho : o.op = .call { callee := .builtin .append, args := #[s, x], argTypes := #[32, 32] })
    (B : Nat) (v : Value) (bs : List (List Pc)) (b : List Pc) (s1 s2 : ByteArray) (hA : rbL b = [.string s1, .string s2]) (hown : OwnRb W B v bs) (hs : a.eval s = v) (G : Nat) (hG : W.heap.size = G) (hx : a.eval x = .slice (some ⟨G, 0, none⟩) 1 1)
    (hlen : bs.length ≤ 1000000) (hb : B ≤ W.heap.size)
    (h : ∀ v' w', OwnRb w' B v' (bs ++ [b]) → Touch (fun k => v.ownBlock = some k) W w' → (∀ k, v'.ownBlock = some k → v.ownBlock = some k ∨ W.heap.size ≤ k) → wpList Tryd.prog ops Q rest (a.put o.dst v') w') :
    wpList Tryd.prog ops Q (o :: rest) a (W.alloc (.cells #[.string s1, .string s2] 52)) := by
  subst hG
  obtain ⟨i0, hi, hz0, hz1, hz2⟩ := info_parts infoRb
  refine wpList_append_own2 hgd s x 32 ho B 52 i0 (.agg #[.string ⟨#[]⟩, .string ⟨#[]⟩]) 2 32 Tryd.underlying32 hi hz0 hz1 hz2 rfl (by decide) v bs.length (bs.flatMap rbL) (World.ownsRow.alloc hown _) hs ⟨W.heap.size, 0, none⟩ 1 1 [.string s1, .string s2] hx rfl ?_ ?_ ?_ ?_ ?_ ?_
  · exact news_new _ _ _ _ rfl
  · intro u hu; simp at hu; rcases hu with rfl | rfl <;> rfl
  · unfold maxLen; omega
  · omega
  · simp; omega
  · intro v' w' hown' hg hv
    refine h v' w' ?_ ?_ (fun k hk => (hv k hk).imp id (fun h => by simp at h; omega))
    · unfold OwnRb
      rw [List.length_append, List.flatMap_append]
      simp only [List.flatMap_cons, List.flatMap_nil, List.append_nil]
      rw [hA]
      exact hown'
    · exact ⟨hg.os, hg.tape, hg.output, by have := hg.size; simp at this; omega, fun k hk hn => (hg.block k (by simp; omega) (fun e => hn e.symm)).trans (alloc_old hk)⟩
/-- What stands between two pieces: the blocks so far, and the one that was begun, at block g. -/
structure RfS (w wr : World) (g : Nat) (v : Value) (os : List (List Pc)) (s1 s2 : ByteArray) : Prop where
  box : wr.heap[g]? = some (.cells #[.string s1, .string s2] 52 (0, 0))
  row : OwnRb wr w.heap.size v os
  lap : ∀ k, v.ownBlock = some k → k ≠ g
  base : w.heap.size ≤ g
  below : Below w.heap.size w wr
theorem RfS.later {w wr w' : World} {g : Nat} {v : Value} {os : List (List Pc)} {s1 s2 : ByteArray} (h : RfS w wr g v os s1 s2) (hb : Below wr.heap.size wr w') : RfS w w' g v os s1 s2 :=
  ⟨(hb.block g (Array.getElem?_eq_some_iff.1 h.box).1).trans h.box, h.row.below hb, h.lap, h.base, h.below.trans (hb.mono h.below.size)⟩
theorem RfS.cells {w wr : World} {g : Nat} {v : Value} {os : List (List Pc)} {s1 s2 : ByteArray} (h : RfS w wr g v os s1 s2) : wr.cell? ⟨g, 0, none⟩ = some (.string s1) ∧ wr.cell? ⟨g, 1, none⟩ = some (.string s2) ∧ wr.frozen? ⟨g, 0, none⟩ = false ∧ wr.frozen? ⟨g, 1, none⟩ = false ∧ g < wr.heap.size :=
  ⟨by rw [cell_of_row _ _ _ _ _ _ h.box]; rfl, by rw [cell_of_row _ _ _ _ _ _ h.box]; rfl, frozen_of_row _ _ _ _ _ h.box, frozen_of_row _ _ _ _ _ h.box, (Array.getElem?_eq_some_iff.1 h.box).1⟩
theorem RfS.set0 {w wr : World} {g : Nat} {v : Value} {os : List (List Pc)} {s1 s2 : ByteArray} (h : RfS w wr g v os s1 s2) (s : ByteArray) : RfS w (wr.setCell ⟨g, 0, none⟩ (.string s)) g v os s s2 :=
  ⟨heap_setCell_same _ _ 0 _ _ _ h.box, h.row.same (fun k hk => heap_setCell_other _ _ _ _ (h.lap k hk)), h.lap, h.base, h.below.setCell (p := ⟨g, 0, none⟩) h.base _⟩
theorem RfS.set1 {w wr : World} {g : Nat} {v : Value} {os : List (List Pc)} {s1 s2 : ByteArray} (h : RfS w wr g v os s1 s2) (s : ByteArray) : RfS w (wr.setCell ⟨g, 1, none⟩ (.string s)) g v os s1 s :=
  ⟨heap_setCell_same _ _ 1 _ _ _ h.box, h.row.same (fun k hk => heap_setCell_other _ _ _ _ (h.lap k hk)), h.lap, h.base, h.below.setCell (p := ⟨g, 1, none⟩) h.base _⟩
theorem RfS.pushed {w wr w' : World} {g : Nat} {v v' : Value} {os os' : List (List Pc)} {s1 s2 : ByteArray} (h : RfS w wr g v os s1 s2) (ht : Touch (fun k => v.ownBlock = some k) wr w') (ho : OwnRb w' w.heap.size v' os') (hv : ∀ k, v'.ownBlock = some k → v.ownBlock = some k ∨ wr.heap.size ≤ k) : RfS w w' g v' os' s1 s2 :=
  ⟨(ht.block g h.cells.2.2.2.2 (fun e => h.lap g e rfl)).trans h.box, ho, fun k hk => by
    rcases hv k hk with e | e
    · exact h.lap k e
    · have := h.cells.2.2.2.2; omega, h.base, h.below.trans (ht.below h.below.size (fun k hk => (h.row.lt k hk).1))⟩
end Go.Proofs.YtgbcajglbpdgjaaDoor
