/-
  LAYER 19: rows of blocks; Room, New, Held; nil splitters.
-/
import Derived.Test.YtnachbjhhpnadaaGreatDoorSplE
import Derived.Test.YtnachbjhhpnadaaGreatDoorInts
import Derived.Test.YtnachbjhhpnadaaGreatDoorBuild3
namespace Go.Proofs.YtnachbjhhpnadaaGreatDoor
open Go.RowKit RleM SplM
set_option linter.unusedVariables false
set_option linter.unusedSimpArgs false
def blkL (b : List Pc) : List Value := (blkV b).toList
theorem blkL_len (b : List Pc) : (blkL b).length = 3 := rfl
theorem bks_len : ∀ bs : List (List Pc), (bs.flatMap blkL).length = bs.length * 3
  | [] => rfl
  | b :: bs => by rw [List.flatMap_cons, List.length_append, bks_len bs, blkL_len, List.length_cons]; omega
theorem bks_one (bs : List (List Pc)) : ∀ u ∈ bs.flatMap blkL, u.oneCell' = true := by
  intro u hu
  obtain ⟨b, _, hb⟩ := List.mem_flatMap.1 hu
  simp [blkL, blkV] at hb
  rcases hb with rfl | rfl | rfl <;> rfl
theorem bks_get : ∀ (bs : List (List Pc)) (i : Nat) (b : List Pc) (j : Nat), bs[i]? = some b → j < 3 → (bs.flatMap blkL)[i * 3 + j]? = (blkL b)[j]?
  | [], i, b, j, h, _ => by simp at h
  | x :: xs, 0, b, j, h, hj => by
    simp at h
    subst h
    rw [List.flatMap_cons, List.getElem?_append_left (by rw [blkL_len]; omega), Nat.zero_mul, Nat.zero_add]
  | x :: xs, i + 1, b, j, h, hj => by
    rw [List.flatMap_cons, List.getElem?_append_right (by rw [blkL_len]; omega), blkL_len]
    have := bks_get xs i b j (by simpa using h) hj
    rw [show (i + 1) * 3 + j - 3 = i * 3 + j by omega]
    exact this
/-- v is a row of blocks, the call's own. -/
def OwnBk (W : World) (B : Nat) (v : Value) (bs : List (List Pc)) : Prop := W.ownsRow B 265 3 v bs.length (bs.flatMap blkL)
theorem OwnBk.nil (W : World) (B : Nat) : OwnBk W B (.slice none 0 0) [] := World.ownsRow_nil _ _ _ _
theorem OwnBk.slice {W : World} {B : Nat} {v : Value} {bs : List (List Pc)} (h : OwnBk W B v bs) : ∃ a cap, v = .slice a bs.length cap := slice_of_own h
theorem OwnBk.lt {W : World} {B : Nat} {v : Value} {bs : List (List Pc)} (h : OwnBk W B v bs) : ∀ k, v.ownBlock = some k → B ≤ k ∧ k < W.heap.size := World.ownsRow.lt h
theorem OwnBk.same {W W' : World} {B : Nat} {v : Value} {bs : List (List Pc)} (h : OwnBk W B v bs) (he : ∀ k, v.ownBlock = some k → W'.heap[k]? = W.heap[k]?) : OwnBk W' B v bs := ownsRow_other h he
theorem OwnBk.below {W W' : World} {B : Nat} {v : Value} {bs : List (List Pc)} (h : OwnBk W B v bs) (hb : Below W.heap.size W W') : OwnBk W' B v bs := h.same (fun k hk => hb.block k (h.lt k hk).2)
theorem OwnBk.lower {W : World} {B B2 : Nat} {v : Value} {bs : List (List Pc)} (h : OwnBk W B v bs) (hb : B2 ≤ B) : OwnBk W B2 v bs := by
  refine ⟨h.1, ?_⟩
  rcases h.2 with h2 | ⟨g, cap, cur, rfl, hb2, r⟩
  · exact Or.inl h2
  · exact Or.inr ⟨g, cap, cur, rfl, Nat.le_trans hb hb2, r⟩
theorem OwnBk.cell {W : World} {B : Nat} {v : Value} {bs : List (List Pc)} (h : OwnBk W B v bs) {i : Nat} {b : List Pc} (hi : bs[i]? = some b) : ∃ g cap, v = .slice (some ⟨g, 0, none⟩) bs.length cap ∧ g < W.heap.size ∧ B ≤ g ∧
    W.cell? ⟨g, i * 3, none⟩ = some (.string ⟨(pack b).toArray⟩) ∧ W.cell? ⟨g, i * 3 + 1, none⟩ = some (.int .u32 ((crcL (flat b)).toNat : Int)) ∧ W.cell? ⟨g, i * 3 + 2, none⟩ = some (.int .i64 ((flat b).length : Int)) := by
  have hlt := (List.getElem?_eq_some_iff.1 hi).1
  rcases h.2 with ⟨rfl, h0⟩ | ⟨g, cap, cur, rfl, hB, hg, hnc, _, hcs, ht⟩
  · omega
  · have hc : ∀ j, j < 3 → W.cell? ⟨g, i * 3 + j, none⟩ = (blkL b)[j]? := fun j hj => by
      rw [cell_of_row _ _ _ _ _ _ hg, ← bks_get bs i b j hi hj, ← ht, List.getElem?_take, if_pos (by omega), Array.getElem?_toList]
    exact ⟨g, cap, rfl, (Array.getElem?_eq_some_iff.1 hg).1, hB, hc 0 (by omega), hc 1 (by omega), hc 2 (by omega)⟩
theorem infoBlk : (Tryz.prog.info? 265).map (fun i => (i.zero, i.size, i.bytes)) = some (some (.agg #[.string ⟨#[]⟩, .int .u32 0, .int .i64 0]), 3, 32) := by kernel_rfl
set_option maxHeartbeats 400000 in
/-- 'append' of one block. -/
theorem push_bk {ops : Array Oper} {rest : List Oper} {o : Oper} {a : Act} {Q : Exit → Act → World → Prop} (W : World) (hgd : o.guard = none) (s x : Operand)
    (ho : o.op = .call { callee := .builtin .append, args := #[s, x], argTypes := #[261, 261] })
    (B : Nat) (v : Value) (bs : List (List Pc)) (b : List Pc) (A : Array Value) (hA : A = blkV b) (hown : OwnBk W B v bs) (hs : a.eval s = v) (G : Nat) (hG : W.heap.size = G) (hx : a.eval x = .slice (some ⟨G, 0, none⟩) 1 1)
    (hlen : bs.length ≤ 1000000) (hb : B ≤ W.heap.size)
    (h : ∀ v' w', OwnBk w' B v' (bs ++ [b]) → Touch (fun k => v.ownBlock = some k) W w' → (∀ k, v'.ownBlock = some k → v.ownBlock = some k ∨ W.heap.size ≤ k) → wpList Tryz.prog ops Q rest (a.put o.dst v') w') :
    wpList Tryz.prog ops Q (o :: rest) a (W.alloc (.cells A 265)) := by
  subst hA
  subst hG
  obtain ⟨i0, hi, hz0, hz1, hz2⟩ := info_parts infoBlk
  refine wpList_append_own2 hgd s x 261 ho B 265 i0 (.agg #[.string ⟨#[]⟩, .int .u32 0, .int .i64 0]) 3 32 Tryz.underlying261 hi hz0 hz1 hz2 rfl (by decide) v bs.length (bs.flatMap blkL) (World.ownsRow.alloc hown _) hs ⟨W.heap.size, 0, none⟩ 1 1 (blkL b) hx rfl ?_ ?_ ?_ ?_ ?_ ?_
  · exact news_new _ _ _ _ rfl
  · intro u hu; simp [blkL, blkV] at hu; rcases hu with rfl | rfl | rfl <;> rfl
  · unfold maxLen; omega
  · omega
  · simp; omega
  · intro v' w' hown' hg hv
    refine h v' w' ?_ ?_ (fun k hk => (hv k hk).imp id (fun h => by simp at h; omega))
    · unfold OwnBk
      rw [List.length_append, List.flatMap_append]
      simpa using hown'
    · exact ⟨hg.os, hg.tape, hg.output, by have := hg.size; simp at this; omega, fun k hk hn => (hg.block k (by simp; omega) (fun e => hn e.symm)).trans (alloc_old hk)⟩
set_option maxHeartbeats 400000 in
/-- 'append' of a row of blocks. -/
theorem push_bks {ops : Array Oper} {rest : List Oper} {o : Oper} {a : Act} {Q : Exit → Act → World → Prop} (W : World) (hgd : o.guard = none) (s x : Operand)
    (ho : o.op = .call { callee := .builtin .append, args := #[s, x], argTypes := #[261, 261] })
    (B B2 : Nat) (v u : Value) (bs cs : List (List Pc)) (hown : OwnBk W B v bs) (hsrc : OwnBk W B2 u cs) (hs : a.eval s = v) (hx : a.eval x = u)
    (hlen : bs.length + cs.length ≤ 1000000) (hb : B ≤ W.heap.size)
    (h : ∀ v' w', OwnBk w' B v' (bs ++ cs) → Touch (fun k => v.ownBlock = some k) W w' → (∀ k, v'.ownBlock = some k → v.ownBlock = some k ∨ W.heap.size ≤ k) → wpList Tryz.prog ops Q rest (a.put o.dst v') w') :
    wpList Tryz.prog ops Q (o :: rest) a W := by
  obtain ⟨i0, hi, hz0, hz1, hz2⟩ := info_parts infoBlk
  rcases hsrc.2 with ⟨rfl, h0⟩ | ⟨g, cap, cur, rfl, _, hg, hnc, _, _, htake⟩
  · obtain rfl : cs = [] := List.eq_nil_of_length_eq_zero h0
    refine wpList_append_own_none hgd s x 261 ho B 265 i0 3 Tryz.underlying261 hi v bs.length (bs.flatMap blkL) hs hown hx ?_
    have := h v W
    rw [List.append_nil] at this
    exact this hown (Touch.refl _ _) (fun k hk => Or.inl hk)
  · refine wpList_append_own2 hgd s x 261 ho B 265 i0 (.agg #[.string ⟨#[]⟩, .int .u32 0, .int .i64 0]) 3 32 Tryz.underlying261 hi hz0 hz1 hz2 rfl (by decide) v bs.length (bs.flatMap blkL) hown hs ⟨g, 0, none⟩ cs.length cap (cs.flatMap blkL) hx (bks_len cs) ?_ ?_ ?_ ?_ ?_ ?_
    · exact World.ownsRow.cells hsrc rfl
    · exact bks_one cs
    · unfold maxLen; omega
    · omega
    · exact hb
    · intro v' w' hown' hgr hv
      refine h v' w' ?_ ⟨hgr.os, hgr.tape, hgr.output, hgr.size, fun k hk hn => hgr.block k hk (fun e => hn e.symm)⟩ hv
      unfold OwnBk
      rw [List.length_append, List.flatMap_append]
      exact hown'
section
variable {B t pb sb room : Nat} {w w' : World} {c : UInt8} {n : Nat} {blk : List Pc} {bv : Value} {tp : Option Nat}
set_option maxHeartbeats 1000000 in
theorem isRoom19_any (r : Int) (w : World) : Calls Tryz.prog 205 #[.int .i64 r] w fun e w' => e = .returned (.bool (decide (5 ≤ r ∧ r ≤ 900000))) ∧ w' = w := by
  by_cases h1 : r < 5
  · have h2 : ¬ r ≥ 5 := by omega
    have h3 : decide (5 ≤ r ∧ r ≤ 900000) = false := by rw [decide_eq_false_iff_not]; omega
    rw [h3]
    go_enter Tryz.func205, Tryz.ntmps205
    go_wp2_with fail
    go_ret
    exact ⟨rfl, rfl⟩
  · have h2 : r ≥ 5 := by omega
    by_cases h4 : r ≤ 900000
    · have h3 : decide (5 ≤ r ∧ r ≤ 900000) = true := by rw [decide_eq_true_eq]; omega
      rw [h3]
      go_enter Tryz.func205, Tryz.ntmps205
      go_wp2_with fail
      go_ret
      exact ⟨rfl, rfl⟩
    · have h3 : decide (5 ≤ r ∧ r ≤ 900000) = false := by rw [decide_eq_false_iff_not]; omega
      rw [h3]
      go_enter Tryz.func205, Tryz.ntmps205
      go_wp2_with fail
      go_ret
      exact ⟨rfl, rfl⟩
set_option maxHeartbeats 1000000 in
theorem snew19_bad (r : Int) (w : World) (h : r < 5 ∨ 900000 < r) : Calls Tryz.prog 148 #[.int .i64 r] w fun e w' => e = .returned (.tuple #[.pointer none, .int .i64 1]) ∧ w' = w := by
  have HI := Lib.hid (isRoom19_any r w)
  rw [show decide (5 ≤ r ∧ r ≤ 900000) = false by rw [decide_eq_false_iff_not]; omega] at HI
  clear h
  go_enter Tryz.func148, Tryz.ntmps148
  go_wp2_with fail
  refine HI.out.mono ?_
  rintro e w1 ⟨rfl, rfl⟩
  go_wp2_with fail
  go_ret2
  exact ⟨rfl, rfl⟩
theorem sp_built1 (s : Nat) : Tryz.prog.built 271 [(1, .pointer (some ⟨s, 0, none⟩))] = some #[.slice none 0 0, .pointer (some ⟨s, 0, none⟩), .int .i64 0] := by kernel_rfl
theorem sp_built2 (r : Int) (p s : Nat) : Tryz.prog.built 273 [(0, .int .i64 r), (1, .pointer (some ⟨p, 0, none⟩)), (2, .agg #[.slice none 0 0, .pointer (some ⟨s, 0, none⟩), .int .i64 0])] = some #[.int .i64 r, .pointer (some ⟨p, 0, none⟩), .slice none 0 0, .pointer (some ⟨s, 0, none⟩), .int .i64 0] := by kernel_rfl
set_option maxRecDepth 100000 in
set_option maxHeartbeats 2000000 in
theorem snew19_any (room : Nat) (w : World) (h1 : 5 ≤ room) (h2 : room ≤ 900000) : Calls Tryz.prog 148 #[.int .i64 (room : Int)] w fun e w' => ∃ t pb sb, e = .returned (.tuple #[.pointer (some ⟨t, 0, none⟩), .int .i64 0]) ∧ IsSp w.heap.size w' t pb sb room 0 0 [] (.slice none 0 0) none ∧ Below w.heap.size w w' := by
  have HI := Lib.hid (isRoom19_any (room : Int) w)
  rw [show decide (5 ≤ (room : Int) ∧ (room : Int) ≤ 900000) = true by rw [decide_eq_true_eq]; omega] at HI
  have HP := Lib.hid (newPacker_any w)
  clear h1 h2
  go_enter Tryz.func148, Tryz.ntmps148
  go_wp2_with fail
  refine HI.out.mono ?_
  rintro e w0 ⟨rfl, rfl⟩
  go_wp2_with fail
  refine HP.out.mono ?_
  rintro e w1 ⟨rfl, hp, hb1⟩
  go_wp2_with fail
  refine (newT_any w1).mono ?_
  rintro e w2 ⟨rfl, hs, hb2⟩
  have hl1 := hp.lt
  have hl2 := hs.lt.1
  have HPB := Lib.hid (hp.other (Touch.ofBelow (S := fun _ => False) hb2) (fun e => e))
  have HSB := Lib.hid hs
  have HBB := Lib.hid (hb1.trans (hb2.mono hb1.size))
  have HLL : Hid (w0.heap.size < w1.heap.size ∧ w1.heap.size < w2.heap.size) := Lib.hid ⟨hl1, hl2⟩
  have hbt1 := sp_built1 w1.heap.size
  have hbt2 := sp_built2 (room : Int) w0.heap.size w1.heap.size
  clear hp hb1 hs hb2 hl1 hl2
  go_wp2_with (first | (refine wpList_build_one rfl 271 1 _ rfl _ rfl _ hbt1 ?_) | (refine wpList_build_three rfl 273 0 1 2 _ _ _ rfl _ _ _ rfl rfl rfl _ hbt2 ?_))
  go_ret2
  refine ⟨_, _, _, rfl, ⟨heap_alloc_new w2 _, ?_, ?_, Or.inl ⟨rfl, rfl⟩, ⟨by have := HLL.out; omega, by have := HLL.out; omega, by have := HLL.out; omega⟩, fun k hk => (by cases hk), fun k hk => (by cases hk), ⟨by have := HLL.out; omega, Nat.le_refl _, by have := HLL.out; omega⟩, fun k hk => (by cases hk)⟩, HBB.out.alloc HBB.out.size _⟩
  · exact HPB.out.other (Touch.ofBelow (S := fun _ => False) ((Below.refl _ _).alloc (Nat.le_refl _) _)) (fun e => e)
  · have e0 : crcL (flat []) = 0#32 := CrcM.crc_nil
    rw [e0]
    exact HSB.out.other (Touch.ofBelow (S := fun _ => False) ((Below.refl _ _).alloc (Nat.le_refl _) _)) (fun e => e) (fun _ _ e => e)
end
end Go.Proofs.YtnachbjhhpnadaaGreatDoor
