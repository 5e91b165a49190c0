/-
  THE WALKS OF LAYER 4's CODE (package feed): the packer.
-/
import Derived.Test.YtnachbjhhpnadaaGreatDoorRleE
import Derived.StillTailTactics
namespace Go.Proofs.YtnachbjhhpnadaaGreatDoor
open Go.RowKit RleM
set_option linter.unusedVariables false
/-- Block b is a packer whose row is n bytes c. -/
def IsPacker (w : World) (b : Nat) (c : UInt8) (n : Nat) : Prop := w.heap[b]? = some (.cells #[.int .u8 (c.toNat : Int), .int .i64 (n : Int)] 304 (0, 0))
theorem IsPacker.lt {w : World} {b : Nat} {c : UInt8} {n : Nat} (h : IsPacker w b c n) : b < w.heap.size := (Array.getElem?_eq_some_iff.1 h).1
theorem IsPacker.other {w w' : World} {b : Nat} {c : UInt8} {n : Nat} {S : Nat → Prop} (h : IsPacker w b c n) (ht : Touch S w w') (hS : ¬ S b) : IsPacker w' b c n := (ht.block b h.lt hS).trans h
theorem IsPacker.cells {w : World} {b : Nat} {c : UInt8} {n : Nat} (h : IsPacker w b c n) : w.cell? ⟨b, 0, none⟩ = some (.int .u8 (c.toNat : Int)) ∧ w.cell? ⟨b, 1, none⟩ = some (.int .i64 (n : Int)) ∧ w.frozen? ⟨b, 0, none⟩ = false ∧ w.frozen? ⟨b, 1, none⟩ = false := by
  refine ⟨?_, ?_, frozen_of_row _ _ _ _ _ h, frozen_of_row _ _ _ _ _ h⟩ <;> (rw [cell_of_row _ _ _ _ _ _ h]; rfl)
theorem IsPacker.put {w : World} {b : Nat} {c d : UInt8} {n m : Nat} (h : IsPacker w b c n) (D M : Int) (hD : D = (d.toNat : Int)) (hM : M = (m : Int)) : IsPacker ((w.setCell ⟨b, 0, none⟩ (.int .u8 D)).setCell ⟨b, 1, none⟩ (.int .i64 M)) b d m := by
  subst hD hM
  unfold IsPacker
  rw [heap_setCell_same _ _ 1 _ _ _ (heap_setCell_same _ _ 0 _ _ _ h)]
  rfl
theorem touch_two {w w1 : World} {b : Nat} (h : Touch (· = b) w w1) (u v : Value) : Touch (· = b) w ((w1.setCell ⟨b, 0, none⟩ u).setCell ⟨b, 1, none⟩ v) :=
  Touch.setCell (Touch.setCell h (p := ⟨b, 0, none⟩) (Or.inl rfl) u) (p := ⟨b, 1, none⟩) (Or.inl rfl) v
/-- What End tells of a row. -/
def packR (c : UInt8) (n : Nat) : List UInt8 := if n = 0 then [] else packP (c, n)
set_option maxHeartbeats 400000 in
theorem newPacker_any (w : World) : Calls Tryz.prog 206 #[] w fun e w' => e = .returned (.pointer (some ⟨w.heap.size, 0, none⟩)) ∧ IsPacker w' w.heap.size 0 0 ∧ Below w.heap.size w w' := by
  go_enter Tryz.func206, Tryz.ntmps206
  go_wp2_with fail
  go_ret
  exact ⟨rfl, heap_alloc_new _ _, (Below.refl _ _).alloc (Nat.le_refl _) _⟩
set_option maxHeartbeats 400000 in
theorem pend_nil (w : World) : Calls Tryz.prog 268 #[.pointer none] w fun e w' => e = .returned (.string ⟨#[]⟩) ∧ w = w' := by
  go_enter Tryz.func268, Tryz.ntmps268
  go_wp2_with fail
  go_ret
  exact ⟨rfl, rfl⟩
set_option maxRecDepth 100000 in
set_option maxHeartbeats 1000000 in
theorem pend_any (b : Nat) (c : UInt8) (n : Nat) (w : World) (h : IsPacker w b c n) (hT : Sizes w) (hb : b ≠ 2) (h0 : n = 0 → c = 0) (hn : n ≤ 255) :
    Calls Tryz.prog 268 #[.pointer (some ⟨b, 0, none⟩)] w fun e w' => e = .returned (.string ⟨(packR c n).toArray⟩) ∧ IsPacker w' b 0 0 ∧ Touch (· = b) w w' := by
  obtain ⟨c0, c1, f0, f1⟩ := h.cells
  have H := Lib.hid h
  have HT := Lib.hid hT
  have hlt := h.lt
  clear h hT
  by_cases hz : n = 0
  · subst hz
    obtain rfl := h0 rfl
    have c1' : w.cell? ⟨b, 1, none⟩ = some (.int .i64 0) := c1
    clear c1
    go_enter Tryz.func268, Tryz.ntmps268
    go_wp2_with fail
    go_ret
    exact ⟨rfl, H.out, Touch.refl _ _⟩
  · have hb0 : ((n : Int) == 0) = false := by rw [beq_eq_false_iff_ne]; omega
    have HR := Lib.hid (show packR c n = packP (c, n) by unfold packR; rw [if_neg hz])
    have h1 : 1 ≤ n := by omega
    clear h0
    go_enter Tryz.func268, Tryz.ntmps268
    go_wp2_with fail
    refine (piece_any (c, n) w HT.out h1 hn).mono ?_
    rintro e w1 ⟨rfl, hb1⟩
    have H1 := Lib.hid (H.out.other (Touch.ofBelow (S := fun _ => False) hb1) (fun h => h))
    obtain ⟨d0, d1, g0, g1⟩ := H1.out.cells
    have HB1 := Lib.hid hb1
    clear hb1
    go_wp2_with fail
    go_ret
    exact ⟨by rw [HR.out]; rfl, H1.out.put 0 0 rfl rfl, touch_two (Touch.ofBelow HB1.out) _ _⟩
set_option maxHeartbeats 400000 in
theorem closed_no (x y : Value) (w : World) : Calls Tryz.prog 286 #[.bool false, x, y] w fun e w' => e = .returned (.tuple #[]) ∧ w = w' := by
  go_enter Tryz.func286, Tryz.ntmps286
  go_wp2_with fail
  go_end0
  exact ⟨rfl, rfl⟩
theorem cell_other {w w' : World} {b k : Nat} {o : Nat} {v : Value} (h : w.cell? ⟨k, o, none⟩ = some v) (ht : Touch (· = b) w w') (hk : k ≠ b) : w'.cell? ⟨k, o, none⟩ = some v := by
  have hlt := World.block_lt_of_cell? w ⟨k, o, none⟩ h
  have e := ht.block k hlt hk
  simp only [World.cell?, e] at h ⊢
  exact h
set_option maxRecDepth 100000 in
set_option maxHeartbeats 1000000 in
theorem touch_or {w w1 : World} {b t : Nat} (h : Touch (· = b) w w1) (v : Value) : Touch (fun k => k = b ∨ k = t) w (w1.setCell ⟨t, 0, none⟩ v) :=
  Touch.setCell (S := fun k => k = b ∨ k = t) (h.mono fun _ h => Or.inl h) (p := ⟨t, 0, none⟩) (Or.inl (Or.inr rfl)) v
theorem Touch.ofDrew {S : Nat → Prop} {w w1 : World} (h : Touch S w.drew w1) : Touch S w w1 := ⟨h.os, h.tape, h.output, h.size, h.block⟩
theorem closed_yes (b t pv : Nat) (o : List UInt8) (c : UInt8) (n : Nat) (w : World) (h : IsPacker w b c n) (ht : w.heap[t]? = some (.cells #[.string ⟨o.toArray⟩] 9 (0, 0))) (hp : w.heap[pv]? = some (.cells #[.pointer (some ⟨b, 0, none⟩)] 266 (0, 0)))
    (htb : t ≠ b) (hpb : pv ≠ b) (hpt : pv ≠ t) (hT : Sizes w) (hb : b ≠ 2) (h0 : n = 0 → c = 0) (hn : n ≤ 255) (ho : o.length ≤ 1000) :
    Calls Tryz.prog 286 #[.bool true, .pointer (some ⟨t, 0, none⟩), .pointer (some ⟨pv, 0, none⟩)] w fun e w' => e = .returned (.tuple #[]) ∧ w'.heap[t]? = some (.cells #[.string ⟨(o ++ packR c n).toArray⟩] 9 (0, 0)) ∧ w'.heap[pv]? = some (.cells #[.pointer (some ⟨b, 0, none⟩)] 266 (0, 0)) ∧ IsPacker w' b 0 0 ∧ Touch (fun k => k = b ∨ k = t) w w' := by
  have a0 : w.cell? ⟨t, 0, none⟩ = some (.string ⟨o.toArray⟩) := by rw [cell_of_row _ _ _ _ _ _ ht]; rfl
  have a1 : w.frozen? ⟨t, 0, none⟩ = false := frozen_of_row _ _ _ _ _ ht
  have a2 : w.cell? ⟨pv, 0, none⟩ = some (.pointer (some ⟨b, 0, none⟩)) := by rw [cell_of_row _ _ _ _ _ _ hp]; rfl
  have H := Lib.hid h
  have HT := Lib.hid hT
  have HTT := Lib.hid ht
  have HPP := Lib.hid hp
  have hlt := (Array.getElem?_eq_some_iff.1 ht).1
  have hlp := (Array.getElem?_eq_some_iff.1 hp).1
  have hsz : (⟨o.toArray⟩ : ByteArray).size + (⟨(packR c n).toArray⟩ : ByteArray).size ≤ 2000 := by
    rw [text_size, text_size]
    unfold packR
    split
    · simp; omega
    · rw [packP_sz]; have := rlsz_le n; simp only; omega
  have hadd : ∀ W, (Op.stringOp .add ⟨o.toArray⟩ ⟨(packR c n).toArray⟩).run Tryz.prog W = .ok (.string (⟨o.toArray⟩ ++ ⟨(packR c n).toArray⟩)) W := fun W => by
    rw [run_string_add_if, if_neg (by omega)]
  clear h hT ht hp hsz
  go_enter Tryz.func286, Tryz.ntmps286
  go_wp2_with fail
  go_region_with (first | (go_at_call 268; refine (pend_any b c n _ (by exact H.out) (by exact HT.out.same rfl) hb h0 hn).mono ?_; rintro e w1 ⟨rfl, hk1, ht1⟩; have b0 := cell_other (w := w.drew) (by exact a0) ht1 htb; have b2 := cell_other (w := w.drew) (by exact a2) ht1 hpb; have e1 : w1.heap[t]? = some (.cells #[.string ⟨o.toArray⟩] 9 (0, 0)) := (ht1.block t hlt htb).trans HTT.out; have b1 : w1.frozen? ⟨t, 0, none⟩ = false := frozen_of_row _ _ _ _ _ e1; have HK1 := Lib.hid hk1; have HT1 := Lib.hid ht1; have HE1 := Lib.hid e1; clear hk1 ht1 e1))
  all_goals
    go_end0
    refine ⟨rfl, ?_, ?_, ?_, ?_⟩
    · rw [heap_setCell_same _ _ 0 _ _ _ HE1.out, ← text_append]; rfl
    · exact (heap_setCell_other w1 ⟨t, 0, none⟩ pv _ hpt).trans ((HT1.out.block pv hlp hpb).trans HPP.out)
    · exact (heap_setCell_other w1 ⟨t, 0, none⟩ b _ (fun e => htb e.symm)).trans HK1.out
    · exact touch_or (Touch.ofDrew HT1.out) _
/-- WHAT Put KNOWS BETWEEN ITS STATEMENTS. -/
structure PS (w : World) (b : Nat) (o : List UInt8) (c : UInt8) (n : Nat) (wr : World) : Prop where
  told : wr.heap[w.heap.size + 1]? = some (.cells #[.string ⟨o.toArray⟩] 9 (0, 0))
  ptr : wr.heap[w.heap.size]? = some (.cells #[.pointer (some ⟨b, 0, none⟩)] 266 (0, 0))
  row : IsPacker wr b c n
  touch : Touch (· = b) w wr
theorem PS.start {w : World} {b : Nat} {c : UInt8} {n : Nat} (h : IsPacker w b c n) : PS w b [] c n ((w.alloc (.cells #[.pointer (some ⟨b, 0, none⟩)] 266)).alloc (.cells #[.string ⟨#[]⟩] 9)) := by
  have e := heap_alloc_new (w.alloc (.cells #[.pointer (some ⟨b, 0, none⟩)] 266)) (.cells #[.string ⟨#[]⟩] 9)
  refine ⟨by simpa using e, ?_, ?_, ((Touch.refl _ _).alloc _).alloc _⟩
  · rw [Below.heap_alloc _ _ _ (by simp)]; exact heap_alloc_new _ _
  · exact h.other (((Touch.refl (fun _ => False) _).alloc _).alloc _) (fun h => h)
theorem PS.put {w wr : World} {b : Nat} {o : List UInt8} {c : UInt8} {n : Nat} (h : PS w b o c n wr) (hlt : b < w.heap.size) (d : UInt8) (m : Nat) (D M : Int) (hD : D = (d.toNat : Int)) (hM : M = (m : Int)) : PS w b o d m ((wr.setCell ⟨b, 0, none⟩ (.int .u8 D)).setCell ⟨b, 1, none⟩ (.int .i64 M)) := by
  refine ⟨?_, ?_, h.row.put D M hD hM, touch_two h.touch _ _⟩
  · exact (heap_setCell_other _ ⟨b, 1, none⟩ _ _ (by show w.heap.size + 1 ≠ b; omega)).trans ((heap_setCell_other _ ⟨b, 0, none⟩ _ _ (by show w.heap.size + 1 ≠ b; omega)).trans h.told)
  · exact (heap_setCell_other _ ⟨b, 1, none⟩ _ _ (by show w.heap.size ≠ b; omega)).trans ((heap_setCell_other _ ⟨b, 0, none⟩ _ _ (by show w.heap.size ≠ b; omega)).trans h.ptr)
theorem PS.drewN {w wr : World} {b : Nat} {o : List UInt8} {c : UInt8} {n : Nat} (h : PS w b o c n wr) (m : Nat) : PS w b o c n (wr.drewN m) :=
  ⟨h.told, h.ptr, h.row, ⟨h.touch.os, h.touch.tape, h.touch.output, h.touch.size, h.touch.block⟩⟩
theorem PS.cells {w wr : World} {b : Nat} {o : List UInt8} {c : UInt8} {n : Nat} (h : PS w b o c n wr) : wr.cell? ⟨w.heap.size + 1, 0, none⟩ = some (.string ⟨o.toArray⟩) ∧ wr.cell? ⟨w.heap.size, 0, none⟩ = some (.pointer (some ⟨b, 0, none⟩)) := by
  constructor
  · rw [cell_of_row _ _ _ _ _ _ h.told]; rfl
  · rw [cell_of_row _ _ _ _ _ _ h.ptr]; rfl
theorem closed_ps {w wr : World} {b : Nat} {o : List UInt8} {c : UInt8} {n : Nat} (h : PS w b o c n wr) (hlt : b < w.heap.size) (hT : Sizes w) (hb : b ≠ 2) (h0 : n = 0 → c = 0) (hn : n ≤ 255) (ho : o.length ≤ 1000) :
    Calls Tryz.prog 286 #[.bool true, .pointer (some ⟨w.heap.size + 1, 0, none⟩), .pointer (some ⟨w.heap.size, 0, none⟩)] wr fun e w' => e = .returned (.tuple #[]) ∧ PS w b (o ++ packR c n) 0 0 w' := by
  refine (closed_yes b (w.heap.size + 1) w.heap.size o c n wr h.row h.told h.ptr (by omega) (by omega) (by omega) (hT.touch h.touch (fun e => hb e.symm)) hb h0 hn ho).mono ?_
  rintro e w' ⟨rfl, h1, h2, h3, h4⟩
  exact ⟨rfl, h1, h2, h3, h.touch.trans h4 (fun i hi => by rcases hi with hi | hi; exact Or.inl hi; exact Or.inr (by omega))⟩
theorem packR_le (c : UInt8) (n : Nat) : (packR c n).length ≤ 5 := by
  unfold packR
  split
  · simp
  · rw [packP_sz]; exact rlsz_le _
/-- PUT, a byte: what is told, and the row then. -/
def pstep (c : UInt8) (n : Nat) (x : UInt8) : List UInt8 × (UInt8 × Nat) :=
  let o := if x = c then [] else packR c n
  let m := if x = c then n + 1 else 1
  if m = 255 then (o ++ packP (x, 255), (0, 0)) else (o, (x, m))
set_option maxHeartbeats 400000 in
theorem pput_nil (x : Value) (w : World) : Calls Tryz.prog 267 #[.pointer none, x] w fun e w' => e = .returned (.string ⟨#[]⟩) ∧ Below w.heap.size w w' := by
  go_enter Tryz.func267, Tryz.ntmps267
  go_wp2_with fail
  go_ret
  exact ⟨rfl, (Below.refl _ _).alloc (Nat.le_refl _) _⟩
set_option maxRecDepth 100000 in
set_option maxHeartbeats 2000000 in
theorem pput_any (b : Nat) (c : UInt8) (n : Nat) (x : UInt8) (w : World) (h : IsPacker w b c n) (hT : Sizes w) (hb : b ≠ 2) (h0 : n = 0 → c = 0) (hn : n ≤ 254) :
    Calls Tryz.prog 267 #[.pointer (some ⟨b, 0, none⟩), .int .u8 (x.toNat : Int)] w fun e w' => e = .returned (.string ⟨(pstep c n x).1.toArray⟩) ∧ IsPacker w' b (pstep c n x).2.1 (pstep c n x).2.2 ∧ Touch (· = b) w w' := by
  have hlt := h.lt
  have HS := Lib.hid (PS.start h)
  have HT := Lib.hid hT
  obtain ⟨c0, c1, f0, f1⟩ := h.cells
  clear h hT
  by_cases hx : x = c
  · have hne : ((x.toNat : Int) != (c.toNat : Int)) = false := by rw [hx]; simp
    have HX := Lib.hid hx
    clear hx
    go_enter Tryz.func267, Tryz.ntmps267
    go_wp2_with fail
    refine (closed_no _ _ _).mono ?_
    rintro e w' ⟨rfl, rfl⟩
    clear hne c0 c1 f0 f1
    generalize hwq : (w.alloc (.cells #[.pointer (some ⟨b, 0, none⟩)] 266)).alloc (.cells #[.string ⟨#[]⟩] 9) = wq at *
    clear hwq
    have HQ : Hid (PS w b [] c n wq) := HS
    obtain ⟨z1, z2⟩ := HQ.out.cells
    obtain ⟨z3, z4, z5, z6⟩ := HQ.out.row.cells
    go_wp2_with fail
    go_still_tail 11, (by kernel_rfl)
    change wpList _ _ _ _ _ (wq.drewN 1)
    have HP := Lib.hid ((HQ.out.drewN 1).put hlt x (n + 1) (x.toNat : Int) ((n : Int) + 1) rfl (by omega))
    by_cases h255 : n = 254
    · have HR := Lib.hid (show pstep c n x = ([] ++ packP (x, 255), (0, 0)) by
        unfold pstep
        rw [if_pos HX.out, if_pos HX.out]
        simp only [h255]
        rfl)
      have HK := Lib.hid (show packR x 255 = packP (x, 255) from rfl)
      have HP2 := Lib.hid ((HQ.out.drewN 1).put hlt x 255 (x.toNat : Int) 255 rfl rfl)
      go_wp2_with fail
      clear z1 z2 z3 z4 z5 z6
      refine (closed_ps HP2.out hlt HT.out hb (fun e => by omega) (by omega) (by simp)).mono ?_
      rintro e w2 ⟨rfl, h2⟩
      obtain ⟨y1, y2⟩ := h2.cells
      rw [HK.out] at y1
      have H2 := Lib.hid h2
      clear h2 h255
      go_wp2_with fail
      go_ret
      rw [HR.out]
      exact ⟨rfl, H2.out.row, H2.out.touch⟩
    · have HR := Lib.hid (show pstep c n x = ([], (x, n + 1)) by
        unfold pstep
        rw [if_pos HX.out, if_pos HX.out]
        simp only
        rw [if_neg (by omega)])
      have hbq : (((n : Nat) : Int) + 1 == 255) = false := by rw [beq_eq_false_iff_ne]; omega
      go_wp2_with fail
      clear z1 z2 z3 z4 z5 z6
      refine (closed_no _ _ _).mono ?_
      rintro e w' ⟨rfl, rfl⟩
      obtain ⟨y1, y2⟩ := HP.out.cells
      go_wp2_with fail
      go_ret
      rw [HR.out]
      exact ⟨rfl, HP.out.row, HP.out.touch⟩
  · have hne : ((x.toNat : Int) != (c.toNat : Int)) = true := by
      have h1 := byte_ne hx
      simp [bne, h1]
    have HX := Lib.hid hx
    clear hx
    go_enter Tryz.func267, Tryz.ntmps267
    go_wp2_with fail
    refine (closed_ps HS.out hlt HT.out hb h0 (by omega) (by simp)).mono ?_
    rintro e wq ⟨rfl, hq⟩
    have HQ := Lib.hid hq
    clear hq hne c0 c1 f0 f1
    rw [List.nil_append] at HQ
    have hpr := packR_le c n
    generalize hO : packR c n = O at *
    have HO := Lib.hid hO
    clear hO
    obtain ⟨z1, z2⟩ := HQ.out.cells
    obtain ⟨z3, z4, z5, z6⟩ := HQ.out.row.cells
    go_wp2_with fail
    go_still_tail 11, (by kernel_rfl)
    change wpList _ _ _ _ _ (wq.drewN 1)
    have HP := Lib.hid ((HQ.out.drewN 1).put hlt x (0 + 1) (x.toNat : Int) 1 rfl rfl)
    have HR := Lib.hid (show pstep c n x = (O, (x, 0 + 1)) by
      unfold pstep
      rw [if_neg HX.out, if_neg HX.out, HO.out]
      simp only
      rw [if_neg (by omega)])
    go_wp2_with fail
    clear z1 z2 z3 z4 z5 z6
    refine (closed_no _ _ _).mono ?_
    rintro e w' ⟨rfl, rfl⟩
    obtain ⟨y1, y2⟩ := HP.out.cells
    go_wp2_with fail
    go_ret
    rw [HR.out]
    exact ⟨rfl, HP.out.row, HP.out.touch⟩
end Go.Proofs.YtnachbjhhpnadaaGreatDoor
