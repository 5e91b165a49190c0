/-
  THE WALKS OF LAYER 1's CODE (package bits): the writer.
-/
import Derived.Test.YtnachbjhhpnadaaGreatDoorRow
import Derived.Test.YtnachbjhhpnadaaGreatDoorBitsMath
import Derived.Deep.RegionLaw
namespace Go.Proofs.YtnachbjhhpnadaaGreatDoor
open Go.RowKit BitM
set_option linter.unusedVariables false

set_option maxHeartbeats 400000 in
theorem isLength_yes (n : Int) (w : World) (h : 0 ≤ n) (h2 : n ≤ 32) : Calls Tryz.prog 98 #[.int .i64 n] w fun e w' => e = .returned (.bool true) ∧ w = w' := by
  go_enter Tryz.func98, Tryz.ntmps98
  go_wp2
  go_ret
  exact ⟨rfl, rfl⟩
set_option maxHeartbeats 400000 in
theorem isLength_no (n : Int) (w : World) (h : n < 0 ∨ 32 < n) : Calls Tryz.prog 98 #[.int .i64 n] w fun e w' => e = .returned (.bool false) ∧ w = w' := by
  rcases h with h | h
  · go_enter Tryz.func98, Tryz.ntmps98
    go_wp2
    go_ret
    exact ⟨rfl, rfl⟩
  · have h0 : 0 ≤ n := by omega
    have hd : decide (n ≤ 32) = false := by simp; omega
    go_enter Tryz.func98, Tryz.ntmps98
    go_wp2
    go_ret
    exact ⟨rfl, rfl⟩

set_option maxHeartbeats 400000 in
theorem upToByte_any (N : Int) (n : Nat) (hN : N = (n : Int)) (w : World) (hn : n ≤ 70368744177664) : Calls Tryz.prog 48 #[.int .i64 N] w fun e w' => e = .returned (.int .i64 (((8 - n % 8) % 8 : Nat) : Int)) ∧ w = w' := by
  subst hN
  have e : ((8 : Int) - (n : Int) % 8) % 8 = (((8 - n % 8) % 8 : Nat) : Int) := by omega
  have H := Lib.hid e
  clear e
  go_enter Tryz.func48, Tryz.ntmps48
  go_wp2
  go_ret
  rw [← H.out]
  exact ⟨rfl, rfl⟩

/-- Block b is a writer that has the bits q, of whose bytes tk were taken; v is the row of the others. -/
def IsWriter (w : World) (b : Nat) (v : Value) (q : List Bool) (tk : Nat) : Prop :=
  w.heap[b]? = some (.cells #[v, .int .u64 (num (tail q) : Int), .int .i64 (q.length : Int)] 74 (0, 0)) ∧ tk ≤ q.length / 8 ∧ w.ownsRow (b + 1) 5 1 v (q.length / 8 - tk) (((byts q).drop tk).map u8v)
theorem IsWriter.cells {w : World} {b : Nat} {v : Value} {q : List Bool} {tk : Nat} (h : IsWriter w b v q tk) :
    w.cell? ⟨b, 0, none⟩ = some v ∧ w.cell? ⟨b, 1, none⟩ = some (.int .u64 (num (tail q) : Int)) ∧ w.cell? ⟨b, 2, none⟩ = some (.int .i64 (q.length : Int)) ∧
    w.frozen? ⟨b, 0, none⟩ = false ∧ w.frozen? ⟨b, 1, none⟩ = false ∧ w.frozen? ⟨b, 2, none⟩ = false := by
  obtain ⟨h, _, _⟩ := h
  refine ⟨?_, ?_, ?_, frozen_of_row _ _ _ _ _ h, frozen_of_row _ _ _ _ _ h, frozen_of_row _ _ _ _ _ h⟩ <;> (rw [cell_of_row _ _ _ _ _ _ h]; rfl)
theorem IsWriter.lt {w : World} {b : Nat} {v : Value} {q : List Bool} {tk : Nat} (h : IsWriter w b v q tk) : ∀ k, foot b v k → k < w.heap.size ∧ b ≤ k := by
  intro k hk
  rcases hk with rfl | hk
  · exact ⟨(Array.getElem?_eq_some_iff.1 h.1).1, Nat.le_refl _⟩
  · have := h.2.2.lt k hk
    exact ⟨this.2, by omega⟩
theorem IsWriter.other {w w' : World} {b : Nat} {v : Value} {q : List Bool} {tk : Nat} (h : IsWriter w b v q tk) {S : Nat → Prop} (ht : Touch S w w') (hS : ∀ k, foot b v k → ¬ S k) : IsWriter w' b v q tk :=
  ⟨(ht.block b (h.lt b (Or.inl rfl)).1 (hS b (Or.inl rfl))).trans h.1, h.2.1, ownsRow_other h.2.2 (fun k hk => ht.block k (h.lt k (Or.inr hk)).1 (hS k (Or.inr hk)))⟩
set_option maxHeartbeats 400000 in
theorem newWriter_any (w : World) : Calls Tryz.prog 12 #[] w fun e w' => e = .returned (.pointer (some ⟨w.heap.size, 0, none⟩)) ∧ IsWriter w' w.heap.size (.slice none 0 0) [] 0 ∧ Below w.heap.size w w' := by
  go_enter Tryz.func12, Tryz.ntmps12
  go_wp2
  go_ret
  exact ⟨rfl, ⟨heap_alloc_new _ _, by decide, World.ownsRow_nil _ _ _ _⟩, (Below.refl _ _).alloc (Nat.le_refl _) _⟩
set_option maxHeartbeats 400000 in
theorem wlen_any (b : Nat) (v : Value) (q : List Bool) (tk : Nat) (w : World) (h : IsWriter w b v q tk) : Calls Tryz.prog 14 #[.pointer (some ⟨b, 0, none⟩)] w fun e w' => e = .returned (.int .i64 (q.length : Int)) ∧ w = w' := by
  obtain ⟨c0, c1, c2, f0, f1, f2⟩ := h.cells
  clear h
  go_enter Tryz.func14, Tryz.ntmps14
  go_wp2
  go_ret
  exact ⟨rfl, rfl⟩
set_option maxHeartbeats 400000 in
theorem wheld_any (b : Nat) (v : Value) (q : List Bool) (tk : Nat) (w : World) (h : IsWriter w b v q tk) : Calls Tryz.prog 93 #[.pointer (some ⟨b, 0, none⟩)] w fun e w' => e = .returned (.int .i64 ((q.length / 8 - tk : Nat) : Int)) ∧ w = w' := by
  obtain ⟨c0, c1, c2, f0, f1, f2⟩ := h.cells
  obtain ⟨a, cap, rfl⟩ := slice_of_own h.2.2
  clear h
  go_enter Tryz.func93, Tryz.ntmps93
  go_wp2
  go_ret
  exact ⟨rfl, rfl⟩
set_option maxHeartbeats 400000 in
theorem wtake_any (b : Nat) (v : Value) (q : List Bool) (tk : Nat) (w : World) (h : IsWriter w b v q tk) : Calls Tryz.prog 16 #[.pointer (some ⟨b, 0, none⟩)] w fun e w' =>
    e = .returned (.string ⟨((byts q).drop tk).toArray⟩) ∧ IsWriter w' b (.slice none 0 0) q (q.length / 8) ∧ Touch (foot b v) w w' := by
  obtain ⟨c0, c1, c2, f0, f1, f2⟩ := h.cells
  have hk := conv_row h.2.2
  have H := Lib.hid h
  clear h
  go_enter Tryz.func16, Tryz.ntmps16
  go_wp2
  go_ret
  refine ⟨rfl, ⟨heap_setCell_same _ _ 0 _ _ _ H.out.1, Nat.le_refl _, ?_⟩, (Touch.refl _ _).setCell (Or.inl (Or.inl rfl)) _⟩
  rw [List.drop_of_length_le (by rw [byts_length]; exact Nat.le_refl _), Nat.sub_self]
  exact World.ownsRow_nil _ _ _ _
theorem part_code (q : List Bool) (X n : Nat) (hX : X < 2 ^ n) (hn : n ≤ 32) : bits BinOp.or IntKind.u64 (IntKind.u64.wrap ((num (tail q) : Int) * 2 ^ n)) (X : Int) = (num (tail q ++ field X n) : Int) := by
  have hr : num (tail q) < 2 ^ 8 := Nat.lt_of_lt_of_le (num_lt _) (Nat.pow_le_pow_right (by omega) (by rw [tail_length]; omega))
  have h32 : 2 ^ n ≤ 2 ^ 32 := Nat.pow_le_pow_right (by omega) hn
  have hm : num (tail q) * 2 ^ n < 2 ^ 40 := by
    have : num (tail q) * 2 ^ n ≤ 255 * 2 ^ 32 := Nat.mul_le_mul (by omega) h32
    omega
  have e1 : (num (tail q) : Int) * 2 ^ n = ((num (tail q) * 2 ^ n : Nat) : Int) := by simp
  have e2 : IntKind.u64.wrap ((num (tail q) * 2 ^ n : Nat) : Int) = ((num (tail q) * 2 ^ n : Nat) : Int) := by
    simp only [IntKind.wrap, IntKind.bits, IntKind.signed]
    simp
    omega
  rw [e1, e2, u64_or_nat _ _ (by omega) (by omega), nat_join n _ _ (by simp) hX, num_append, field_length, field_num, Nat.mod_eq_of_lt hX]
theorem shr_code (t : List Bool) (j m : Nat) (h : 8 * j + 8 ≤ t.length) (hm : m = t.length - 8 * j - 8) : ∃ (y : UInt8), (byts t)[j]? = some y ∧ (num t : Int) / 2 ^ m % 256 = (y.toNat : Int) := by
  have hj : j < (byts t).length := by rw [byts_length]; omega
  refine ⟨_, List.getElem?_eq_getElem hj, ?_⟩
  subst hm
  simp only [byts, List.getElem_map, List.getElem_range, byte_at t j h]
  rw [UInt8.toNat_ofNat']
  simp
/-- WHAT THE LOOP OF Put KNOWS: j whole bytes of t were appended. -/
structure PutLoop (w wr : World) (b : Nat) (v v1 : Value) (q t : List Bool) (tk j : Nat) : Prop where
  block : wr.heap[b]? = some (.cells #[v1, .int .u64 (num t : Int), .int .i64 (q.length : Int)] 74 (0, 0))
  row : wr.ownsRow (b + 1) 5 1 v1 (q.length / 8 - tk + j) (((byts q).drop tk ++ (byts t).take j).map u8v)
  touch : Touch (foot b v) w wr
  fresh : ∀ k, v1.ownBlock = some k → v.ownBlock = some k ∨ w.heap.size ≤ k
theorem PutLoop.cells {w wr : World} {b : Nat} {v v1 : Value} {q t : List Bool} {tk j : Nat} (h : PutLoop w wr b v v1 q t tk j) :
    wr.cell? ⟨b, 0, none⟩ = some v1 ∧ wr.cell? ⟨b, 1, none⟩ = some (.int .u64 (num t : Int)) ∧ wr.cell? ⟨b, 2, none⟩ = some (.int .i64 (q.length : Int)) ∧ wr.frozen? ⟨b, 0, none⟩ = false ∧ wr.frozen? ⟨b, 1, none⟩ = false ∧ wr.frozen? ⟨b, 2, none⟩ = false := by
  have h := h.block
  refine ⟨?_, ?_, ?_, frozen_of_row _ _ _ _ _ h, frozen_of_row _ _ _ _ _ h, frozen_of_row _ _ _ _ _ h⟩ <;> (rw [cell_of_row _ _ _ _ _ _ h]; rfl)
theorem PutLoop.start {w : World} {b : Nat} {v : Value} {q t : List Bool} {tk : Nat} (h : IsWriter w b v q tk) : PutLoop w (w.setCell ⟨b, 1, none⟩ (.int .u64 (num t : Int))) b v v q t tk 0 where
  block := heap_setCell_same _ _ 1 _ _ _ h.1
  row := by
    simp only [Nat.add_zero, List.take_zero, List.append_nil]
    exact ownsRow_other h.2.2 (fun k hk => heap_setCell_other _ _ _ _ (by have := (h.2.2.lt k hk).1; simp; omega))
  touch := (Touch.refl _ _).setCell (Or.inl (Or.inl rfl)) _
  fresh := fun k hk => Or.inl hk
theorem PutLoop.step {w wr w1 : World} {b : Nat} {v v1 v2 : Value} {q t : List Bool} {tk j : Nat} {y : UInt8} (h : PutLoop w wr b v v1 q t tk j) (hb : b < w.heap.size) (hy : (byts t)[j]? = some y) (O : Obj)
    (ho : w1.ownsRow (b + 1) 5 1 v2 (q.length / 8 - tk + j + 1) (((byts q).drop tk ++ (byts t).take j).map u8v ++ [u8v y])) (hg : (wr.alloc O).drew.grownBy w1 v1.ownBlock)
    (hf : ∀ k, v2.ownBlock = some k → v1.ownBlock = some k ∨ (wr.alloc O).drew.heap.size ≤ k) :
    PutLoop w (w1.setCell ⟨b, 0, none⟩ v2) b v v2 q t tk (j + 1) ∧ w1.cell? ⟨b, 0, none⟩ = some v1 ∧ w1.frozen? ⟨b, 0, none⟩ = false := by
  have hsz := h.touch.size
  have hbb : w1.heap[b]? = some (.cells #[v1, .int .u64 (num t : Int), .int .i64 (q.length : Int)] 74 (0, 0)) := by
    rw [hg.block b (by simp; omega) (fun e => by have := (h.row.lt b e.symm).1; omega)]
    show (wr.alloc O).heap[b]? = _
    rw [Below.heap_alloc _ _ _ (by omega)]
    exact h.block
  refine ⟨⟨heap_setCell_same _ _ 0 _ _ _ hbb, ?_, ?_, ?_⟩, by rw [cell_of_row _ _ _ _ _ _ hbb]; rfl, frozen_of_row _ _ _ _ _ hbb⟩
  · have e : ((byts q).drop tk ++ (byts t).take (j + 1)).map u8v = ((byts q).drop tk ++ (byts t).take j).map u8v ++ [u8v y] := by
      obtain ⟨hj, hy'⟩ := List.getElem?_eq_some_iff.1 hy
      rw [List.take_succ_eq_append_getElem hj, hy']; simp
    rw [e]
    exact ownsRow_other ho (fun k hk => heap_setCell_other _ _ _ _ (by have := (ho.lt k hk).1; simp; omega))
  · exact ((h.touch.alloc O).drew.grown hg (fun k hk => by
      rcases h.fresh k hk with g | g
      · exact Or.inl (Or.inr g)
      · exact Or.inr g)).setCell (Or.inl (Or.inl rfl)) _
  · intro k hk
    rcases hf k hk with g | g
    · exact h.fresh k g
    · exact Or.inr (by simp at g; omega)
theorem PutLoop.done {w wr : World} {b : Nat} {v v1 : Value} {q f t : List Bool} {tk : Nat} (h : PutLoop w wr b v v1 q t tk (t.length / 8)) (hW : IsWriter w b v q tk) (ht : t = tail q ++ f) (L : Int) (hL : L = ((q ++ f).length : Int)) :
    IsWriter ((wr.setCell ⟨b, 1, none⟩ (.int .u64 (num (tail (q ++ f)) : Int))).setCell ⟨b, 2, none⟩ (.int .i64 L)) b v1 (q ++ f) tk ∧ Touch (foot b v) w ((wr.setCell ⟨b, 1, none⟩ (.int .u64 (num (tail (q ++ f)) : Int))).setCell ⟨b, 2, none⟩ (.int .i64 L)) := by
  subst hL
  have hb2 := heap_setCell_same wr b 1 _ _ (.int .u64 (num (tail (q ++ f)) : Int)) h.block
  have hlen : (q ++ f).length / 8 = q.length / 8 + t.length / 8 := by
    rw [ht, List.length_append, List.length_append, tail_length]; omega
  have htk := hW.2.1
  refine ⟨⟨heap_setCell_same _ _ 2 _ _ _ hb2, by omega, ?_⟩, (h.touch.setCell (Or.inl (Or.inl rfl)) _).setCell (Or.inl (Or.inl rfl)) _⟩
  have hr := h.row
  rw [List.take_of_length_le (by rw [byts_length]; exact Nat.le_refl _)] at hr
  have e1 : (byts (q ++ f)).drop tk = (byts q).drop tk ++ byts t := by
    rw [byts_append, ← ht, List.drop_append_of_le_length (by rw [byts_length]; exact htk)]
  rw [e1, show (q ++ f).length / 8 - tk = q.length / 8 - tk + t.length / 8 by omega]
  exact ownsRow_other hr (fun k hk => by
    have := (hr.lt k hk).1
    rw [heap_setCell_other _ _ _ _ (by simp; omega), heap_setCell_other _ _ _ _ (by simp; omega)])
theorem and_code (t : List Bool) (e : Nat) (he : e = t.length - 8 * (t.length / 8)) (h64 : t.length ≤ 40) :
    bits BinOp.and IntKind.u64 (num t : Int) (IntKind.u64.wrap (IntKind.u64.wrap (2 ^ e) - 1)) = (num (t.drop (8 * (t.length / 8))) : Int) := by
  have h1 := num_lt t
  have h2 : 2 ^ t.length ≤ 2 ^ 40 := Nat.pow_le_pow_right (by omega) h64
  have he8 : e < 8 := by omega
  have h3 : 2 ^ e ≤ 2 ^ 7 := Nat.pow_le_pow_right (by omega) (by omega)
  have h4 : 0 < 2 ^ e := Nat.two_pow_pos e
  have e1 : (2 : Int) ^ e = ((2 ^ e : Nat) : Int) := by simp
  have e2 : IntKind.u64.wrap (IntKind.u64.wrap ((2 ^ e : Nat) : Int) - 1) = ((2 ^ e - 1 : Nat) : Int) := by
    generalize 2 ^ e = z at *
    simp only [IntKind.wrap, IntKind.bits, IntKind.signed]
    simp
    omega
  rw [e1, e2, u64_and_nat _ _ (by omega) (by omega), Nat.and_two_pow_sub_one_eq_mod, num_drop _ _ (by omega), he]
set_option maxRecDepth 100000 in
set_option maxHeartbeats 1000000 in
theorem put_any (b : Nat) (v : Value) (q : List Bool) (tk X n : Nat) (w : World) (h : IsWriter w b v q tk) (hn : n ≤ 32) (hX : X < 2 ^ n) (hq : q.length ≤ 1099511627776) :
    Calls Tryz.prog 47 #[.pointer (some ⟨b, 0, none⟩), .int .u32 (X : Int), .int .i64 (n : Int)] w fun e w' =>
      e = .returned (.int .i64 0) ∧ ∃ v1, IsWriter w' b v1 (q ++ field X n) tk ∧ Touch (foot b v) w w' ∧ (∀ k, v1.ownBlock = some k → v.ownBlock = some k ∨ w.heap.size ≤ k) := by
  obtain ⟨c0, c1, c2, f0, f1, f2⟩ := h.cells
  have H := Lib.hid h
  have hX32 : X < 4294967296 := Nat.lt_of_lt_of_le hX (Nat.pow_le_pow_right (by omega) hn : 2 ^ n ≤ 2 ^ 32)
  have hz : ((X : Int) / 2 ^ n != 0) = false := by
    have e : (X : Int) / 2 ^ n = ((X / 2 ^ n : Nat) : Int) := by simp
    rw [e, Nat.div_eq_of_lt hX]; rfl
  have hor := part_code q X n hX hn
  have htl : (tail q ++ field X n).length = q.length % 8 + n := by rw [List.length_append, tail_length, field_length]
  have HS := Lib.hid (PutLoop.start (t := tail q ++ field X n) h)
  have HA := Lib.hid (byts_append q (field X n))
  have HT := Lib.hid (tail_append q (field X n))
  generalize ht : tail q ++ field X n = t at *
  have HTT := Lib.hid ht
  have HTL := Lib.hid htl
  obtain ⟨i0, hi, hz0, hz1, hz2⟩ := info_parts info5
  have HI := Lib.hid hi
  have HZ0 := Lib.hid hz0
  have HZ1 := Lib.hid hz1
  have HZ2 := Lib.hid hz2
  clear h ht htl hi hz0 hz1 hz2
  go_enter Tryz.func47, Tryz.ntmps47
  go_wp2_with fail
  refine (isLength_yes _ _ (by omega) (by omega)).mono ?_
  rintro e w' ⟨rfl, rfl⟩
  go_wp2_with fail
  go_loopw [7, 41] (fun l i wr => ∃ (j : Nat) (v1 : Value), j ≤ (q.length % 8 + n) / 8 ∧ i = .int .i64 j ∧ l = .int .i64 ((q.length % 8 + n - 8 * j : Nat) : Int) ∧ PutLoop w wr b v v1 q t tk j) (fun _ i _ => (q.length % 8 + n) / 8 - (intOf i).toNat)
  case atStart => exact ⟨0, v, by omega, rfl, iv (by omega), HS.out⟩
  case round =>
    clear c0 c1 c2 f0 f1 f2
    obtain ⟨j, v1, hj, rfl, rfl, hP⟩ := hrel
    obtain ⟨c0, c1, c2, f0, f1, f2⟩ := hP.cells
    have HP := Lib.hid hP
    clear hP
    by_cases hlt : j < (q.length % 8 + n) / 8
    · have hjl : 8 * j + 8 ≤ t.length := by have := HTL.out; omega
      obtain ⟨y, hy, hsh⟩ := shr_code t j (q.length % 8 + n - 8 * j - 8) hjl (by have := HTL.out; omega)
      have hsh2 : IntKind.u8.wrap ((num t : Int) / 2 ^ (q.length % 8 + n - 8 * j - 8)) = (y.toNat : Int) := by rw [IntKind.wrap_u8']; exact hsh
      have he : ((q.length % 8 + n - 8 * j : Nat) : Int) - 8 = ((q.length % 8 + n - 8 * j - 8 : Nat) : Int) := by omega
      have hrow := HP.out.row
      have HR := Lib.hid hrow
      have hbs := (H.out.lt b (Or.inl rfl)).1
      have hbr := HP.out.touch.size
      have HY := Lib.hid hy
      clear hrow hjl hy
      go_wp2_with fail
      have hbase : b + 1 ≤ (wr.alloc (.cells #[.int .u8 (y.toNat : Int)] 5)).drew.heap.size := by simp; omega
      have HB := Lib.hid hbase
      have hca : (wr.alloc (.cells #[.int .u8 (y.toNat : Int)] 5)).cell? ⟨b, 0, none⟩ = some v1 := (((Below.refl wr.heap.size wr).alloc (Nat.le_refl _) _).cell (p := ⟨b, 0, none⟩) (by simp; omega)).trans c0
      have hcb : (wr.alloc (.cells #[.int .u8 (y.toNat : Int)] 5)).cell? ⟨b, 1, none⟩ = some (.int .u64 (num t : Int)) := (((Below.refl wr.heap.size wr).alloc (Nat.le_refl _) _).cell (p := ⟨b, 1, none⟩) (by simp; omega)).trans c1
      have hsm : q.length / 8 - tk + j + 1 ≤ maxLen := by unfold maxLen; omega
      have hsm2 : (q.length / 8 - tk + j + 1) * 1 ≤ 140737488355328 := by omega
      have HS1 := Lib.hid hsm
      have HS2 := Lib.hid hsm2
      clear hbase hsm hsm2
      go_region_law ((refine step_append_own' rfl _ _ 71 rfl (b + 1) 5 i0 (.int .u8 0) 1 1 Tryz.underlying71 HI.out HZ0.out HZ1.out HZ2.out rfl (by decide) _ _ _ rfl ((HR.out.alloc _).drew) ⟨wr.heap.size, 0, none⟩ 1 1 [.int .u8 (y.toNat : Int)] rfl rfl (cell_one_new _ _ _) (by intro u hu; simp at hu; subst hu; rfl) HS1.out HS2.out HB.out ?_; intro v2 w1 ho hg hf; obtain ⟨a2, cap2, rfl⟩ := slice_of_own ho; obtain ⟨hst, hcl, hfr⟩ := PutLoop.step HP.out hbs HY.out _ ho hg hf; have HST := Lib.hid hst; clear hst ho hg hf))
      all_goals
        go_wp2_with fail
        go_roundw
        case rel => exact ⟨j + 1, _, by omega, by go_num, iv (by omega), HST.out⟩
        case measure => simp [intOf]; omega
    · obtain rfl : j = (q.length % 8 + n) / 8 := by omega
      have hand := and_code t (q.length % 8 + n - 8 * ((q.length % 8 + n) / 8)) (by have := HTL.out; omega) (by have := HTL.out; omega)
      rw [← HT.out] at hand
      go_wp2_with fail
      go_region
      go_wp2_with fail
      go_ret
      have hL : (q.length : Int) + (n : Int) = ((q ++ field X n).length : Int) := by rw [List.length_append, field_length]; omega
      have hP := HP.out
      rw [← HTL.out] at hP
      obtain ⟨d1, d2⟩ := PutLoop.done hP H.out HTT.out.symm _ hL
      exact ⟨rfl, v1, d1, d2.drew, HP.out.fresh⟩
end Go.Proofs.YtnachbjhhpnadaaGreatDoor
