/-
  THE WALKS OF LAYER 2's CODE (package crc, and the document's answer balerref02).
-/
import Derived.Test.YtnachbjhhpnadaaGreatDoorRows
import Derived.WalkKit
import Derived.WalkSpells
import Derived.WalkLawsBesides
import Derived.Lib.Hide
import Derived.Test.YtnachbjhhpnadaaGreatDoorCrcMath
namespace Go.Proofs.YtnachbjhhpnadaaGreatDoor
open Go.RowKit CrcM

theorem bd32 (x : BitVec 32) : 0 ≤ (x.toNat : Int) ∧ (x.toNat : Int) ≤ 4294967295 := by have := x.isLt; omega

set_option maxHeartbeats 400000 in
theorem eight_any (n : Int) (X : BitVec 32) (hX : n = (X.toNat : Int)) (w : World) :
    Calls Tryz.prog 200 #[.int .u32 n] w fun e w' => e = .returned (.int .u32 ((it 8 X).toNat : Int)) ∧ w = w' := by
  subst hX
  go_enter Tryz.func200, Tryz.ntmps200
  go_wp2
  go_loop [0, 4] (fun v i => ∃ (k : Nat), k ≤ 8 ∧ i = .int .i64 k ∧ v = .int .u32 ((it k X).toNat : Int)) (fun _ i => 8 - (intOf i).toNat)
  case atStart => exact ⟨0, by omega, rfl, rfl⟩
  case round =>
    obtain ⟨k, hk, rfl, rfl⟩ := hrel
    obtain ⟨hb0, hb1⟩ := bd32 (it k X)
    by_cases hlt : k < 8
    · go_wp2
      go_round
      case rel => exact ⟨k + 1, by omega, by go_num, by rw [b1_code]; rfl⟩
      case measure => simp [intOf]; omega
    · obtain rfl : k = 8 := by omega
      go_wp2
      go_ret
      exact ⟨rfl, rfl⟩

set_option maxHeartbeats 400000 in
theorem crcrefBits_any (n : Int) (X : BitVec 32) (hX : n = (X.toNat : Int)) (w : World) :
    Calls Tryz.prog 144 #[.int .u32 n] w fun e w' => e = .returned (.int .u32 ((it 8 X).toNat : Int)) ∧ w = w' := by
  subst hX
  go_enter Tryz.func144, Tryz.ntmps144
  go_wp2
  go_loop [0, 3] (fun v i => ∃ (k : Nat), k ≤ 8 ∧ i = .int .i64 k ∧ v = .int .u32 ((it k X).toNat : Int)) (fun _ i => 8 - (intOf i).toNat)
  case atStart => exact ⟨0, by omega, rfl, rfl⟩
  case round =>
    obtain ⟨k, hk, rfl, rfl⟩ := hrel
    obtain ⟨hb0, hb1⟩ := bd32 (it k X)
    by_cases hlt : k < 8
    · by_cases hh : 2147483648 ≤ ((it k X).toNat : Int)
      · go_wp2
        go_round
        case rel => exact ⟨k + 1, by omega, by go_num, by rw [b1_ref_hi _ hh]; rfl⟩
        case measure => simp [intOf]; omega
      · go_wp2
        go_round
        case rel => exact ⟨k + 1, by omega, by go_num, by rw [b1_ref_lo _ (by omega)]; rfl⟩
        case measure => simp [intOf]; omega
    · obtain rfl : k = 8 := by omega
      go_wp2
      go_ret
      exact ⟨rfl, rfl⟩
/-- A block holds the table. -/
def IsTable (w : World) (B : Nat) : Prop := ∀ i, i < 256 → w.cell? ⟨B, i, none⟩ = some (.int .u32 ((it 8 (up i)).toNat : Int))

set_option maxRecDepth 100000 in
set_option maxHeartbeats 400000 in
theorem crcnext_any (B : Nat) (X : BitVec 32) (b : UInt8) (w : World) (hT : IsTable w B) :
    Calls Tryz.prog 201 #[.pointer (some ⟨B, 0, none⟩), .int .u32 (X.toNat : Int), .int .u8 (b.toNat : Int)] w fun e w' => e = .returned (.int .u32 ((nx X b).toNat : Int)) ∧ w = w' := by
  have hb : (b.toNat : Int) < 256 := by have := b.toNat_lt; omega
  obtain ⟨hb0, hb1⟩ := bd32 X
  obtain ⟨i, hi, hidx, hbv⟩ := idx_of X b
  have hc := hT i hi
  have hi2 : (i : Int) < 256 := by omega
  have HV := Lib.hid hbv
  clear hbv hT
  go_enter Tryz.func201, Tryz.ntmps201
  go_wp2
  go_ret
  rw [nx_code X b i HV.out]
  exact ⟨rfl, rfl⟩

set_option maxHeartbeats 400000 in
theorem refStep_any (X : BitVec 32) (b : UInt8) (w : World) :
    Calls Tryz.prog 83 #[.int .u32 (X.toNat : Int), .int .u8 (b.toNat : Int)] w fun e w' => e = .returned (.int .u32 ((nx X b).toNat : Int)) ∧ w = w' := by
  have hb : (b.toNat : Int) < 256 := by have := b.toNat_lt; omega
  go_enter Tryz.func83, Tryz.ntmps83
  go_wp2_with fail
  refine (crcrefBits_any _ (X ^^^ up b.toNat) (xor_up X b) _).mono ?_
  rintro e w' ⟨rfl, rfl⟩
  go_wp2_with fail
  go_ret
  exact ⟨rfl, rfl⟩

theorem take_snoc (s : ByteArray) (k : Nat) (h : k < s.size) : s.data.toList.take (k + 1) = s.data.toList.take k ++ [s[k]] := by
  rw [List.take_succ_eq_append_getElem (by simpa using h)]; rfl
set_option maxHeartbeats 400000 in
theorem further_any (B : Nat) (X : BitVec 32) (s : ByteArray) (w : World) (hT : IsTable w B) (hs : s.size ≤ maxLen) :
    Calls Tryz.prog 140 #[.pointer (some ⟨B, 0, none⟩), .int .u32 (X.toNat : Int), .string s] w fun e w' => e = .returned (.int .u32 ((ng (run (ng X) s.data.toList)).toNat : Int)) ∧ w = w' := by
  unfold maxLen at hs
  have HT := Lib.hid hT
  clear hT
  have hsig : IntKind.u32.signed = false := rfl
  have hng := ng_max
  go_enter Tryz.func140, Tryz.ntmps140
  go_wp2_with fail
  go_loop [7, 8, 13] (fun v _ i => ∃ k : Nat, k ≤ s.size ∧ i = .int .i64 k ∧ v = .int .u32 ((run (ng X) (s.data.toList.take k)).toNat : Int)) (fun _ _ i => s.size - (intOf i).toNat)
  case atStart => exact ⟨0, by omega, rfl, rfl⟩
  case round =>
    obtain ⟨k, hk, rfl, rfl⟩ := hrel
    by_cases hlt : k < s.size
    · have hsn := Lib.hid (take_snoc s k hlt)
      go_wp2_with fail
      refine (crcnext_any B (run (ng X) (s.data.toList.take k)) s[k] w HT.out).mono ?_
      rintro e w' ⟨rfl, rfl⟩
      go_wp2_with fail
      go_round
      case rel => exact ⟨k + 1, by omega, by go_num, by rw [hsn.out, run_snoc]⟩
      case measure => simp [intOf]; omega
    · obtain rfl : k = s.size := by omega
      go_wp2_with fail
      go_ret
      rw [List.take_of_length_le (by simp)]
      exact ⟨rfl, rfl⟩

set_option maxHeartbeats 400000 in
theorem refOf_any (s : ByteArray) (w : World) (hs : s.size ≤ maxLen) :
    Calls Tryz.prog 38 #[.string s] w fun e w' => e = .returned (.int .u32 ((crc s.data.toList).toNat : Int)) ∧ w = w' := by
  unfold maxLen at hs
  go_enter Tryz.func38, Tryz.ntmps38
  go_wp2_with fail
  go_loop [3, 4] (fun v i => ∃ k : Nat, k ≤ s.size ∧ i = .int .i64 k ∧ v = .int .u32 ((run (ng 0#32) (s.data.toList.take k)).toNat : Int)) (fun _ i => s.size - (intOf i).toNat)
  case atStart => exact ⟨0, by omega, rfl, rfl⟩
  case round =>
    obtain ⟨k, hk, rfl, rfl⟩ := hrel
    obtain ⟨hb0, hb1⟩ := bd32 (run (ng 0#32) (s.data.toList.take k))
    by_cases hlt : k < s.size
    · have hsn := Lib.hid (take_snoc s k hlt)
      go_wp2_with fail
      refine (refStep_any (run (ng 0#32) (s.data.toList.take k)) s[k] w).mono ?_
      rintro e w' ⟨rfl, rfl⟩
      go_wp2_with fail
      go_round
      case rel => exact ⟨k + 1, by omega, by go_num, by rw [hsn.out, run_snoc]⟩
      case measure => simp [intOf]; omega
    · obtain rfl : k = s.size := by omega
      go_wp2_with fail
      go_ret
      rw [List.take_of_length_le (by simp)] 
      rw [ng_sub]
      exact ⟨rfl, rfl⟩
/-- The table as a value. -/
def tabArr : Array Value := Array.ofFn (n := 256) fun i => .int .u32 ((it 8 (up i)).toNat : Int)
theorem tabArr_size : tabArr.size = 256 := by simp [tabArr]
theorem tabArr_get (i : Nat) (h : i < 256) : tabArr[i]? = some (.int .u32 ((it 8 (up i)).toNat : Int)) := by
  simp [tabArr, h]
theorem tabArr_of (cs : Array Value) (hs : cs.size = 256) (h : ∀ i, i < 256 → cs[i]? = some (.int .u32 ((it 8 (up i)).toNat : Int))) : cs = tabArr := by
  apply Array.ext_getElem?
  intro i
  by_cases hi : i < 256
  · rw [h i hi, tabArr_get i hi]
  · rw [Array.getElem?_eq_none (by omega), Array.getElem?_eq_none (by rw [tabArr_size]; omega)]
theorem tabArr_cells : tabArr.all (·.oneCell') = true := by
  rw [Array.all_eq_true]
  intro i h
  simp [tabArr, Value.oneCell']
theorem zero51 : Tryz.zeroCells193.size = 256 := by kernel_rfl
theorem info51 : (Tryz.prog.info? 193).map (·.size) = some tabArr.size := by rw [tabArr_size]; kernel_rfl
/-- What the loop knows of the memory: the array that is filled, up to k. -/
def Filled (N k : Nat) (w wr : World) : Prop :=
  Below N w wr ∧ wr.heap.size = N + 2 ∧ wr.heap[N]? = some (.cells Tryz.zeroCells193 193 (0, 0)) ∧ ∃ cs, wr.heap[N + 1]? = some (.cells cs 193 (0, 0)) ∧ cs.size = 256 ∧ ∀ i, i < k → cs[i]? = some (.int .u32 ((it 8 (up i)).toNat : Int))
theorem Filled.start (w : World) : Filled w.heap.size 0 w ((w.alloc (.cells Tryz.zeroCells193 193)).alloc (.cells Tryz.zeroCells193 193)) :=
  ⟨((Below.refl _ _).alloc (Nat.le_refl _) _).alloc (by simp) _, by simp, heap_alloc2_old _ _ _, Tryz.zeroCells193, heap_alloc2_new _ _ _, zero51, fun i h => by omega⟩
theorem Filled.cell {N k : Nat} {w wr : World} (h : Filled N k w wr) (hk : k < 256) : ∃ v, wr.cell? ⟨N + 1, k, none⟩ = some v ∧ wr.frozen? ⟨N + 1, k, none⟩ = false := by
  obtain ⟨_, _, _, cs, hc, hs, _⟩ := h
  refine ⟨cs[k], ?_, frozen_of_row wr _ k cs 193 hc⟩
  rw [cell_of_row wr _ k cs 193 _ hc]; simp [hs, hk]
theorem Filled.step {N k : Nat} {w wr : World} (h : Filled N k w wr) (hk : k < 256) : Filled N (k + 1) w (wr.setCell ⟨N + 1, k, none⟩ (.int .u32 ((it 8 (up k)).toNat : Int))) := by
  obtain ⟨hb, hz, h0, cs, hc, hs, hi⟩ := h
  refine ⟨hb.setCell (by simp) _, by simpa [World.setCell] using hz, ?_, cs.setIfInBounds k (.int .u32 ((it 8 (up k)).toNat : Int)), heap_setCell_same wr _ k cs 193 _ hc, by simpa using hs, ?_⟩
  · rw [heap_setCell_other wr _ N _ (by simp)]; exact h0
  · intro i hi'
    rw [Array.getElem?_setIfInBounds]
    by_cases e : k = i
    · subst e; simp [hs, hk]
    · simp [e]; exact hi i (by omega)
set_option maxRecDepth 100000 in
set_option maxHeartbeats 400000 in
theorem table_any (w : World)  :
    Calls Tryz.prog 139 #[] w fun e w' => e = .returned (.agg tabArr) ∧ Below w.heap.size w w' := by
  have hstart := Filled.start w
  go_enter Tryz.func139, Tryz.ntmps139
  go_wp2_with fail
  go_loopw [2, 3] (fun _ i wr => ∃ k : Nat, k ≤ 256 ∧ i = .int .i64 k ∧ Filled w.heap.size k w wr) (fun _ i _ => 256 - (intOf i).toNat)
  case atStart => exact ⟨0, by omega, rfl, hstart⟩
  case round =>
    clear hstart
    obtain ⟨k, hk, rfl, hF⟩ := hrel
    by_cases hlt : k < 256
    · obtain ⟨v, hv, hfr⟩ := hF.cell hlt
      have hk2 : (k : Int) < 256 := by omega
      go_wp2_with fail
      refine (eight_any _ (up k) (up_code k hlt) _).mono ?_
      rintro e w' ⟨rfl, rfl⟩
      go_wp2_with fail
      go_roundw
      case rel => exact ⟨k + 1, by omega, by go_num, hF.step hlt⟩
      case measure => simp [intOf]; omega
    · obtain rfl : k = 256 := by omega
      obtain ⟨hb, hz, h0, cs, hc, hs, hi⟩ := hF
      obtain rfl := tabArr_of cs hs hi
      have hT : tabArr.size = 256 := tabArr_size
      go_wp2_with (first | (refine wpList_load_row rfl 193 _ rfl (w.heap.size + 1) rfl 193 tabArr (0, 0) _ hc Tryz.underlying193 rfl info51 ?_) | (refine wpList_store_row rfl 193 _ _ rfl w.heap.size tabArr rfl rfl 193 Tryz.zeroCells193 h0 info51 (zero51.trans tabArr_size.symm) tabArr_cells ?_))
      refine bodyPost_ret (v := .agg tabArr) (results_cell_row rfl _ _ w.heap.size 193 tabArr (0, 0) _ rfl (setRow_heap wr _ Tryz.zeroCells193 tabArr 193 _ h0) Tryz.underlying193 rfl info51) rfl ⟨rfl, ?_⟩
      exact hb.trans ⟨rfl, rfl, rfl, by simp [World.setRow], fun j hj => setRow_other wr _ j _ (by omega)⟩

set_option maxHeartbeats 400000 in
theorem crcof_any (s : ByteArray) (w : World) (hs : s.size ≤ maxLen) :
    Calls Tryz.prog 78 #[.string s] w fun e w' => e = .returned (.int .u32 ((crc s.data.toList).toNat : Int)) ∧ Below w.heap.size w w' := by
  have h0 : (0 : Int) = ((0#32 : BitVec 32).toNat : Int) := rfl
  have H0 := Lib.hid h0
  clear h0
  go_enter Tryz.func78, Tryz.ntmps78
  go_wp2_with fail
  refine (table_any _).mono ?_
  rintro e w1 ⟨rfl, hb⟩
  have hg : (w1.alloc (.cells Tryz.zeroCells193 193)).heap[w1.heap.size]? = some (.cells Tryz.zeroCells193 193 (0, 0)) := heap_alloc_new _ _
  go_wp2_with (refine wpList_store_row rfl 193 _ _ rfl w1.heap.size tabArr rfl rfl 193 Tryz.zeroCells193 hg info51 (zero51.trans tabArr_size.symm) tabArr_cells ?_)
  have hT : IsTable ((w1.alloc (.cells Tryz.zeroCells193 193)).setRow w1.heap.size tabArr) w1.heap.size := fun i hi => by
    rw [cell_of_row _ _ i tabArr 193 _ (setRow_heap _ _ _ _ 193 _ hg)]; exact tabArr_get i hi
  rw [H0.out]
  refine (further_any w1.heap.size 0#32 s _ hT hs).mono ?_
  rintro e w' ⟨rfl, rfl⟩
  have hz := hb.size
  have hB : Below w.heap.size w ((w1.alloc (.cells Tryz.zeroCells193 193)).setRow w1.heap.size tabArr) :=
    (hb.alloc hz _).trans ⟨rfl, rfl, rfl, by simp [World.setRow], fun j hj => setRow_other _ _ j _ (by omega)⟩
  have HB := Lib.hid hB
  clear hg hT hb hB hz
  go_wp2_with fail
  go_ret
  exact ⟨rfl, HB.out⟩

theorem bits_or_dis (x : BitVec 32) : bits BinOp.or IntKind.u32 ((x.toNat : Int) * 2 % 4294967296) ((x.toNat : Int) / 2147483648) = ((rot x).toNat : Int) := by
  have hx := x.isLt
  rw [toNat_dbl, show (x.toNat : Int) / (2147483648 : Int) = ((x >>> 31).toNat : Int) by simp [BitVec.toNat_ushiftRight, Nat.shiftRight_eq_div_pow]]
  rw [u32_or_nat _ _ (x <<< 1).isLt (x >>> 31).isLt, ← BitVec.toNat_or]
  rfl
theorem rot_hi (x : BitVec 32) (h : 2147483648 ≤ (x.toNat : Int)) : (x.toNat : Int) * 2 % 4294967296 + 1 = ((rot x).toNat : Int) := by
  have hx := x.isLt
  rw [← bits_or_dis, show (x.toNat : Int) / (2147483648 : Int) = ((1 : Nat) : Int) by omega, toNat_dbl, u32_or_nat _ _ (x <<< 1).isLt (by omega), nat_join 1 _ 1 (by rw [BitVec.toNat_shiftLeft, Nat.shiftLeft_eq]; omega) (by omega)]
  rfl
theorem rot_lo (x : BitVec 32) (h : (x.toNat : Int) < 2147483648) : (x.toNat : Int) * 2 = ((rot x).toNat : Int) := by
  rw [← bits_or_dis, show (x.toNat : Int) / (2147483648 : Int) = ((0 : Nat) : Int) by omega, toNat_dbl, u32_or_nat _ _ (x <<< 1).isLt (by omega), Nat.or_zero, ← toNat_dbl]
  omega

set_option maxHeartbeats 400000 in
theorem combine_any (X Y : BitVec 32) (w : World) :
    Calls Tryz.prog 150 #[.int .u32 (X.toNat : Int), .int .u32 (Y.toNat : Int)] w fun e w' => e = .returned (.int .u32 ((cmb X Y).toNat : Int)) ∧ w = w' := by
  obtain ⟨hb0, hb1⟩ := bd32 X
  have ho := Lib.hid (bits_or_dis X)
  go_enter Tryz.func150, Tryz.ntmps150
  go_wp2
  go_ret
  rw [ho.out, bits_xor]
  exact ⟨rfl, rfl⟩

end Go.Proofs.YtnachbjhhpnadaaGreatDoor
