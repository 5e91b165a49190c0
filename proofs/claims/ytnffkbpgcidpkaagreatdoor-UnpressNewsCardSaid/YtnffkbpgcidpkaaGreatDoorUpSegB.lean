/-
  MERGED by seg.py out of: Crc CrcLaw SplA RleMath SplMath Rle RleB RleC RleD.
-/
import Derived.Test.YtnffkbpgcidpkaaGreatDoorUpSegA
import Derived.Test.YtnffkbpgcidpkaaGreatDoorRows
import Derived.WalkKit
import Derived.WalkSpells
import Derived.WalkLawsBesides
import Derived.Lib.Hide
import Derived.Deep.RegionWith
import Derived.Deep.RegionLaw
import Derived.Deep.QuietTactic
import Derived.Outline
import Derived.IntWalk
import Derived.Shelf.Abstract
namespace Go.Proofs.YtnffkbpgcidpkaaGreatDoor
open Go.RowKit CrcM

theorem bd32 (x : BitVec 32) : 0 ≤ (x.toNat : Int) ∧ (x.toNat : Int) ≤ 4294967295 := by have := x.isLt; omega

set_option maxHeartbeats 400000 in
theorem eight_any (n : Int) (X : BitVec 32) (hX : n = (X.toNat : Int)) (w : World) :
    Calls Tryz.prog 126 #[.int .u32 n] w fun e w' => e = .returned (.int .u32 ((it 8 X).toNat : Int)) ∧ w = w' := by
  subst hX
  go_enter Tryz.func126, Tryz.ntmps126
  go_wp2
  go_loop [0, 4] (fun v i => ∃ (k : Nat), k ≤ 8 ∧ i = .int .i64 k ∧ v = .int .u32 ((it k X).toNat : Int)) (fun _ i => 8 - (intOf i).toNat)
  case atStart => exact ⟨0, by omega, rfl, rfl⟩
  case round =>
    obtain ⟨k, hk, rfl, rfl⟩ := hrel
    obtain ⟨hb0, hb1⟩ := bd32 (it k X)
    by_cases hlt : k < 8
    · go_wp2
      go_round
      case rel => exact ⟨k + 1, by omega, by go_num, by rw [b1_code]; rfl⟩
      case measure => simp [intOf]; omega
    · obtain rfl : k = 8 := by omega
      go_wp2
      go_ret
      exact ⟨rfl, rfl⟩

set_option maxHeartbeats 400000 in
theorem crcrefBits_any (n : Int) (X : BitVec 32) (hX : n = (X.toNat : Int)) (w : World) :
    Calls Tryz.prog 100 #[.int .u32 n] w fun e w' => e = .returned (.int .u32 ((it 8 X).toNat : Int)) ∧ w = w' := by
  subst hX
  go_enter Tryz.func100, Tryz.ntmps100
  go_wp2
  go_loop [0, 3] (fun v i => ∃ (k : Nat), k ≤ 8 ∧ i = .int .i64 k ∧ v = .int .u32 ((it k X).toNat : Int)) (fun _ i => 8 - (intOf i).toNat)
  case atStart => exact ⟨0, by omega, rfl, rfl⟩
  case round =>
    obtain ⟨k, hk, rfl, rfl⟩ := hrel
    obtain ⟨hb0, hb1⟩ := bd32 (it k X)
    by_cases hlt : k < 8
    · by_cases hh : 2147483648 ≤ ((it k X).toNat : Int)
      · go_wp2
        go_round
        case rel => exact ⟨k + 1, by omega, by go_num, by rw [b1_ref_hi _ hh]; rfl⟩
        case measure => simp [intOf]; omega
      · go_wp2
        go_round
        case rel => exact ⟨k + 1, by omega, by go_num, by rw [b1_ref_lo _ (by omega)]; rfl⟩
        case measure => simp [intOf]; omega
    · obtain rfl : k = 8 := by omega
      go_wp2
      go_ret
      exact ⟨rfl, rfl⟩
/-- A block holds the table. -/
def IsTable (w : World) (B : Nat) : Prop := ∀ i, i < 256 → w.cell? ⟨B, i, none⟩ = some (.int .u32 ((it 8 (up i)).toNat : Int))

set_option maxRecDepth 100000 in
set_option maxHeartbeats 400000 in
theorem crcnext_any (B : Nat) (X : BitVec 32) (b : UInt8) (w : World) (hT : IsTable w B) :
    Calls Tryz.prog 127 #[.pointer (some ⟨B, 0, none⟩), .int .u32 (X.toNat : Int), .int .u8 (b.toNat : Int)] w fun e w' => e = .returned (.int .u32 ((nx X b).toNat : Int)) ∧ w = w' := by
  have hb : (b.toNat : Int) < 256 := by have := b.toNat_lt; omega
  obtain ⟨hb0, hb1⟩ := bd32 X
  obtain ⟨i, hi, hidx, hbv⟩ := idx_of X b
  have hc := hT i hi
  have hi2 : (i : Int) < 256 := by omega
  have HV := Lib.hid hbv
  clear hbv hT
  go_enter Tryz.func127, Tryz.ntmps127
  go_wp2
  go_ret
  rw [nx_code X b i HV.out]
  exact ⟨rfl, rfl⟩

set_option maxHeartbeats 400000 in
theorem refStep_any (X : BitVec 32) (b : UInt8) (w : World) :
    Calls Tryz.prog 76 #[.int .u32 (X.toNat : Int), .int .u8 (b.toNat : Int)] w fun e w' => e = .returned (.int .u32 ((nx X b).toNat : Int)) ∧ w = w' := by
  have hb : (b.toNat : Int) < 256 := by have := b.toNat_lt; omega
  go_enter Tryz.func76, Tryz.ntmps76
  go_wp2_with fail
  refine (crcrefBits_any _ (X ^^^ up b.toNat) (xor_up X b) _).mono ?_
  rintro e w' ⟨rfl, rfl⟩
  go_wp2_with fail
  go_ret
  exact ⟨rfl, rfl⟩

theorem take_snoc (s : ByteArray) (k : Nat) (h : k < s.size) : s.data.toList.take (k + 1) = s.data.toList.take k ++ [s[k]] := by
  rw [List.take_succ_eq_append_getElem (by simpa using h)]; rfl
set_option maxHeartbeats 400000 in
theorem further_any (B : Nat) (X : BitVec 32) (s : ByteArray) (w : World) (hT : IsTable w B) (hs : s.size ≤ maxLen) :
    Calls Tryz.prog 110 #[.pointer (some ⟨B, 0, none⟩), .int .u32 (X.toNat : Int), .string s] w fun e w' => e = .returned (.int .u32 ((ng (run (ng X) s.data.toList)).toNat : Int)) ∧ w = w' := by
  unfold maxLen at hs
  have HT := Lib.hid hT
  clear hT
  have hsig : IntKind.u32.signed = false := rfl
  have hng := ng_max
  go_enter Tryz.func110, Tryz.ntmps110
  go_wp2_with fail
  go_loop [7, 8, 13] (fun v _ i => ∃ k : Nat, k ≤ s.size ∧ i = .int .i64 k ∧ v = .int .u32 ((run (ng X) (s.data.toList.take k)).toNat : Int)) (fun _ _ i => s.size - (intOf i).toNat)
  case atStart => exact ⟨0, by omega, rfl, rfl⟩
  case round =>
    obtain ⟨k, hk, rfl, rfl⟩ := hrel
    by_cases hlt : k < s.size
    · have hsn := Lib.hid (take_snoc s k hlt)
      go_wp2_with fail
      refine (crcnext_any B (run (ng X) (s.data.toList.take k)) s[k] w HT.out).mono ?_
      rintro e w' ⟨rfl, rfl⟩
      go_wp2_with fail
      go_round
      case rel => exact ⟨k + 1, by omega, by go_num, by rw [hsn.out, run_snoc]⟩
      case measure => simp [intOf]; omega
    · obtain rfl : k = s.size := by omega
      go_wp2_with fail
      go_ret
      rw [List.take_of_length_le (by simp)]
      exact ⟨rfl, rfl⟩

set_option maxHeartbeats 400000 in
theorem refOf_any (s : ByteArray) (w : World) (hs : s.size ≤ maxLen) :
    Calls Tryz.prog 50 #[.string s] w fun e w' => e = .returned (.int .u32 ((crc s.data.toList).toNat : Int)) ∧ w = w' := by
  unfold maxLen at hs
  go_enter Tryz.func50, Tryz.ntmps50
  go_wp2_with fail
  go_loop [3, 4] (fun v i => ∃ k : Nat, k ≤ s.size ∧ i = .int .i64 k ∧ v = .int .u32 ((run (ng 0#32) (s.data.toList.take k)).toNat : Int)) (fun _ i => s.size - (intOf i).toNat)
  case atStart => exact ⟨0, by omega, rfl, rfl⟩
  case round =>
    obtain ⟨k, hk, rfl, rfl⟩ := hrel
    obtain ⟨hb0, hb1⟩ := bd32 (run (ng 0#32) (s.data.toList.take k))
    by_cases hlt : k < s.size
    · have hsn := Lib.hid (take_snoc s k hlt)
      go_wp2_with fail
      refine (refStep_any (run (ng 0#32) (s.data.toList.take k)) s[k] w).mono ?_
      rintro e w' ⟨rfl, rfl⟩
      go_wp2_with fail
      go_round
      case rel => exact ⟨k + 1, by omega, by go_num, by rw [hsn.out, run_snoc]⟩
      case measure => simp [intOf]; omega
    · obtain rfl : k = s.size := by omega
      go_wp2_with fail
      go_ret
      rw [List.take_of_length_le (by simp)] 
      rw [ng_sub]
      exact ⟨rfl, rfl⟩
/-- The table as a value. -/
def tabArr : Array Value := Array.ofFn (n := 256) fun i => .int .u32 ((it 8 (up i)).toNat : Int)
theorem tabArr_size : tabArr.size = 256 := by simp [tabArr]
theorem tabArr_get (i : Nat) (h : i < 256) : tabArr[i]? = some (.int .u32 ((it 8 (up i)).toNat : Int)) := by
  simp [tabArr, h]
theorem tabArr_of (cs : Array Value) (hs : cs.size = 256) (h : ∀ i, i < 256 → cs[i]? = some (.int .u32 ((it 8 (up i)).toNat : Int))) : cs = tabArr := by
  apply Array.ext_getElem?
  intro i
  by_cases hi : i < 256
  · rw [h i hi, tabArr_get i hi]
  · rw [Array.getElem?_eq_none (by omega), Array.getElem?_eq_none (by rw [tabArr_size]; omega)]
theorem tabArr_cells : tabArr.all (·.oneCell') = true := by
  rw [Array.all_eq_true]
  intro i h
  simp [tabArr, Value.oneCell']
theorem zero51 : Tryz.zeroCells149.size = 256 := by kernel_rfl
theorem info51 : (Tryz.prog.info? 149).map (·.size) = some tabArr.size := by rw [tabArr_size]; kernel_rfl
/-- What the loop knows of the memory: the array that is filled, up to k. -/
def Filled (N k : Nat) (w wr : World) : Prop :=
  Below N w wr ∧ wr.heap.size = N + 2 ∧ wr.heap[N]? = some (.cells Tryz.zeroCells149 149 (0, 0)) ∧ ∃ cs, wr.heap[N + 1]? = some (.cells cs 149 (0, 0)) ∧ cs.size = 256 ∧ ∀ i, i < k → cs[i]? = some (.int .u32 ((it 8 (up i)).toNat : Int))
theorem Filled.start (w : World) : Filled w.heap.size 0 w ((w.alloc (.cells Tryz.zeroCells149 149)).alloc (.cells Tryz.zeroCells149 149)) :=
  ⟨((Below.refl _ _).alloc (Nat.le_refl _) _).alloc (by simp) _, by simp, heap_alloc2_old _ _ _, Tryz.zeroCells149, heap_alloc2_new _ _ _, zero51, fun i h => by omega⟩
theorem Filled.cell {N k : Nat} {w wr : World} (h : Filled N k w wr) (hk : k < 256) : ∃ v, wr.cell? ⟨N + 1, k, none⟩ = some v ∧ wr.frozen? ⟨N + 1, k, none⟩ = false := by
  obtain ⟨_, _, _, cs, hc, hs, _⟩ := h
  refine ⟨cs[k], ?_, frozen_of_row wr _ k cs 149 hc⟩
  rw [cell_of_row wr _ k cs 149 _ hc]; simp [hs, hk]
theorem Filled.step {N k : Nat} {w wr : World} (h : Filled N k w wr) (hk : k < 256) : Filled N (k + 1) w (wr.setCell ⟨N + 1, k, none⟩ (.int .u32 ((it 8 (up k)).toNat : Int))) := by
  obtain ⟨hb, hz, h0, cs, hc, hs, hi⟩ := h
  refine ⟨hb.setCell (by simp) _, by simpa [World.setCell] using hz, ?_, cs.setIfInBounds k (.int .u32 ((it 8 (up k)).toNat : Int)), heap_setCell_same wr _ k cs 149 _ hc, by simpa using hs, ?_⟩
  · rw [heap_setCell_other wr _ N _ (by simp)]; exact h0
  · intro i hi'
    rw [Array.getElem?_setIfInBounds]
    by_cases e : k = i
    · subst e; simp [hs, hk]
    · simp [e]; exact hi i (by omega)
set_option maxRecDepth 100000 in
set_option maxHeartbeats 400000 in
theorem table_any (w : World)  :
    Calls Tryz.prog 109 #[] w fun e w' => e = .returned (.agg tabArr) ∧ Below w.heap.size w w' := by
  have hstart := Filled.start w
  go_enter Tryz.func109, Tryz.ntmps109
  go_wp2_with fail
  go_loopw [2, 3] (fun _ i wr => ∃ k : Nat, k ≤ 256 ∧ i = .int .i64 k ∧ Filled w.heap.size k w wr) (fun _ i _ => 256 - (intOf i).toNat)
  case atStart => exact ⟨0, by omega, rfl, hstart⟩
  case round =>
    clear hstart
    obtain ⟨k, hk, rfl, hF⟩ := hrel
    by_cases hlt : k < 256
    · obtain ⟨v, hv, hfr⟩ := hF.cell hlt
      have hk2 : (k : Int) < 256 := by omega
      go_wp2_with fail
      refine (eight_any _ (up k) (up_code k hlt) _).mono ?_
      rintro e w' ⟨rfl, rfl⟩
      go_wp2_with fail
      go_roundw
      case rel => exact ⟨k + 1, by omega, by go_num, hF.step hlt⟩
      case measure => simp [intOf]; omega
    · obtain rfl : k = 256 := by omega
      obtain ⟨hb, hz, h0, cs, hc, hs, hi⟩ := hF
      obtain rfl := tabArr_of cs hs hi
      have hT : tabArr.size = 256 := tabArr_size
      go_wp2_with (first | (refine wpList_load_row rfl 149 _ rfl (w.heap.size + 1) rfl 149 tabArr (0, 0) _ hc Tryz.underlying149 rfl info51 ?_) | (refine wpList_store_row rfl 149 _ _ rfl w.heap.size tabArr rfl rfl 149 Tryz.zeroCells149 h0 info51 (zero51.trans tabArr_size.symm) tabArr_cells ?_))
      refine bodyPost_ret (v := .agg tabArr) (results_cell_row rfl _ _ w.heap.size 149 tabArr (0, 0) _ rfl (setRow_heap wr _ Tryz.zeroCells149 tabArr 149 _ h0) Tryz.underlying149 rfl info51) rfl ⟨rfl, ?_⟩
      exact hb.trans ⟨rfl, rfl, rfl, by simp [World.setRow], fun j hj => setRow_other wr _ j _ (by omega)⟩

theorem bits_or_dis (x : BitVec 32) : bits BinOp.or IntKind.u32 ((x.toNat : Int) * 2 % 4294967296) ((x.toNat : Int) / 2147483648) = ((rot x).toNat : Int) := by
  have hx := x.isLt
  rw [toNat_dbl, show (x.toNat : Int) / (2147483648 : Int) = ((x >>> 31).toNat : Int) by simp [BitVec.toNat_ushiftRight, Nat.shiftRight_eq_div_pow]]
  rw [u32_or_nat _ _ (x <<< 1).isLt (x >>> 31).isLt, ← BitVec.toNat_or]
  rfl
theorem rot_hi (x : BitVec 32) (h : 2147483648 ≤ (x.toNat : Int)) : (x.toNat : Int) * 2 % 4294967296 + 1 = ((rot x).toNat : Int) := by
  have hx := x.isLt
  rw [← bits_or_dis, show (x.toNat : Int) / (2147483648 : Int) = ((1 : Nat) : Int) by omega, toNat_dbl, u32_or_nat _ _ (x <<< 1).isLt (by omega), nat_join 1 _ 1 (by rw [BitVec.toNat_shiftLeft, Nat.shiftLeft_eq]; omega) (by omega)]
  rfl
theorem rot_lo (x : BitVec 32) (h : (x.toNat : Int) < 2147483648) : (x.toNat : Int) * 2 = ((rot x).toNat : Int) := by
  rw [← bits_or_dis, show (x.toNat : Int) / (2147483648 : Int) = ((0 : Nat) : Int) by omega, toNat_dbl, u32_or_nat _ _ (x <<< 1).isLt (by omega), Nat.or_zero, ← toNat_dbl]
  omega

set_option maxHeartbeats 400000 in
theorem combine_any (X Y : BitVec 32) (w : World) :
    Calls Tryz.prog 123 #[.int .u32 (X.toNat : Int), .int .u32 (Y.toNat : Int)] w fun e w' => e = .returned (.int .u32 ((cmb X Y).toNat : Int)) ∧ w = w' := by
  obtain ⟨hb0, hb1⟩ := bd32 X
  have ho := Lib.hid (bits_or_dis X)
  go_enter Tryz.func123, Tryz.ntmps123
  go_wp2
  go_ret
  rw [ho.out, bits_xor]
  exact ⟨rfl, rfl⟩

set_option maxHeartbeats 400000 in
theorem refCombine_any (X Y : BitVec 32) (w : World) :
    Calls Tryz.prog 78 #[.int .u32 (X.toNat : Int), .int .u32 (Y.toNat : Int)] w fun e w' => e = .returned (.int .u32 ((cmb X Y).toNat : Int)) ∧ w = w' := by
  obtain ⟨hb0, hb1⟩ := bd32 X
  by_cases h : 2147483648 ≤ (X.toNat : Int)
  · have ho := Lib.hid (rot_hi X h)
    have hz : 0 ≤ (X.toNat : Int) * 2 % 4294967296 ∧ (X.toNat : Int) * 2 % 4294967296 ≤ 4294967294 := by omega
    obtain ⟨z0, z1⟩ := hz
    go_enter Tryz.func78, Tryz.ntmps78
    go_wp2
    go_ret
    rw [ho.out, bits_xor]
    exact ⟨rfl, rfl⟩
  · have ho := Lib.hid (rot_lo X (by omega))
    go_enter Tryz.func78, Tryz.ntmps78
    go_wp2
    go_ret
    rw [ho.out, bits_xor]
    exact ⟨rfl, rfl⟩
end Go.Proofs.YtnffkbpgcidpkaaGreatDoor
namespace Go.Proofs.YtnffkbpgcidpkaaGreatDoor
open Go.ChangeShapes Go.WideShapes Go.ChangeAt Go.RowKit CrcM
open Go.ChangeMaps (open_string shut_string)
set_option linter.unusedVariables false

theorem bd_u8 {b : Int} (h : (Lit.int .u8 b).wf = true) : ∃ c : UInt8, b = (c.toNat : Int) := by
  have hx : 0 ≤ b ∧ b ≤ 255 := by simpa [Lit.wf, IntKind.min, IntKind.max, IntKind.signed, IntKind.bits] using h
  exact ⟨UInt8.ofNat b.toNat, by simp; omega⟩
theorem bd_u32 {b : Int} (h : (Lit.int .u32 b).wf = true) : ∃ c : BitVec 32, b = (c.toNat : Int) := by
  have hx : 0 ≤ b ∧ b ≤ 4294967295 := by simpa [Lit.wf, IntKind.min, IntKind.max, IntKind.signed, IntKind.bits] using h
  exact ⟨BitVec.ofNat 32 b.toNat, by simp; omega⟩
theorem bd_i64 {b : Int} (h : (Lit.int .i64 b).wf = true) : -9223372036854775808 ≤ b ∧ b ≤ 9223372036854775807 := by
  simpa [Lit.wf, IntKind.min, IntKind.max, IntKind.signed, IntKind.bits] using h

theorem crc9 : ((crc [49, 50, 51, 52, 53, 54, 55, 56, 57]).toNat : Int) = 4236843288 := by decide +kernel
theorem crc0 : ((crc []).toNat : Int) = 0 := by decide +kernel
theorem cmb9 : ((cmb 2147483649#32 2#32).toNat : Int) = 1 := by decide +kernel

noncomputable def Boxed (w1 : World) : World := (w1.alloc (.cells Tryz.zeroCells149 149)).setRow w1.heap.size tabArr
/-- The table in a variable of the call's own. -/
theorem cboxed (w1 w : World) (hb : Below w.heap.size w w1) : IsTable (Boxed w1) w1.heap.size ∧ Below w.heap.size w (Boxed w1) ∧ w1.heap.size + 1 ≤ (Boxed w1).heap.size := by
  have hg : (w1.alloc (.cells Tryz.zeroCells149 149)).heap[w1.heap.size]? = some (.cells Tryz.zeroCells149 149 (0, 0)) := heap_alloc_new _ _
  have hz := hb.size
  refine ⟨fun i hi => ?_, below_setRow (hb.alloc hz _) hz _, ?_⟩
  · unfold Boxed
    rw [cell_of_row _ _ i tabArr 149 _ (setRow_heap _ _ _ _ 149 _ hg)]; exact tabArr_get i hi
  · unfold Boxed
    rw [setRow_size]; simp
theorem conv_one (w : World) (c : UInt8) : (convert 50 9 (.slice (some ⟨w.heap.size, 0, none⟩) 1 1)).run Tryz.prog (w.alloc (.cells #[.int .u8 (c.toNat : Int)] 5)) = .ok (.string ⟨#[c]⟩) (w.alloc (.cells #[.int .u8 (c.toNat : Int)] 5)) :=
  run_convert_bytes_back _ 50 9 5 ⟨w.heap.size, 0, none⟩ 1 [c] Tryz.underlying50 Tryz.underlying5 Tryz.underlying9 (fun j hj => by
    obtain rfl : j = 0 := by simpa using hj
    rw [Addr.add_lit, World.cell?_alloc_mark]; rfl)
set_option maxHeartbeats 400000 in
theorem ctext_nil (x : Value) (w : World) :
    Calls Tryz.prog 86 #[.pointer none, x] w fun e w' => e = .returned (.tuple #[]) ∧ w = w' := by
  go_enter Tryz.func86, Tryz.ntmps86
  go_wp2_with fail
  refine bodyPost_ret (results_none rfl _ _ _) rfl ?_
  exact ⟨rfl, rfl⟩
set_option maxHeartbeats 400000 in
theorem reset_nil (w : World) :
    Calls Tryz.prog 81 #[.pointer none] w fun e w' => e = .returned (.tuple #[]) ∧ w = w' := by
  go_enter Tryz.func81, Tryz.ntmps81
  go_wp2_with fail
  refine bodyPost_ret (results_none rfl _ _ _) rfl ?_
  exact ⟨rfl, rfl⟩
set_option maxHeartbeats 400000 in
theorem value_nil (w : World) :
    Calls Tryz.prog 88 #[.pointer none] w fun e w' => e = .returned (.int .u32 0) ∧ w = w' := by
  go_enter Tryz.func88, Tryz.ntmps88
  go_wp2_with fail
  go_ret
  exact ⟨rfl, rfl⟩
/-! ### A Sum -/
/-- Block b is a Sum whose number is X. -/
def IsSum (w : World) (b : Nat) (X : BitVec 32) : Prop :=
  ∃ tp, w.heap[b]? = some (.cells #[tp, .int .u32 (X.toNat : Int)] 64 (0, 0)) ∧ (tp = .pointer none ∨ ∃ t, tp = .pointer (some ⟨t, 0, none⟩) ∧ IsTable w t ∧ t ≠ b ∧ t < w.heap.size)
set_option maxHeartbeats 400000 in
theorem new_any (w : World) :
    Calls Tryz.prog 24 #[] w fun e w' => e = .returned (.pointer (some ⟨w.heap.size, 0, none⟩)) ∧ IsSum w' w.heap.size 0#32 ∧ Below w.heap.size w w' := by
  go_enter Tryz.func24, Tryz.ntmps24
  go_wp2_with fail
  go_ret
  exact ⟨rfl, ⟨_, heap_alloc_new _ _, Or.inl rfl⟩, (Below.refl _ _).alloc (Nat.le_refl _) _⟩
theorem IsSum.cells {w : World} {b : Nat} {X : BitVec 32} (h : IsSum w b X) : w.cell? ⟨b, 1, none⟩ = some (.int .u32 (X.toNat : Int)) ∧ w.frozen? ⟨b, 0, none⟩ = false ∧ w.frozen? ⟨b, 1, none⟩ = false := by
  obtain ⟨tp, h, _⟩ := h
  exact ⟨by rw [cell_of_row _ _ _ _ _ _ h]; rfl, frozen_of_row _ _ _ _ _ h, frozen_of_row _ _ _ _ _ h⟩
theorem IsTable.other {w w' : World} {t : Nat} (h : IsTable w t) (he : w'.heap[t]? = w.heap[t]?) : IsTable w' t := fun i hi => by
  rw [World.cell?_of_block (w := w) (a := ⟨t, i, none⟩) he]; exact h i hi
theorem IsTable.lt {w : World} {t : Nat} (h : IsTable w t) : t < w.heap.size := World.block_lt_of_cell? w _ (h 0 (by omega))
/-- A Sum that has its table gets another number. -/
theorem IsSum.put {w : World} {b t : Nat} {X Y : BitVec 32} (hb : w.heap[b]? = some (.cells #[.pointer (some ⟨t, 0, none⟩), .int .u32 (X.toNat : Int)] 64 (0, 0))) (hT : IsTable w t) (hne : t ≠ b) :
    IsSum (w.setCell ⟨b, 1, none⟩ (.int .u32 (Y.toNat : Int))) b Y :=
  ⟨_, heap_setCell_same _ _ 1 _ _ _ hb, Or.inr ⟨t, rfl, hT.other (heap_setCell_other _ _ _ _ (by simpa using hne)), hne, by simpa [World.setCell] using hT.lt⟩⟩
theorem grownBy_setCell (w : World) (a : Addr) (v : Value) : w.grownBy (w.setCell a v) (some a.block) :=
  ⟨rfl, rfl, rfl, by simp [World.setCell], fun k _ hk => heap_setCell_other _ _ _ _ (fun e => hk (by rw [e]))⟩
theorem grownBy_trans {a b c : World} {r : Option Nat} (h : a.grownBy b r) (k : b.grownBy c r) : a.grownBy c r :=
  ⟨k.os.trans h.os, k.tape.trans h.tape, k.output.trans h.output, Nat.le_trans h.size k.size, fun i hi hr => (k.block i (Nat.lt_of_lt_of_le hi h.size) hr).trans (h.block i hi hr)⟩
theorem grownBy_below {a b : World} (h : Below a.heap.size a b) (r : Option Nat) : a.grownBy b r := ⟨h.os, h.tape, h.output, h.size, fun k hk _ => h.block k hk⟩
theorem grownBy_drew {a b : World} {r : Option Nat} (h : a.grownBy b r) : a.grownBy b.drew r := ⟨h.os, h.tape, h.output, h.size, h.block⟩
theorem tabled {w w1 : World} {b : Nat} {X : BitVec 32} (hb : w.heap[b]? = some (.cells #[.pointer none, .int .u32 (X.toNat : Int)] 64 (0, 0))) (hB : Below w.heap.size w w1) :
    ((Boxed w1).setCell ⟨b, 0, none⟩ (.pointer (some ⟨w1.heap.size, 0, none⟩))).heap[b]? = some (.cells #[.pointer (some ⟨w1.heap.size, 0, none⟩), .int .u32 (X.toNat : Int)] 64 (0, 0)) ∧ IsTable ((Boxed w1).setCell ⟨b, 0, none⟩ (.pointer (some ⟨w1.heap.size, 0, none⟩))) w1.heap.size ∧ w1.heap.size ≠ b ∧ w.grownBy ((Boxed w1).setCell ⟨b, 0, none⟩ (.pointer (some ⟨w1.heap.size, 0, none⟩))) (some b) ∧
    (Boxed w1).cell? ⟨b, 0, none⟩ = some (.pointer none) ∧ (Boxed w1).frozen? ⟨b, 0, none⟩ = false ∧ ((Boxed w1).setCell ⟨b, 0, none⟩ (.pointer (some ⟨w1.heap.size, 0, none⟩))).cell? ⟨b, 1, none⟩ = some (.int .u32 (X.toNat : Int)) ∧ ((Boxed w1).setCell ⟨b, 0, none⟩ (.pointer (some ⟨w1.heap.size, 0, none⟩))).frozen? ⟨b, 1, none⟩ = false ∧ (Boxed w1).cell? ⟨b, 1, none⟩ = some (.int .u32 (X.toNat : Int)) ∧ (Boxed w1).frozen? ⟨b, 1, none⟩ = false := by
  obtain ⟨hT, hBB, hz⟩ := cboxed w1 w hB
  have hlt : b < w.heap.size := (Array.getElem?_eq_some_iff.1 hb).1
  have hz1 := hB.size
  have hb1 : (Boxed w1).heap[b]? = some (.cells #[.pointer none, .int .u32 (X.toNat : Int)] 64 (0, 0)) := (hBB.block b hlt).trans hb
  have hb2 : ((Boxed w1).setCell ⟨b, 0, none⟩ (.pointer (some ⟨w1.heap.size, 0, none⟩))).heap[b]? = some (.cells #[.pointer (some ⟨w1.heap.size, 0, none⟩), .int .u32 (X.toNat : Int)] 64 (0, 0)) := heap_setCell_same _ _ 0 _ _ _ hb1
  have hne : w1.heap.size ≠ b := by omega
  exact ⟨hb2, hT.other (heap_setCell_other _ _ _ _ (by simpa using hne)), hne, grownBy_trans (grownBy_below hBB _) (grownBy_setCell _ _ _),
    by rw [cell_of_row _ _ _ _ _ _ hb1]; rfl, frozen_of_row _ _ _ _ _ hb1, by rw [cell_of_row _ _ _ _ _ _ hb2]; rfl, frozen_of_row _ _ _ _ _ hb2, by rw [cell_of_row _ _ _ _ _ _ hb1]; rfl, frozen_of_row _ _ _ _ _ hb1⟩
set_option maxRecDepth 100000 in
set_option maxHeartbeats 400000 in
theorem ctext_any (b : Nat) (X : BitVec 32) (s : ByteArray) (w : World) (hS : IsSum w b X) (hs : s.size ≤ maxLen) :
    Calls Tryz.prog 86 #[.pointer (some ⟨b, 0, none⟩), .string s] w fun e w' => e = .returned (.tuple #[]) ∧ IsSum w' b (ng (run (ng X) s.data.toList)) ∧ w.grownBy w' (some b) := by
  obtain ⟨hc1, hf0, hf1⟩ := hS.cells
  obtain ⟨tp, hb, hor⟩ := hS
  have hc0 : w.cell? ⟨b, 0, none⟩ = some tp := by rw [cell_of_row _ _ _ _ _ _ hb]; rfl
  rcases hor with rfl | ⟨t, rfl, hT, hne, hlt⟩
  · have HB := Lib.hid hb
    clear hb
    go_enter Tryz.func86, Tryz.ntmps86
    go_wp2_with fail
    refine (table_any _).mono ?_
    rintro e w1 ⟨rfl, hB⟩
    have hg : (w1.alloc (.cells Tryz.zeroCells149 149)).heap[w1.heap.size]? = some (.cells Tryz.zeroCells149 149 (0, 0)) := heap_alloc_new _ _
    obtain ⟨t1, t2, t3, t4, t5, t6, t7, t8, t9, t10⟩ := tabled HB.out hB
    have T1 := Lib.hid t1
    have T2 := Lib.hid t2
    have T3 := Lib.hid t3
    have T4 := Lib.hid t4
    have T2D := Lib.hid (t2.other (w' := ((Boxed w1).setCell ⟨b, 0, none⟩ (.pointer (some ⟨w1.heap.size, 0, none⟩))).drew) rfl)
    have hc0' : ((Boxed w1).setCell ⟨b, 0, none⟩ (.pointer (some ⟨w1.heap.size, 0, none⟩))).cell? ⟨b, 0, none⟩ = some (.pointer (some ⟨w1.heap.size, 0, none⟩)) := by rw [cell_of_row _ _ _ _ _ _ t1]; rfl
    clear t1 t2 t3 t4 hB
    go_wp2_with (refine wpList_store_row rfl 149 _ _ rfl w1.heap.size tabArr rfl rfl 149 Tryz.zeroCells149 hg info51 (zero51.trans tabArr_size.symm) tabArr_cells ?_; change wpList _ _ _ _ _ (Boxed w1))
    go_region_with (first | (go_at_call 110; refine (further_any w1.heap.size X s _ T2D.out hs).mono ?_; rintro e w' ⟨rfl, rfl⟩))
    all_goals go_wp2_with fail
    all_goals go_end0
    all_goals exact ⟨rfl, IsSum.put T1.out T2.out T3.out, grownBy_drew (grownBy_trans T4.out (grownBy_setCell _ ⟨b, 1, none⟩ _))⟩
  · have HB := Lib.hid hb
    have HT := Lib.hid hT
    have HN := Lib.hid hne
    have HTD := Lib.hid (hT.other (w' := w.drew) rfl)
    clear hb hT hne
    go_enter Tryz.func86, Tryz.ntmps86
    go_wp2_with fail
    go_region_with (first | (go_at_call 110; refine (further_any t X s _ HTD.out hs).mono ?_; rintro e w' ⟨rfl, rfl⟩))
    all_goals go_wp2_with fail
    all_goals go_end0
    all_goals exact ⟨rfl, IsSum.put HB.out HT.out HN.out, grownBy_drew (grownBy_setCell _ ⟨b, 1, none⟩ _)⟩
theorem IsSum.other {w w' : World} {b : Nat} {X : BitVec 32} (h : IsSum w b X) (hg : w.grownBy w' none) : IsSum w' b X := by
  obtain ⟨tp, hb, hor⟩ := h
  have hlt : b < w.heap.size := (Array.getElem?_eq_some_iff.1 hb).1
  refine ⟨tp, (hg.block b hlt (by simp)).trans hb, ?_⟩
  rcases hor with h | ⟨t, h1, h2, h3, h4⟩
  · exact Or.inl h
  · exact Or.inr ⟨t, h1, h2.other (hg.block t h4 (by simp)), h3, Nat.lt_of_lt_of_le h4 hg.size⟩
set_option maxHeartbeats 400000 in
theorem reset_any (b : Nat) (X : BitVec 32) (w : World) (hS : IsSum w b X) :
    Calls Tryz.prog 81 #[.pointer (some ⟨b, 0, none⟩)] w fun e w' => e = .returned (.tuple #[]) ∧ IsSum w' b 0#32 ∧ w.grownBy w' (some b) := by
  obtain ⟨hc1, hf0, hf1⟩ := hS.cells
  have HS := Lib.hid hS
  clear hS
  go_enter Tryz.func81, Tryz.ntmps81
  go_wp2_with fail
  go_end0
  refine ⟨rfl, ?_, grownBy_setCell _ _ _⟩
  obtain ⟨tp, hb, hor⟩ := HS.out
  refine ⟨tp, heap_setCell_same _ _ 1 _ _ _ hb, ?_⟩
  rcases hor with h | ⟨t, h1, h2, h3, h4⟩
  · exact Or.inl h
  · exact Or.inr ⟨t, h1, h2.other (heap_setCell_other _ _ _ _ (by simpa using h3)), h3, by simpa [World.setCell] using h4⟩
set_option maxHeartbeats 400000 in
theorem value_any (b : Nat) (X : BitVec 32) (w : World) (hS : IsSum w b X) :
    Calls Tryz.prog 88 #[.pointer (some ⟨b, 0, none⟩)] w fun e w' => e = .returned (.int .u32 (X.toNat : Int)) ∧ w = w' := by
  obtain ⟨hc1, hf0, hf1⟩ := hS.cells
  clear hS
  go_enter Tryz.func88, Tryz.ntmps88
  go_wp2_with fail
  go_ret
  exact ⟨rfl, rfl⟩
theorem one_byte {x : ByteArray} (h : x.size = 1) : ∃ c, x = ⟨#[c]⟩ := by
  obtain ⟨a⟩ := x
  match a, h with
  | ⟨[c]⟩, _ => exact ⟨c, rfl⟩
theorem crc_more (a b : List UInt8) : ng (run (ng (crc a)) b) = crc (a ++ b) := by unfold crc; rw [ng_ng, run_append]

end Go.Proofs.YtnffkbpgcidpkaaGreatDoor
namespace Go.Proofs.YtnffkbpgcidpkaaGreatDoor
open Go.RowKit CrcM
set_option linter.unusedVariables false
/-- Block b is a Sum whose number is X; its table lies at tp. -/
def SumT (w : World) (b : Nat) (X : BitVec 32) : Option Nat → Prop
  | none => w.heap[b]? = some (.cells #[.pointer none, .int .u32 (X.toNat : Int)] 64 (0, 0))
  | some t => w.heap[b]? = some (.cells #[.pointer (some ⟨t, 0, none⟩), .int .u32 (X.toNat : Int)] 64 (0, 0)) ∧ IsTable w t ∧ t ≠ b
theorem SumT.lt {w : World} {b : Nat} {X : BitVec 32} {tp : Option Nat} (h : SumT w b X tp) : b < w.heap.size ∧ ∀ t, tp = some t → t < w.heap.size ∧ t ≠ b := by
  cases tp with
  | none => exact ⟨(Array.getElem?_eq_some_iff.1 (show _ = _ from h)).1, fun t e => by cases e⟩
  | some t => exact ⟨(Array.getElem?_eq_some_iff.1 h.1).1, fun u e => by cases e; exact ⟨h.2.1.lt, h.2.2⟩⟩
theorem SumT.is {w : World} {b : Nat} {X : BitVec 32} {tp : Option Nat} (h : SumT w b X tp) : IsSum w b X := by
  cases tp with
  | none => exact ⟨_, h, Or.inl rfl⟩
  | some t => exact ⟨_, h.1, Or.inr ⟨t, rfl, h.2.1, h.2.2, h.2.1.lt⟩⟩
theorem SumT.other {w w' : World} {b : Nat} {X : BitVec 32} {tp : Option Nat} (h : SumT w b X tp) {S : Nat → Prop} (ht : Touch S w w') (h1 : ¬ S b) (h2 : ∀ t, tp = some t → ¬ S t) : SumT w' b X tp := by
  have hl := h.lt
  cases tp with
  | none => exact (ht.block b hl.1 h1).trans h
  | some t => exact ⟨(ht.block b hl.1 h1).trans h.1, h.2.1.other (ht.block t (hl.2 t rfl).1 (h2 t rfl)), h.2.2⟩
theorem SumT.drew {w : World} {b : Nat} {X : BitVec 32} {tp : Option Nat} (h : SumT w b X tp) : SumT w.drew b X tp := by
  cases tp <;> exact h
theorem touch_grown {w w' : World} {b : Nat} (h : w.grownBy w' (some b)) : Touch (· = b) w w' := ⟨h.os, h.tape, h.output, h.size, fun k hk hn => h.block k hk (fun e => hn (Option.some.inj e))⟩
set_option maxHeartbeats 400000 in
theorem newT_any (w : World) :
    Calls Tryz.prog 24 #[] w fun e w' => e = .returned (.pointer (some ⟨w.heap.size, 0, none⟩)) ∧ SumT w' w.heap.size 0#32 none ∧ Below w.heap.size w w' := by
  go_enter Tryz.func24, Tryz.ntmps24
  go_wp2_with fail
  go_ret
  exact ⟨rfl, heap_alloc_new _ _, (Below.refl _ _).alloc (Nat.le_refl _) _⟩
theorem SumT.put {w : World} {b t : Nat} {X Y : BitVec 32} (hb : w.heap[b]? = some (.cells #[.pointer (some ⟨t, 0, none⟩), .int .u32 (X.toNat : Int)] 64 (0, 0))) (hT : IsTable w t) (hne : t ≠ b) :
    SumT (w.setCell ⟨b, 1, none⟩ (.int .u32 (Y.toNat : Int))) b Y (some t) :=
  ⟨heap_setCell_same _ _ 1 _ _ _ hb, hT.other (heap_setCell_other _ _ _ _ (by simpa using hne)), hne⟩
set_option maxRecDepth 100000 in
set_option maxHeartbeats 400000 in
theorem textT_any (b : Nat) (X : BitVec 32) (tp : Option Nat) (s : ByteArray) (w : World) (hS : SumT w b X tp) (hs : s.size ≤ maxLen) :
    Calls Tryz.prog 86 #[.pointer (some ⟨b, 0, none⟩), .string s] w fun e w' => e = .returned (.tuple #[]) ∧ (∃ tp', SumT w' b (ng (run (ng X) s.data.toList)) tp' ∧ (tp' = tp ∨ ∃ t, tp' = some t ∧ w.heap.size ≤ t)) ∧ Touch (· = b) w w' := by
  obtain ⟨hc1, hf0, hf1⟩ := hS.is.cells
  cases tp with
  | none =>
    have hb : w.heap[b]? = some (.cells #[.pointer none, .int .u32 (X.toNat : Int)] 64 (0, 0)) := hS
    have hc0 : w.cell? ⟨b, 0, none⟩ = some (.pointer none) := by rw [cell_of_row _ _ _ _ _ _ hb]; rfl
    have HB := Lib.hid hb
    clear hb hS
    go_enter Tryz.func86, Tryz.ntmps86
    go_wp2_with fail
    refine (table_any _).mono ?_
    rintro e w1 ⟨rfl, hB⟩
    have hg : (w1.alloc (.cells Tryz.zeroCells149 149)).heap[w1.heap.size]? = some (.cells Tryz.zeroCells149 149 (0, 0)) := heap_alloc_new _ _
    obtain ⟨t1, t2, t3, t4, t5, t6, t7, t8, t9, t10⟩ := tabled HB.out hB
    have T1 := Lib.hid t1
    have T2 := Lib.hid t2
    have T3 := Lib.hid t3
    have T4 := Lib.hid t4
    have HSZ := Lib.hid hB.size
    have T2D := Lib.hid (t2.other (w' := ((Boxed w1).setCell ⟨b, 0, none⟩ (.pointer (some ⟨w1.heap.size, 0, none⟩))).drew) rfl)
    have hc0' : ((Boxed w1).setCell ⟨b, 0, none⟩ (.pointer (some ⟨w1.heap.size, 0, none⟩))).cell? ⟨b, 0, none⟩ = some (.pointer (some ⟨w1.heap.size, 0, none⟩)) := by rw [cell_of_row _ _ _ _ _ _ t1]; rfl
    clear t1 t2 t3 t4 hB
    go_wp2_with (refine wpList_store_row rfl 149 _ _ rfl w1.heap.size tabArr rfl rfl 149 Tryz.zeroCells149 hg info51 (zero51.trans tabArr_size.symm) tabArr_cells ?_; change wpList _ _ _ _ _ (Boxed w1))
    go_region_with (first | (go_at_call 110; refine (further_any w1.heap.size X s _ T2D.out hs).mono ?_; rintro e w' ⟨rfl, rfl⟩))
    all_goals go_wp2_with fail
    all_goals go_end0
    all_goals exact ⟨rfl, ⟨_, (SumT.put T1.out T2.out T3.out).drew, Or.inr ⟨_, rfl, HSZ.out⟩⟩, touch_grown (grownBy_drew (grownBy_trans T4.out (grownBy_setCell _ ⟨b, 1, none⟩ _)))⟩
  | some t =>
    obtain ⟨hb, hT, hne⟩ := hS
    have hc0 : w.cell? ⟨b, 0, none⟩ = some (.pointer (some ⟨t, 0, none⟩)) := by rw [cell_of_row _ _ _ _ _ _ hb]; rfl
    have HB := Lib.hid hb
    have HT := Lib.hid hT
    have HN := Lib.hid hne
    have HTD := Lib.hid (hT.other (w' := w.drew) rfl)
    clear hb hT hne
    go_enter Tryz.func86, Tryz.ntmps86
    go_wp2_with fail
    go_region_with (first | (go_at_call 110; refine (further_any t X s _ HTD.out hs).mono ?_; rintro e w' ⟨rfl, rfl⟩))
    all_goals go_wp2_with fail
    all_goals go_end0
    all_goals exact ⟨rfl, ⟨_, (SumT.put HB.out HT.out HN.out).drew, Or.inl rfl⟩, touch_grown (grownBy_drew (grownBy_setCell _ ⟨b, 1, none⟩ _))⟩
set_option maxHeartbeats 400000 in
theorem resetT_any (b : Nat) (X : BitVec 32) (tp : Option Nat) (w : World) (hS : SumT w b X tp) :
    Calls Tryz.prog 81 #[.pointer (some ⟨b, 0, none⟩)] w fun e w' => e = .returned (.tuple #[]) ∧ SumT w' b 0#32 tp ∧ Touch (· = b) w w' := by
  obtain ⟨hc1, hf0, hf1⟩ := hS.is.cells
  have HS := Lib.hid hS
  clear hS
  go_enter Tryz.func81, Tryz.ntmps81
  go_wp2_with fail
  go_end0
  refine ⟨rfl, ?_, touch_grown (grownBy_setCell _ _ _)⟩
  have h := HS.out
  cases tp with
  | none =>
    have hb : w.heap[b]? = some (.cells #[.pointer none, .int .u32 (X.toNat : Int)] 64 (0, 0)) := h
    exact heap_setCell_same _ _ 1 _ _ _ hb
  | some t => exact ⟨heap_setCell_same _ _ 1 _ _ _ h.1, h.2.1.other (heap_setCell_other _ _ _ _ (by simpa using h.2.2)), h.2.2⟩
end Go.Proofs.YtnffkbpgcidpkaaGreatDoor
namespace Go.Proofs.YtnffkbpgcidpkaaGreatDoor
namespace RleM

/-- How many bytes of a text are like c at its beginning. -/
def like (c : UInt8) : List UInt8 → Nat
  | [] => 0
  | d :: l => if d = c then like c l + 1 else 0
theorem like_le (c : UInt8) : ∀ l, like c l ≤ l.length
  | [] => Nat.le_refl _
  | d :: l => by
    unfold like
    have := like_le c l
    split <;> simp <;> omega
theorem like_get (c : UInt8) : ∀ (l : List UInt8) (j : Nat), j < like c l → l[j]? = some c
  | [], j, h => by simp [like] at h
  | d :: l, j, h => by
    unfold like at h
    split at h
    · rename_i e
      cases j with
      | zero => simp [e]
      | succ j => simpa using like_get c l j (by omega)
    · omega
theorem like_of (c : UInt8) : ∀ (l : List UInt8) (k : Nat), (∀ j, j < k → l[j]? = some c) → k ≤ like c l
  | _, 0, _ => Nat.zero_le _
  | [], k + 1, h => by have := h 0 (by omega); simp at this
  | d :: l, k + 1, h => by
    have h0 : d = c := by simpa using h 0 (by omega)
    have := like_of c l k (fun j hj => by simpa using h (j + 1) (by omega))
    unfold like
    rw [if_pos h0]; omega
theorem like_stop (c : UInt8) : ∀ (l : List UInt8) (x : UInt8), l[like c l]? = some x → x ≠ c
  | [], x, h => by simp at h
  | d :: l, x, h => by
    unfold like at h
    split at h
    · exact like_stop c l x (by simpa using h)
    · rename_i e
      have : d = x := by simpa using h
      exact this ▸ e
/-- How many bytes the first piece of a text stands for. -/
def row : List UInt8 → Nat
  | [] => 0
  | c :: l => min 255 (like c (c :: l))
theorem row_eq (c : UInt8) (l : List UInt8) : row (c :: l) = min 255 (like c (c :: l)) := rfl
theorem row_pos (c : UInt8) (l : List UInt8) : 1 ≤ row (c :: l) := by
  unfold row like; simp; omega
theorem row_le (l : List UInt8) : row l ≤ l.length := by
  cases l with
  | nil => exact Nat.le_refl _
  | cons c l => have := like_le c (c :: l); rw [row_eq]; omega
theorem row_255 (l : List UInt8) : row l ≤ 255 := by
  cases l with
  | nil => decide
  | cons c l => rw [row_eq]; omega
theorem row_get (c : UInt8) (l : List UInt8) (j : Nat) (h : j < row (c :: l)) : (c :: l)[j]? = some c :=
  like_get c (c :: l) j (by rw [row_eq] at h; omega)
/-- A number that is it. -/
theorem row_of (c : UInt8) (l : List UInt8) (k : Nat) (hk : k ≤ 255) (h : ∀ j, j < k → (c :: l)[j]? = some c) (hs : k = 255 ∨ k = (c :: l).length ∨ ∃ x, (c :: l)[k]? = some x ∧ x ≠ c) : row (c :: l) = k := by
  have h1 := like_of c (c :: l) k h
  rw [row_eq]
  rcases hs with rfl | rfl | ⟨x, hx, hn⟩
  · omega
  · have := like_le c (c :: l); omega
  · rcases Nat.lt_or_ge k (like c (c :: l)) with h2 | h2
    · have := like_get c (c :: l) k h2
      rw [hx] at this
      exact absurd (Option.some.inj this) hn
    · omega

/-- A piece: a byte, and how often. -/
abbrev Pc := UInt8 × Nat
def piecesF : Nat → List UInt8 → List Pc
  | 0, _ => []
  | _, [] => []
  | f + 1, c :: l => (c, row (c :: l)) :: piecesF f ((c :: l).drop (row (c :: l)))
/-- The pieces of a text. -/
def pieces (l : List UInt8) : List Pc := piecesF l.length l
theorem piecesF_more : ∀ (f g : Nat) (l : List UInt8), l.length ≤ f → f ≤ g → piecesF f l = piecesF g l
  | 0, g, l, h, _ => by
    obtain rfl : l = [] := List.eq_nil_of_length_eq_zero (by omega)
    cases g <;> rfl
  | f + 1, 0, l, _, h2 => by omega
  | f + 1, g + 1, [], _, _ => rfl
  | f + 1, g + 1, c :: l, h, h2 => by
    unfold piecesF
    rw [piecesF_more f g _ (by have := row_pos c l; simp at h ⊢; omega) (by omega)]
theorem pieces_nil : pieces [] = [] := rfl
theorem pieces_cons (c : UInt8) (l : List UInt8) : pieces (c :: l) = (c, row (c :: l)) :: pieces ((c :: l).drop (row (c :: l))) := by
  show piecesF (l.length + 1) (c :: l) = _
  unfold piecesF pieces
  rw [piecesF_more ((c :: l).drop (row (c :: l))).length l.length _ (Nat.le_refl _) (by have := row_pos c l; simp; omega)]
/-- What pieces stand for. -/
def flat (ps : List Pc) : List UInt8 := ps.flatMap fun p => List.replicate p.2 p.1
theorem flat_cons (p : Pc) (ps : List Pc) : flat (p :: ps) = List.replicate p.2 p.1 ++ flat ps := rfl
theorem flat_append (ps qs : List Pc) : flat (ps ++ qs) = flat ps ++ flat qs := by simp [flat]
/-- Pieces that are those of a text. -/
def Good : List Pc → Prop
  | [] => True
  | p :: ps => 1 ≤ p.2 ∧ p.2 ≤ 255 ∧ (∀ q, ps.head? = some q → q.1 ≠ p.1 ∨ p.2 = 255) ∧ Good ps
theorem take_row (c : UInt8) (l : List UInt8) : (c :: l).take (row (c :: l)) = List.replicate (row (c :: l)) c := by
  apply List.ext_getElem?
  intro j
  rw [List.getElem?_take, List.getElem?_replicate]
  split
  · exact row_get c l j (by assumption)
  · rfl
theorem row_drop (c : UInt8) (l : List UInt8) (d : UInt8) (h : ((c :: l).drop (row (c :: l))).head? = some d) : d ≠ c ∨ row (c :: l) = 255 := by
  by_cases h255 : row (c :: l) = 255
  · exact Or.inr h255
  · left
    have e : row (c :: l) = like c (c :: l) := by rw [row_eq] at h255 ⊢; omega
    rw [e, List.head?_drop] at h
    exact like_stop c (c :: l) d h
theorem pieces_good : ∀ (n : Nat) (l : List UInt8), l.length ≤ n → Good (pieces l) ∧ flat (pieces l) = l
  | _, [], _ => ⟨trivial, rfl⟩
  | 0, c :: l, h => by simp at h
  | n + 1, c :: l, h => by
    obtain ⟨h1, h2⟩ := pieces_good n ((c :: l).drop (row (c :: l))) (by have := row_pos c l; simp at h ⊢; omega)
    rw [pieces_cons]
    refine ⟨⟨row_pos c l, row_255 (c :: l), fun q hq => ?_, h1⟩, ?_⟩
    · generalize hL : (c :: l).drop (row (c :: l)) = L at *
      cases L with
      | nil => simp [pieces_nil] at hq
      | cons d L =>
        rw [pieces_cons] at hq
        have hq' : (d, row (d :: L)) = q := by simpa using hq
        subst hq'
        exact row_drop c l d (by rw [hL]; rfl)
    · rw [flat_cons, h2, ← take_row]
      exact List.take_append_drop _ _
theorem good (l : List UInt8) : Good (pieces l) := (pieces_good _ l (Nat.le_refl _)).1
theorem flat_pieces (l : List UInt8) : flat (pieces l) = l := (pieces_good _ l (Nat.le_refl _)).2
theorem flat_head {p : Pc} {ps : List Pc} (h : 1 ≤ p.2) : ∃ l, flat (p :: ps) = p.1 :: l := by
  obtain ⟨m, hm⟩ : ∃ m, p.2 = m + 1 := ⟨p.2 - 1, by omega⟩
  rw [flat_cons, hm, List.replicate_succ]
  exact ⟨_, rfl⟩
theorem flat_drop (p : Pc) (ps : List Pc) : (flat (p :: ps)).drop p.2 = flat ps := by
  rw [flat_cons, List.drop_left' (by simp)]
/-- Good pieces are THE pieces of what they stand for. -/
theorem pieces_flat : ∀ ps : List Pc, Good ps → pieces (flat ps) = ps
  | [], _ => rfl
  | p :: ps, h => by
    obtain ⟨h1, h2, h3, h4⟩ := h
    obtain ⟨l, hl⟩ := flat_head (p := p) (ps := ps) h1
    have hr : row (p.1 :: l) = p.2 := by
      rw [← hl]
      have hrep : ∀ j, j < p.2 → (flat (p :: ps))[j]? = some p.1 := fun j hj => by
        rw [flat_cons, List.getElem?_append_left (by simpa using hj)]
        simp [hj]
      have hlen : (flat (p :: ps)).length = p.2 + (flat ps).length := by rw [flat_cons]; simp
      rw [hl] at hrep hlen ⊢
      refine row_of p.1 l p.2 h2 hrep ?_
      cases ps with
      | nil => exact Or.inr (Or.inl (by rw [hlen]; simp [flat]))
      | cons q qs =>
        rcases h3 q rfl with h3 | h3
        · refine Or.inr (Or.inr ⟨q.1, ?_, h3⟩)
          obtain ⟨l2, hl2⟩ := flat_head (p := q) (ps := qs) h4.1
          rw [← hl, flat_cons, List.getElem?_append_right (by simp), hl2]
          simp
        · exact Or.inl h3
    rw [hl, pieces_cons, hr, ← hl, flat_drop, pieces_flat ps h4]
theorem good_append : ∀ {ps : List Pc} {q : Pc}, Good ps → 1 ≤ q.2 → q.2 ≤ 255 → (∀ p, ps.getLast? = some p → q.1 ≠ p.1 ∨ p.2 = 255) → Good (ps ++ [q])
  | [], q, _, h1, h2, _ => ⟨h1, h2, fun _ h => by simp at h, trivial⟩
  | [p], q, h, h1, h2, h3 => ⟨h.1, h.2.1, fun r hr => by
      have : r = q := by simpa using hr.symm
      exact this ▸ h3 p rfl, h1, h2, fun _ h => by simp at h, trivial⟩
  | p :: p2 :: ps, q, h, h1, h2, h3 => ⟨h.1, h.2.1, fun r hr => h.2.2.1 r (by simpa using hr), good_append h.2.2.2 h1 h2 (fun r hr => h3 r (by simpa using hr))⟩
theorem good_left : ∀ {ps qs : List Pc}, Good (ps ++ qs) → Good ps
  | [], _, _ => trivial
  | [p], qs, h => ⟨h.1, h.2.1, fun _ h => by simp at h, trivial⟩
  | p :: p2 :: ps, qs, h => ⟨h.1, h.2.1, fun r hr => h.2.2.1 r (by simpa using hr), good_left (ps := p2 :: ps) h.2.2.2⟩
theorem good_last : ∀ {ps : List Pc} {q : Pc}, Good (ps ++ [q]) → 1 ≤ q.2 ∧ q.2 ≤ 255 ∧ (∀ p, ps.getLast? = some p → q.1 ≠ p.1 ∨ p.2 = 255)
  | [], q, h => ⟨h.1, h.2.1, fun _ h => by simp at h⟩
  | [p], q, h => ⟨h.2.2.2.1, h.2.2.2.2.1, fun r hr => by
      have : p = r := by simpa using hr
      exact this ▸ h.2.2.1 q rfl⟩
  | p :: p2 :: ps, q, h => by
    obtain ⟨a, b, c⟩ := good_last (ps := p2 :: ps) h.2.2.2
    exact ⟨a, b, fun r hr => c r (by simpa using hr)⟩
/-- One byte more: the last piece grows .. -/
theorem pieces_grow (l : List UInt8) (ps : List Pc) (c : UInt8) (n : Nat) (h : pieces l = ps ++ [(c, n)]) (hn : n < 255) : pieces (l ++ [c]) = ps ++ [(c, n + 1)] := by
  have hg := good l
  rw [h] at hg
  obtain ⟨h1, h2, h3⟩ := good_last hg
  have e : l ++ [c] = flat (ps ++ [(c, n + 1)]) := by
    have := flat_pieces l
    rw [h, flat_append] at this
    rw [← this, flat_append]
    simp [flat, List.replicate_succ']
  rw [e]
  refine pieces_flat _ (good_append (good_left hg) (by simp) (by show n + 1 ≤ 255; omega) (fun p hp => ?_))
  exact h3 p hp
/-- .. or there is a new one. -/
theorem pieces_new (l : List UInt8) (b : UInt8) (h : ∀ p, (pieces l).getLast? = some p → b ≠ p.1 ∨ p.2 = 255) : pieces (l ++ [b]) = pieces l ++ [(b, 1)] := by
  have e : l ++ [b] = flat (pieces l ++ [(b, 1)]) := by
    rw [flat_append, flat_pieces]; rfl
  rw [e]
  exact pieces_flat _ (good_append (good l) (by simp) (by simp) h)

/-- A piece as bytes. -/
def packP (p : Pc) : List UInt8 := if p.2 < 4 then List.replicate p.2 p.1 else List.replicate 4 p.1 ++ [UInt8.ofNat (p.2 - 4)]
def pack (ps : List Pc) : List UInt8 := ps.flatMap packP
def encode (l : List UInt8) : List UInt8 := pack (pieces l)
theorem pack_append (ps qs : List Pc) : pack (ps ++ qs) = pack ps ++ pack qs := by simp [pack]
theorem pack_one (p : Pc) : pack [p] = packP p := by simp [pack]
theorem packP_length (p : Pc) : (packP p).length = if p.2 < 4 then p.2 else 5 := by
  unfold packP; split <;> simp
theorem pack_cons (p : Pc) (ps : List Pc) : pack (p :: ps) = packP p ++ pack ps := rfl

/-- UNPACKING, a byte: the last byte, and how many like it stand side by side. -/
def ustep (st : UInt8 × Nat) (c : UInt8) : Option ((UInt8 × Nat) × List UInt8) :=
  if st.2 = 4 then (if 251 < c.toNat then none else some ((st.1, 0), List.replicate c.toNat st.1))
  else some ((c, if c = st.1 then st.2 + 1 else 1), [c])
def urun : UInt8 × Nat → List UInt8 → Option ((UInt8 × Nat) × List UInt8)
  | st, [] => some (st, [])
  | st, c :: l => (ustep st c).bind fun r => (urun r.1 l).map fun q => (q.1, r.2 ++ q.2)
theorem urun_append : ∀ (l m : List UInt8) (st : UInt8 × Nat), urun st (l ++ m) = (urun st l).bind fun r => (urun r.1 m).map fun q => (q.1, r.2 ++ q.2)
  | [], m, st => by simp [urun]
  | c :: l, m, st => by
    simp only [List.cons_append, urun]
    cases h : ustep st c with
    | none => rfl
    | some r =>
      simp only [Option.bind_some, urun_append l m r.1]
      cases urun r.1 l with
      | none => rfl
      | some q =>
        simp only [Option.bind_some, Option.map_some]
        cases urun q.1 m with
        | none => rfl
        | some q2 => simp [List.append_assoc]
theorem urun_snoc (l : List UInt8) (c : UInt8) (st : UInt8 × Nat) : urun st (l ++ [c]) = (urun st l).bind fun r => (ustep r.1 c).map fun q => (q.1, r.2 ++ q.2) := by
  rw [urun_append]
  cases urun st l with
  | none => rfl
  | some r =>
    simp only [Option.bind_some, urun]
    cases ustep r.1 c with
    | none => rfl
    | some q => simp
/-- What comes of it: a text and 0, or no text and what is wrong. -/
def outc : Option ((UInt8 × Nat) × List UInt8) → List UInt8 × Nat
  | none => ([], 25)
  | some (st, o) => if st.2 = 4 then ([], 24) else (o, 0)
def res (st : UInt8 × Nat) (l : List UInt8) : List UInt8 × Nat := outc (urun st l)
def dec (l : List UInt8) : List UInt8 × Nat := res (0, 0) l
def pfx (p : List UInt8) (r : List UInt8 × Nat) : List UInt8 × Nat := if r.2 = 0 then (p ++ r.1, 0) else ([], r.2)
theorem outc_pfx (p : List UInt8) (o : Option ((UInt8 × Nat) × List UInt8)) : outc (o.map fun q => (q.1, p ++ q.2)) = pfx p (outc o) := by
  cases o with
  | none => rfl
  | some q =>
    obtain ⟨st, t⟩ := q
    simp only [outc, Option.map_some]
    split <;> simp [pfx]
theorem res_nil (st : UInt8 × Nat) : res st [] = if st.2 = 4 then ([], 24) else ([], 0) := rfl
theorem res_cons (st : UInt8 × Nat) (c : UInt8) (l : List UInt8) : res st (c :: l) = match ustep st c with | none => ([], 25) | some r => pfx r.2 (res r.1 l) := by
  unfold res
  rw [urun]
  cases ustep st c with
  | none => rfl
  | some r => exact outc_pfx _ _
theorem pfx_pfx (p q : List UInt8) (r : List UInt8 × Nat) : pfx p (pfx q r) = pfx (p ++ q) r := by
  unfold pfx
  split <;> simp_all
theorem pfx_nil (r : List UInt8 × Nat) (h : r.2 ≠ 0 → r.1 = []) : pfx [] r = r := by
  unfold pfx
  split
  · rename_i e; cases r; simp_all
  · cases r; simp_all
/-- With nothing side by side the last byte is nothing. -/
theorem res_zero (a b : UInt8) (l : List UInt8) : res (a, 0) l = res (b, 0) l := by
  cases l with
  | nil => rfl
  | cons c l =>
    rw [res_cons, res_cons]
    have e : ∀ x : UInt8, ustep (x, 0) c = some ((c, 1), [c]) := fun x => by unfold ustep; simp
    rw [e, e]
theorem step_like {c : UInt8} {k : Nat} (hk : k < 4) : ustep (c, k) c = some ((c, k + 1), [c]) := by
  unfold ustep; simp; omega
theorem step_unlike {c d : UInt8} {k : Nat} (hk : k < 4) (h : d ≠ c) : ustep (c, k) d = some ((d, 1), [d]) := by
  unfold ustep
  have : ¬ k = 4 := by omega
  simp [this, h]
theorem res_like {c : UInt8} {k : Nat} (l : List UInt8) (hk : k < 4) : res (c, k) (c :: l) = pfx [c] (res (c, k + 1) l) := by
  rw [res_cons, step_like hk]
theorem res_unlike {c d : UInt8} {k : Nat} (l : List UInt8) (hk : k < 4) (h : d ≠ c) : res (c, k) (d :: l) = pfx [d] (res (d, 1) l) := by
  rw [res_cons, step_unlike hk h]
theorem dec_cons (c : UInt8) (l : List UInt8) : dec (c :: l) = pfx [c] (res (c, 1) l) := by
  unfold dec
  rw [res_zero 0 c, res_like l (by omega)]
/-- Does a text begin with four like bytes? -/
def four : List UInt8 → Bool
  | a :: b :: c :: d :: _ => a == b && b == c && c == d
  | _ => false
theorem res_end {c : UInt8} {k m : Nat} (hk : k < 4) (hm : m < 4) : res (c, k) [] = res (c, m) [] := by
  rw [res_nil, res_nil, if_neg (by simpa using Nat.ne_of_lt hk), if_neg (by simpa using Nat.ne_of_lt hm)]
/-- A byte that stands for itself alone. -/
theorem dec_one (c : UInt8) (l : List UInt8) (h : four (c :: l) = false) : dec (c :: l) = pfx [c] (dec l) := by
  rw [dec_cons]
  congr 1
  show res (c, 1) l = res (0, 0) l
  rw [res_zero 0 c]
  match l with
  | [] => exact res_end (by omega) (by omega)
  | d :: l =>
    by_cases hd : d = c
    · subst hd
      rw [res_like l (by omega), res_like l (by omega)]
      congr 1
      match l with
      | [] => exact res_end (by omega) (by omega)
      | e :: l =>
        by_cases he : e = d
        · subst he
          rw [res_like l (by omega), res_like l (by omega)]
          congr 1
          match l with
          | [] => exact res_end (by omega) (by omega)
          | f :: l =>
            by_cases hf : f = e
            · subst hf
              simp [four] at h
            · rw [res_unlike l (by omega) hf, res_unlike l (by omega) hf]
        · rw [res_unlike l (by omega) he, res_unlike l (by omega) he]
    · rw [res_unlike l (by omega) hd, res_unlike l (by omega) hd]
/-- Four like bytes, and what is behind them. -/
theorem dec_four (c : UInt8) (l : List UInt8) : dec (c :: c :: c :: c :: l) = pfx [c, c, c, c] (res (c, 4) l) := by
  rw [dec_cons, res_like _ (by omega), res_like _ (by omega), res_like _ (by omega), pfx_pfx, pfx_pfx, pfx_pfx]
  rfl
theorem dec_four_end (c : UInt8) : dec [c, c, c, c] = ([], 24) := by
  rw [dec_four]; rfl
theorem dec_four_bad (c n : UInt8) (l : List UInt8) (h : 251 < n.toNat) : dec (c :: c :: c :: c :: n :: l) = ([], 25) := by
  rw [dec_four, res_cons]
  have : ustep (c, 4) n = none := by unfold ustep; simp [h]
  rw [this]; rfl
theorem dec_four_count (c n : UInt8) (l : List UInt8) (h : ¬ 251 < n.toNat) : dec (c :: c :: c :: c :: n :: l) = pfx (List.replicate (4 + n.toNat) c) (dec l) := by
  rw [dec_four, res_cons]
  have : ustep (c, 4) n = some ((c, 0), List.replicate n.toNat c) := by unfold ustep; simp [h]
  rw [this]
  simp only [pfx_pfx]
  show pfx _ (res (c, 0) l) = pfx _ (res (0, 0) l)
  rw [res_zero c 0, show [c, c, c, c] = List.replicate 4 c from rfl, List.replicate_append_replicate]

/-! ### There and back -/
theorem urun_like (c : UInt8) : ∀ (n k : Nat) (l : List UInt8), k + n ≤ 4 → urun (c, k) (List.replicate n c ++ l) = (urun (c, k + n) l).map fun q => (q.1, List.replicate n c ++ q.2)
  | 0, k, l, _ => by simp
  | n + 1, k, l, h => by
    rw [List.replicate_succ, List.cons_append, urun, step_like (by omega), Option.bind_some, urun_like c n (k + 1) l (by omega)]
    rw [show k + 1 + n = k + (n + 1) from by omega]
    cases urun (c, k + (n + 1)) l <;> simp
theorem urun_row (a c : UInt8) (k n : Nat) (l : List UInt8) (hk : k < 4) (h : k = 0 ∨ c ≠ a) (h1 : 1 ≤ n) (hn : n ≤ 4) :
    urun (a, k) (List.replicate n c ++ l) = (urun (c, n) l).map fun q => (q.1, List.replicate n c ++ q.2) := by
  obtain ⟨m, rfl⟩ : ∃ m, n = m + 1 := ⟨n - 1, by omega⟩
  rw [List.replicate_succ, List.cons_append, urun]
  have : ustep (a, k) c = some ((c, 1), [c]) := by
    rcases h with rfl | h
    · unfold ustep; simp
    · exact step_unlike hk h
  rw [this, Option.bind_some]
  simp only
  rw [urun_like c m 1 l (by omega), show 1 + m = m + 1 from by omega]
  cases urun (c, m + 1) l <;> simp
theorem urun_packP (a : UInt8) (k : Nat) (p : Pc) (l : List UInt8) (hk : k < 4) (h : k = 0 ∨ p.1 ≠ a) (h1 : 1 ≤ p.2) (hn : p.2 ≤ 255) :
    ∃ st : UInt8 × Nat, urun (a, k) (packP p ++ l) = (urun st l).map (fun q => (q.1, List.replicate p.2 p.1 ++ q.2)) ∧ st.2 < 4 ∧ st.1 = p.1 ∧ (p.2 = 255 → st.2 = 0) := by
  unfold packP
  split
  · rename_i hlt
    exact ⟨(p.1, p.2), urun_row a p.1 k p.2 l hk h h1 (by omega), hlt, rfl, fun e => by omega⟩
  · rename_i hge
    refine ⟨(p.1, 0), ?_, Nat.zero_lt_succ 3, rfl, fun _ => rfl⟩
    rw [List.append_assoc, urun_row a p.1 k 4 _ hk h (by omega) (by omega)]
    have hc : (UInt8.ofNat (p.2 - 4)).toNat = p.2 - 4 := by rw [UInt8.toNat_ofNat']; omega
    have hs : ustep (p.1, 4) (UInt8.ofNat (p.2 - 4)) = some ((p.1, 0), List.replicate (p.2 - 4) p.1) := by
      unfold ustep
      rw [if_pos rfl, hc, if_neg (by omega)]
    rw [List.singleton_append, urun, hs, Option.bind_some]
    simp only
    cases urun (p.1, 0) l with
    | none => rfl
    | some q =>
      simp only [Option.map_some, Option.some.injEq, Prod.mk.injEq, true_and]
      rw [← List.append_assoc, List.replicate_append_replicate]
      rw [show 4 + (p.2 - 4) = p.2 from by omega]
theorem urun_pack : ∀ (ps : List Pc) (a : UInt8) (k : Nat), Good ps → k < 4 → (k = 0 ∨ ∀ p, ps.head? = some p → p.1 ≠ a) → ∃ st : UInt8 × Nat, urun (a, k) (pack ps) = some (st, flat ps) ∧ st.2 < 4
  | [], a, k, _, hk, _ => ⟨(a, k), rfl, hk⟩
  | p :: ps, a, k, hg, hk, h => by
    obtain ⟨h1, h2, h3, h4⟩ := hg
    obtain ⟨st, e, hs, hs1, hs2⟩ := urun_packP a k p (pack ps) hk (by rcases h with h | h; exact Or.inl h; exact Or.inr (h p rfl)) h1 h2
    obtain ⟨st2, e2, hs3⟩ := urun_pack ps st.1 st.2 h4 hs (by
      by_cases h255 : p.2 = 255
      · exact Or.inl (hs2 h255)
      · refine Or.inr fun q hq => ?_
        rw [hs1]
        rcases h3 q hq with h | h
        · exact h
        · exact absurd h h255)
    refine ⟨st2, ?_, hs3⟩
    rw [pack_cons, e, e2, flat_cons]
    rfl
theorem urun_encode (l : List UInt8) : ∃ st : UInt8 × Nat, urun (0, 0) (encode l) = some (st, l) ∧ st.2 < 4 := by
  obtain ⟨st, h, hs⟩ := urun_pack (pieces l) 0 0 (good l) (by omega) (Or.inl rfl)
  rw [flat_pieces] at h
  exact ⟨st, h, hs⟩
/-- DECODE OF ENCODE IS THE TEXT. -/
theorem dec_encode (l : List UInt8) : dec (encode l) = (l, 0) := by
  obtain ⟨st, h, hs⟩ := urun_encode l
  unfold dec res
  rw [h]
  simp only [outc]
  rw [if_neg (by omega)]
/-- AT MOST FIVE BYTES FOR FOUR. -/
theorem pack_small : ∀ ps : List Pc, Good ps → 4 * (pack ps).length ≤ 5 * (flat ps).length
  | [], _ => by simp [pack, flat]
  | p :: ps, h => by
    have ih := pack_small ps h.2.2.2
    have hl := packP_length p
    rw [pack_cons, flat_cons, List.length_append, List.length_append, List.length_replicate, hl]
    split <;> omega
theorem encode_small (l : List UInt8) : 4 * (encode l).length ≤ 5 * l.length := by
  have := pack_small (pieces l) (good l)
  rw [flat_pieces] at this
  exact this
theorem outc_err (o : Option ((UInt8 × Nat) × List UInt8)) : (outc o).2 ≠ 0 → (outc o).1 = [] := by
  cases o with
  | none => intro _; rfl
  | some q => obtain ⟨st, t⟩ := q; simp only [outc]; split <;> simp
theorem dec_err (l : List UInt8) : (dec l).2 ≠ 0 → (dec l).1 = [] := outc_err _
end RleM
end Go.Proofs.YtnffkbpgcidpkaaGreatDoor
namespace Go.Proofs.YtnffkbpgcidpkaaGreatDoor
open RleM
set_option linter.unusedVariables false
set_option linter.unusedSimpArgs false
namespace SplM
/-- One more piece goes into the block that was begun last, or begins a further one. -/
def stepS (room : Nat) (st : List (List Pc) × List Pc) (p : Pc) : List (List Pc) × List Pc :=
  if (pack st.2).length + (packP p).length > room then (st.1 ++ [st.2], [p]) else (st.1, st.2 ++ [p])
def runS (room : Nat) (ps : List Pc) : List (List Pc) × List Pc := ps.foldl (stepS room) ([], [])
def endS (st : List (List Pc) × List Pc) : List (List Pc) := st.1 ++ (if st.2 = [] then [] else [st.2])
/-- The blocks of a text. -/
def blks (room : Nat) (l : List UInt8) : List (List Pc) := endS (runS room (pieces l))
theorem runS_snoc (room : Nat) (ps : List Pc) (p : Pc) : runS room (ps ++ [p]) = stepS room (runS room ps) p := by
  unfold runS; rw [List.foldl_append]; rfl
theorem packP_le (p : Pc) : (packP p).length ≤ 5 := by
  rw [packP_length]; split <;> omega
theorem packP_pos {p : Pc} (h : 1 ≤ p.2) : 1 ≤ (packP p).length := by
  rw [packP_length]; split <;> omega
theorem pack_pos {ps : List Pc} (h : ps ≠ []) (hp : ∀ p ∈ ps, 1 ≤ p.2) : 1 ≤ (pack ps).length := by
  cases ps with
  | nil => exact absurd rfl h
  | cons p r =>
    rw [pack_cons, List.length_append]
    have := packP_pos (hp p (List.mem_cons_self ..))
    omega
/-- What is right of the blocks so far. -/
structure RightS (room : Nat) (ps : List Pc) (st : List (List Pc) × List Pc) : Prop where
  all : st.1.flatten ++ st.2 = ps
  now : (pack st.2).length ≤ room
  full : ∀ b ∈ st.1, b ≠ [] ∧ (pack b).length ≤ room
  none : st.2 = [] → ps = []
  next : ∀ i b p r, (st.1 ++ [st.2])[i]? = some b → (st.1 ++ [st.2])[i + 1]? = some (p :: r) → room < (pack b).length + (packP p).length
theorem rightS_nil (room : Nat) : RightS room [] (runS room []) := ⟨rfl, by simp [runS, pack], fun b hb => by simp [runS] at hb, fun _ => rfl, fun i b p r h1 h2 => by simp [runS] at h2⟩
theorem rightS_snoc {room : Nat} (hr : 5 ≤ room) {ps : List Pc} (p : Pc) (ih : RightS room ps (runS room ps)) : RightS room (ps ++ [p]) (runS room (ps ++ [p])) := by
    obtain ⟨h1, h2, h3, h4, h5⟩ := ih
    rw [runS_snoc]
    generalize runS room ps = st at *
    obtain ⟨os, now⟩ := st
    simp only at h1 h2 h3 h4 h5
    unfold stepS
    simp only
    by_cases hc : (pack now).length + (packP p).length > room
    · rw [if_pos hc]
      have hnn : now ≠ [] := by
        rintro rfl
        have := packP_le p
        simp [pack] at hc
        omega
      refine ⟨?_, ?_, ?_, ?_, ?_⟩
      · simp only [List.flatten_append, List.flatten_cons, List.flatten_nil, List.append_nil]
        rw [h1]
      · show (pack [p]).length ≤ room
        rw [pack_one]
        exact Nat.le_trans (packP_le p) hr
      · intro b hb
        simp only [List.mem_append, List.mem_singleton] at hb
        rcases hb with hb | rfl
        · exact h3 b hb
        · exact ⟨hnn, h2⟩
      · intro h; simp at h
      · intro i b q r hi hj
        simp only at hi hj
        by_cases hi2 : i + 1 < (os ++ [now]).length
        · rw [List.getElem?_append_left (by omega)] at hi
          rw [List.getElem?_append_left hi2] at hj
          exact h5 i b q r hi hj
        · have hlt := (List.getElem?_eq_some_iff.1 hj).1
          simp only [List.length_append, List.length_cons, List.length_nil] at hi2 hlt
          have e : i = os.length := by omega
          subst e
          rw [List.getElem?_append_left (by simp), List.getElem?_append_right (Nat.le_refl _)] at hi
          rw [List.getElem?_append_right (by simp)] at hj
          simp at hi hj
          obtain ⟨rfl, _⟩ := hj
          rw [← hi]
          exact hc
    · rw [if_neg hc]
      refine ⟨?_, ?_, h3, ?_, ?_⟩
      · rw [← List.append_assoc, h1]
      · show (pack (now ++ [p])).length ≤ room
        rw [pack_append, List.length_append, pack_one]
        omega
      · intro h; simp at h
      · intro i b q r hi hj
        simp only at hi hj
        have hlt := (List.getElem?_eq_some_iff.1 hj).1
        simp only [List.length_append, List.length_cons, List.length_nil] at hlt
        rw [List.getElem?_append_left (by omega)] at hi
        by_cases hi2 : i + 1 < os.length
        · rw [List.getElem?_append_left hi2] at hj
          exact h5 i b q r (by rw [List.getElem?_append_left (by omega)]; exact hi) (by rw [List.getElem?_append_left hi2]; exact hj)
        · have e : i + 1 = os.length := by omega
          rw [e, List.getElem?_append_right (Nat.le_refl _)] at hj
          simp at hj
          cases now with
          | nil =>
            have hps := h4 rfl
            rw [hps] at h1
            have hos : os = [] := by
              cases os with
              | nil => rfl
              | cons x xs =>
                have := (h3 x (List.mem_cons_self ..)).1
                simp at h1
                exact absurd h1.1 this
            rw [hos] at e
            simp at e
          | cons a az =>
            simp at hj
            obtain ⟨rfl, _⟩ := hj
            exact h5 i b a az (by rw [List.getElem?_append_left (by omega)]; exact hi) (by rw [e, List.getElem?_append_right (Nat.le_refl _)]; simp)
theorem rightS (room : Nat) (hr : 5 ≤ room) (ps : List Pc) : RightS room ps (runS room ps) := by
  have key : ∀ n, n ≤ ps.length → RightS room (ps.take n) (runS room (ps.take n)) := by
    intro n
    induction n with
    | zero => intro _; exact rightS_nil room
    | succ n ih =>
      intro h
      rw [List.take_succ_eq_append_getElem (by omega)]
      exact rightS_snoc hr _ (ih (by omega))
  have := key ps.length (Nat.le_refl _)
  rwa [List.take_length] at this
theorem endS_flat {room : Nat} {ps : List Pc} {st : List (List Pc) × List Pc} (h : RightS room ps st) : (endS st).flatten = ps := by
  unfold endS
  rw [← h.all]
  by_cases e : st.2 = []
  · rw [if_pos e, e]; simp
  · rw [if_neg e]; simp
theorem endS_ok {room : Nat} {ps : List Pc} {st : List (List Pc) × List Pc} (h : RightS room ps st) : ∀ b ∈ endS st, b ≠ [] ∧ (pack b).length ≤ room := by
  unfold endS
  intro b hb
  by_cases e : st.2 = []
  · rw [if_pos e, List.append_nil] at hb
    exact h.full b hb
  · rw [if_neg e] at hb
    rcases List.mem_append.1 hb with hb | hb
    · exact h.full b hb
    · rw [List.mem_singleton] at hb
      subst hb
      exact ⟨e, h.now⟩
theorem endS_next {room : Nat} {ps : List Pc} {st : List (List Pc) × List Pc} (h : RightS room ps st) : ∀ i b p r, (endS st)[i]? = some b → (endS st)[i + 1]? = some (p :: r) → room < (pack b).length + (packP p).length := by
  unfold endS
  intro i b p r hi hj
  by_cases e : st.2 = []
  · rw [if_pos e, List.append_nil] at hi hj
    have l1 := (List.getElem?_eq_some_iff.1 hi).1
    have l2 := (List.getElem?_eq_some_iff.1 hj).1
    exact h.next i b p r (by rw [List.getElem?_append_left l1]; exact hi) (by rw [List.getElem?_append_left l2]; exact hj)
  · rw [if_neg e] at hi hj
    exact h.next i b p r hi hj
theorem good_right : ∀ {ps qs : List Pc}, RleM.Good (ps ++ qs) → RleM.Good qs := by
  intro ps
  induction ps with
  | nil => intro qs h; exact h
  | cons p r ih =>
    intro qs h
    refine ih (qs := qs) ?_
    simp only [List.cons_append] at h
    unfold RleM.Good at h
    exact h.2.2.2
/-- Each block of good pieces is of good pieces. -/
theorem good_blk : ∀ {bs : List (List Pc)} {b : List Pc}, RleM.Good bs.flatten → b ∈ bs → RleM.Good b := by
  intro bs
  induction bs with
  | nil => intro b h hb; cases hb
  | cons x xs ih =>
    intro b h hb
    rw [List.flatten_cons] at h
    rcases List.mem_cons.1 hb with rfl | hb
    · exact good_left h
    · exact ih (good_right h) hb
theorem blk_dec {b : List Pc} (h : RleM.Good b) : dec (pack b) = (flat b, 0) := by
  have := dec_encode (flat b)
  unfold encode at this
  rwa [pieces_flat b h] at this
theorem flat_flatten : ∀ bs : List (List Pc), flat bs.flatten = (bs.map flat).flatten
  | [] => rfl
  | b :: bs => by
    rw [List.flatten_cons, flat_append, flat_flatten bs]
    rfl
theorem blks_flat (room : Nat) (hr : 5 ≤ room) (l : List UInt8) : ((blks room l).map flat).flatten = l := by
  rw [← flat_flatten]
  unfold blks
  rw [endS_flat (rightS room hr (pieces l)), flat_pieces]
theorem blks_good (room : Nat) (hr : 5 ≤ room) (l : List UInt8) {b : List Pc} (h : b ∈ blks room l) : RleM.Good b := by
  refine good_blk (bs := blks room l) ?_ h
  unfold blks
  rw [endS_flat (rightS room hr (pieces l))]
  exact good l
/-- The first piece of bytes. -/
def firstM : List UInt8 → List UInt8
  | [] => []
  | c :: l => if 5 ≤ (c :: l).length ∧ four (c :: l) = true then (c :: l).take 5 else (c :: l).take (like c (c :: l))
end SplM
end Go.Proofs.YtnffkbpgcidpkaaGreatDoor
namespace Go.Proofs.YtnffkbpgcidpkaaGreatDoor
open Go.RowKit RleM
set_option linter.unusedVariables false

/-- Bytes k of a text. -/
theorem rlbyte_at {s : ByteArray} {L : List UInt8} (h : s.data.toList = L) {k : Nat} (hk : k < s.size) : L[k]? = some s[k] := by
  subst h
  simp [ByteArray.getElem_eq_getElem_data, hk]
theorem text_cons {s : ByteArray} (h0 : 0 < s.size) : ∃ c l, s.data.toList = c :: l := by
  cases h : s.data.toList with
  | nil =>
    have h1 : s.data.toList.length = 0 := by rw [h]; rfl
    have h2 : s.size = 0 := h1
    omega
  | cons c l => exact ⟨c, l, rfl⟩
theorem byte_ne {a b : UInt8} (h : a ≠ b) : ((a.toNat : Int) == (b.toNat : Int)) = false := by
  rw [beq_eq_false_iff_ne]
  intro e
  exact h (UInt8.toNat_inj.1 (by omega))
theorem byte_eq {a b : UInt8} (h : a = b) : ((a.toNat : Int) == (b.toNat : Int)) = true := by rw [h]; simp
theorem rlints_inj {k : IntKind} {a b : Int} (h : a = b) : Ending.returned (.int k a) = .returned (.int k b) := by rw [h]
set_option maxHeartbeats 400000 in
theorem refRow_any (s : ByteArray) (w : World) (h0 : 0 < s.size) (hs : s.size ≤ maxLen) : Calls Tryz.prog 68 #[.string s] w fun e w' => e = .returned (.int .i64 (row s.data.toList : Int)) ∧ ∃ n, w' = w.drewN n := by
  unfold maxLen at hs
  obtain ⟨c, l, hL⟩ := text_cons h0
  have hc : s[0] = c := by have := rlbyte_at hL h0; simpa using this.symm
  have HZ : Hid (s.size = (c :: l).length) := Lib.hid (by rw [← hL]; rfl)
  have HL := Lib.hid hL
  have HC := Lib.hid hc
  clear hL hc
  go_enter Tryz.func68, Tryz.ntmps68
  go_wp2_with fail
  go_loopw [3] (fun n wr => ∃ k m : Nat, k ≤ s.size ∧ k ≤ 255 ∧ Hid (∀ j, j < k → (c :: l)[j]? = some c) ∧ n = .int .i64 k ∧ wr = w.drewN m) (fun n _ => 255 - (intOf n).toNat)
  case atStart => exact ⟨0, 0, by omega, by omega, Lib.hid (fun j hj => by omega), rfl, rfl⟩
  case round =>
    obtain ⟨k, m, hk, hk2, hall, rfl, rfl⟩ := hrel
    by_cases hks : k < s.size
    · by_cases h255 : (k : Int) < 255
      · have hk0 : (0 : Int) ≤ (k : Int) := by omega
        by_cases he : s[k] = s[0]
        · have hb := byte_eq he
          have HE := Lib.hid he
          clear he
          go_wp2_with fail
          go_quiet (fail)
          go_wp2_with fail
          go_roundw
          case rel => exact ⟨k + 1, _, by omega, by omega, Lib.hid (fun j hj => by
            rcases Nat.lt_or_ge j k with h | h
            · exact hall.out j h
            · obtain rfl : j = k := by omega
              rw [rlbyte_at HL.out hks, HE.out, HC.out]), by go_num, rfl⟩
          case measure => simp [intOf]; omega
        · have hb := byte_ne he
          have HE := Lib.hid he
          clear he
          go_wp2_with fail
          go_quiet (fail)
          go_wp2_with fail
          go_ret
          refine ⟨rlints_inj ?_, _, World.drewN_drewN ..⟩
          rw [HL.out, row_of c l k (by omega) hall.out (Or.inr (Or.inr ⟨s[k], rlbyte_at HL.out hks, by rw [← HC.out]; exact HE.out⟩))]
      · have hd : decide ((k : Int) < 255) = false := by simp only [decide_eq_false_iff_not]; exact h255
        go_wp2_with fail
        go_quiet (fail)
        go_wp2_with fail
        go_ret
        refine ⟨rlints_inj ?_, _, World.drewN_drewN ..⟩
        rw [HL.out, row_of c l k (by omega) hall.out (Or.inl (by omega))]
    · have hd : decide ((k : Int) < (s.size : Int)) = false := by simp only [decide_eq_false_iff_not]; omega
      have hd2 : decide (k < s.size) = false := by simp only [decide_eq_false_iff_not]; omega
      go_wp2_with fail
      go_quiet (fail)
      go_wp2_with fail
      go_ret
      refine ⟨rlints_inj ?_, _, World.drewN_drewN ..⟩
      rw [HL.out, row_of c l k (by omega) hall.out (Or.inr (Or.inl (by have := HZ.out; omega)))]

/-- A piece as a value. -/
def pcCells (p : Pc) : List Value := [.int .u8 (p.1.toNat : Int), .int .i64 (p.2 : Int)]
def pcv (p : Pc) : Value := .agg #[.int .u8 (p.1.toNat : Int), .int .i64 (p.2 : Int)]
def vsize : Value → Nat
  | .string t => t.size
  | _ => 0
theorem ext_data (t : ByteArray) (n : Nat) : (t.extract n t.size).data.toList = t.data.toList.drop n := by
  have e : t.size = t.data.toList.length := rfl
  rw [ByteArray.data_extract, e]
  simp only [Array.toList_extract, List.extract_eq_take_drop]
  rw [List.take_of_length_le (by simp)]
end Go.Proofs.YtnffkbpgcidpkaaGreatDoor
namespace Go.Proofs.YtnffkbpgcidpkaaGreatDoor
open Go.RowKit RleM
set_option linter.unusedVariables false

/-- How many bytes a piece of so many has. -/
def rlsz (n : Nat) : Nat := if n < 4 then n else 5
theorem packP_sz (p : Pc) : (packP p).length = rlsz p.2 := packP_length p
/-- WHAT THE CLOSURE OF Size KEEPS: one number in a block of its own. -/
structure Counts (w0 : World) (b : Nat) (n : Nat) (w : World) : Prop where
  block : w.heap[b]? = some (.cells #[.int .i64 (n : Int)] 3 (0, 0))
  below : Below w0.heap.size w0 w
theorem Counts.drewN {w0 w : World} {b n : Nat} (h : Counts w0 b n w) (m : Nat) : Counts w0 b n (w.drewN m) :=
  ⟨h.block, h.below.trans ⟨rfl, rfl, rfl, Nat.le_refl _, fun _ _ => rfl⟩⟩
theorem Counts.set {w0 w : World} {b n : Nat} (h : Counts w0 b n w) (hb : w0.heap.size ≤ b) (m : Nat) : Counts w0 b m (w.setCell ⟨b, 0, none⟩ (.int .i64 (m : Int))) :=
  ⟨heap_setCell_same _ _ 0 _ _ _ h.block, h.below.trans ((Below.refl _ _).setCell hb _)⟩
theorem Counts.put {w0 w : World} {b n : Nat} (h : Counts w0 b n w) (hb : w0.heap.size ≤ b) (m : Nat) (X : Int) (hX : X = (m : Int)) : Counts w0 b m (w.setCell ⟨b, 0, none⟩ (.int .i64 X)) := hX ▸ h.set hb m
theorem Counts.drew {w0 w : World} {b n : Nat} (h : Counts w0 b n w) : Counts w0 b n w.drew := ⟨h.block, h.below.drew⟩
theorem Counts.alloc {w0 w : World} {b n : Nat} (h : Counts w0 b n w) (o : Obj) : Counts w0 b n (w.alloc o) :=
  ⟨(Below.heap_alloc w o b (Array.getElem?_eq_some_iff.1 h.block).1).trans h.block, h.below.alloc h.below.size _⟩
theorem pack_parts {l : List UInt8} {ps qs : List Pc} {p : Pc} (h : pieces l = ps ++ p :: qs) : 1 ≤ p.2 ∧ p.2 ≤ 255 ∧ 4 * (pack (ps ++ [p])).length ≤ 5 * l.length := by
  have hg := good l
  have hf := flat_pieces l
  rw [h, show ps ++ p :: qs = (ps ++ [p]) ++ qs from by simp] at hg hf
  have h1 := good_left hg
  have h2 := pack_small _ h1
  obtain ⟨a, b, _⟩ := good_last h1
  rw [flat_append] at hf
  have : (flat (ps ++ [p])).length ≤ l.length := by rw [← hf, List.length_append]; omega
  exact ⟨a, b, by omega⟩
end Go.Proofs.YtnffkbpgcidpkaaGreatDoor
namespace Go.Proofs.YtnffkbpgcidpkaaGreatDoor
open Go.RowKit RleM
set_option linter.unusedVariables false
theorem infoPiece : (Tryz.prog.info? 89).map (fun i => (i.zero, i.size, i.bytes)) = some (some (.agg #[.int .u8 0, .int .i64 0]), 2, 16) := by kernel_rfl
theorem pcCells_length (ps : List Pc) : (ps.flatMap pcCells).length = ps.length * 2 := by
  induction ps with
  | nil => rfl
  | cons p ps ih => rw [List.flatMap_cons, List.length_append, ih]; simp [pcCells]; omega
theorem pieces_count (l : List UInt8) : (pieces l).length ≤ l.length := by
  have h : ∀ ps : List Pc, RleM.Good ps → ps.length ≤ (flat ps).length := by
    intro ps
    induction ps with
    | nil => intro _; exact Nat.le_refl _
    | cons p ps ih =>
      intro h
      have h1 := ih h.2.2.2
      have h2 := h.1
      rw [flat_cons, List.length_append, List.length_replicate, List.length_cons]; omega
  have := h _ (good l)
  rwa [flat_pieces] at this
/-- WHAT THE CLOSURE OF Pieces KEEPS: a row of pieces behind a variable in block b. -/
structure Gathers (w0 : World) (b : Nat) (ps : List Pc) (w : World) : Prop where
  row : ∃ v, w.heap[b]? = some (.cells #[v] 86 (0, 0)) ∧ w.ownsRow (b + 1) 89 2 v ps.length (ps.flatMap pcCells)
  below : Below w0.heap.size w0 w
theorem Gathers.drewN {w0 w : World} {b : Nat} {ps : List Pc} (h : Gathers w0 b ps w) (m : Nat) : Gathers w0 b ps (w.drewN m) :=
  ⟨h.row, h.below.trans ⟨rfl, rfl, rfl, Nat.le_refl _, fun _ _ => rfl⟩⟩
end Go.Proofs.YtnffkbpgcidpkaaGreatDoor
namespace Go.Proofs.YtnffkbpgcidpkaaGreatDoor
open Go.RowKit RleM
set_option linter.unusedVariables false
/-- The first k of five bytes are c. -/
def five5 (c : UInt8) (k : Nat) (x : UInt8) : List UInt8 := List.replicate k c ++ (List.replicate (4 - k) 0 ++ [x])
theorem five5_length (c : UInt8) (k : Nat) (x : UInt8) (h : k ≤ 4) : (five5 c k x).length = 5 := by simp [five5]; omega
theorem five5_set (c : UInt8) (k : Nat) (h : k < 4) : ((five5 c k 0).map u8v).toArray.setIfInBounds k (.int .u8 (c.toNat : Int)) = ((five5 c (k + 1) 0).map u8v).toArray := by
  rcases (by omega : k = 0 ∨ k = 1 ∨ k = 2 ∨ k = 3) with rfl | rfl | rfl | rfl <;> simp [five5, u8v]
theorem five5_last (c : UInt8) (y : UInt8) : ((five5 c 4 0).map u8v).toArray.setIfInBounds 4 (.int .u8 (y.toNat : Int)) = ((five5 c 4 y).map u8v).toArray := by
  simp [five5, u8v]
/-- The five bytes of a piece. -/
def told5 (p : Pc) : List UInt8 := if p.2 < 4 then five5 p.1 p.2 0 else five5 p.1 4 (UInt8.ofNat (p.2 - 4))
theorem told5_length (p : Pc) : (told5 p).length = 5 := by
  unfold told5; split <;> exact five5_length _ _ _ (by omega)
theorem told5_take (p : Pc) : (told5 p).take (rlsz p.2) = packP p := by
  unfold told5 packP rlsz
  split
  · rw [five5, List.take_left' (by simp)]
  · simp [five5]
theorem zero5 (c : UInt8) : (#[.int .u8 0, .int .u8 0, .int .u8 0, .int .u8 0, .int .u8 0] : Array Value) = ((five5 c 0 0).map u8v).toArray := by simp [five5, u8v]
theorem above1 {w z : World} (h : Below w.heap.size w z) (o : Nat) (v : Value) : Below w.heap.size w (z.setCell ⟨w.heap.size + 1, o, none⟩ v) := h.setCell (p := ⟨w.heap.size + 1, o, none⟩) (by show w.heap.size ≤ w.heap.size + 1; omega) _
theorem five_of {l : List UInt8} (h : l.length = 5) : ∃ x0 x1 x2 x3 x4, l = [x0, x1, x2, x3, x4] := by
  match l, h with
  | [x0, x1, x2, x3, x4], _ => exact ⟨_, _, _, _, _, rfl⟩
theorem five5_at (c : UInt8) (k : Nat) (h : k < 4) : ((five5 c k 0).map u8v).toArray[k]? = some (.int .u8 0) := by
  rcases (by omega : k = 0 ∨ k = 1 ∨ k = 2 ∨ k = 3) with rfl | rfl | rfl | rfl <;> simp [five5, u8v]
end Go.Proofs.YtnffkbpgcidpkaaGreatDoor
