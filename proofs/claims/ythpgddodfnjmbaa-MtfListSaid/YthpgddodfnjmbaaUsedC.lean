/-
  THE WALKS OF LAYER 5's CODE (package used): the bytes that are there, as a text; Symbols.
-/
import Derived.Test.YthpgddodfnjmbaaUsedB
import Derived.Test.YthpgddodfnjmbaaBuild
namespace Go.Proofs.Ythpgddodfnjmbaa
open Go.RowKit BitM UsedM
set_option linter.unusedVariables false

theorem syms_cells (S : Nat → Bool) (n : Nat) (hn : n < 256) (hS : S n = true) : Lib.byteCells (syms S (n + 1)) = Lib.byteCells (syms S n) ++ [.int .u8 (n : Int)] := by
  rw [syms_succ, if_pos hS]
  unfold Lib.byteCells
  rw [List.map_append]
  congr 1
  show [Value.int .u8 ((UInt8.ofNat n).toNat : Int)] = _
  rw [UInt8.toNat_ofNat', Nat.mod_eq_of_lt (by omega)]
theorem syms_same (S : Nat → Bool) (n : Nat) (hS : S n = false) : syms S (n + 1) = syms S n := by
  rw [syms_succ, hS]; rfl
theorem used_cast {B b : Nat} {bs : List Value} {w : World} {X Y : Int} (h : Used B b (bs ++ [.int .u8 X]) w) (e : X = Y) : Used B b (bs ++ [.int .u8 Y]) w := e ▸ h
theorem cells_len (S : Nat → Bool) (n : Nat) (hn : n ≤ 256) : (Lib.byteCells (syms S n)).length ≤ 256 := by
  have := syms_le S n
  unfold Lib.byteCells
  rw [List.length_map]
  omega
set_option maxRecDepth 100000 in
set_option maxHeartbeats 1000000 in
theorem text_any (S : Nat → Bool) (w : World) :
    Calls Try.prog 52 #[.agg (arr S)] w fun e w' => e = .returned (.string ⟨(syms S 256).toArray⟩) ∧ Below w.heap.size w w' := by
  have HX := Lib.hid (fun k (hk : k < 16) F (hF : fld S k = F) => arr_index S k F hk hF)
  have hi := info73 S
  obtain ⟨A, hA⟩ : ∃ A, arr S = A := ⟨_, rfl⟩
  rw [hA] at HX hi ⊢
  have hg : ∀ o, ((w.alloc (.cells A 73)).alloc o).heap[w.heap.size]? = some (.cells A 73 (0, 0)) := fun o => heap_alloc2_old _ _ _
  have hstart := Lib.fresh_isBuilder 94 5 (w.alloc (.cells A 73))
  have HS := Lib.hid hstart
  clear hA hstart
  go_enter Try.func52, Try.ntmps52
  go_wp2_with (refine wpList_load_row rfl 73 _ rfl w.heap.size rfl 73 A (0, 0) _ (hg _) Try.underlying73 rfl hi ?_)
  clear hg hi
  go_loopw [8] (fun i wr => ∃ k : Nat, k ≤ 16 ∧ i = .int .i64 k ∧ Lib.IsBuilder 94 5 (w.heap.size + 1) (w.heap.size + 1) (Lib.byteCells (syms S (16 * k))) wr ∧ Below (w.heap.size + 1) (w.alloc (.cells A 73)) wr) (fun i _ => 16 - (intOf i).toNat)
  case atStart => exact ⟨0, by omega, rfl, by rw [Nat.mul_zero, syms_zero]; simpa [Lib.byteCells] using HS.out, (Below.refl _ _).alloc (by simp) _⟩
  case round =>
    obtain ⟨k, hk, rfl, hB, hW⟩ := hrel
    have HB := Lib.hid hB
    have HW := Lib.hid hW
    clear hB hW
    by_cases hlt : k < 16
    · have hk2 : (k : Int) < 16 := by omega
      have hxk := HX.out k hlt _ rfl
      have HF := Lib.hid (fld_lt S k)
      have HAND := Lib.hid (fun j (hj : j < 16) => fld_and S k j hj)
      generalize fld S k = F at *
      go_wp2_with fail
      go_loopw [12] (fun i wr => ∃ j : Nat, j ≤ 16 ∧ i = .int .i64 j ∧ Lib.IsBuilder 94 5 (w.heap.size + 1) (w.heap.size + 1) (Lib.byteCells (syms S (16 * k + j))) wr ∧ Below (w.heap.size + 1) (w.alloc (.cells A 73)) wr) (fun i _ => 16 - (intOf i).toNat)
      case atStart => exact ⟨0, by omega, rfl, HB.out, HW.out⟩
      case round =>
        clear HB HW
        obtain ⟨j, hj, rfl, hB, hW⟩ := hrel
        have HB := Lib.hid hB
        have HW := Lib.hid hW
        clear hB hW
        by_cases hlj : j < 16
        · have hj2 : (j : Int) < 16 := by omega
          obtain ⟨Z, hZ⟩ : ∃ Z, 2 ^ (15 - j) = Z := ⟨_, rfl⟩
          have hZ1 : Z ≤ 32768 := by
            have : 2 ^ (15 - j) ≤ 2 ^ 15 := Nat.pow_le_pow_right (by omega) (by omega)
            omega
          have hZ0 : 0 < Z := by
            have := Nat.two_pow_pos (15 - j)
            omega
          have ha := HAND.out j hlj
          rw [hZ] at ha
          have htest := and_code' F Z (S (16 * k + j)) HF.out hZ1 hZ0 ha
          have HZ := Lib.hid hZ
          clear hZ ha hZ0 hZ1
          have hsz : w.heap.size + 1 ≤ wr.heap.size := by
            have := HW.out.size
            simpa using this
          by_cases hS : S (16 * k + j) = true
          · have HC := Lib.hid (syms_cells S (16 * k + j) (by omega) hS)
            have hlen := cells_len S (16 * k + j) (by omega)
            rw [hS] at htest
            clear hS
            go_wp2_with fail
            refine (bit_any _ j Z _ rfl (by omega) HZ.out).mono ?_
            rintro e w' ⟨rfl, rfl⟩
            go_wp2_with fail
            refine (writeByte_built _ _ _ _ _ HB.out (by omega) hsz).mono ?_
            rintro e w1 ⟨rfl, hU, hb⟩
            have HU := Lib.hid (used_cast (Y := ((16 * k + j : Nat) : Int)) hU (by omega))
            have HW1 := Lib.hid (HW.out.trans hb)
            clear hU hb
            go_wp2_with fail
            go_roundw
            case rel => exact ⟨j + 1, by omega, by go_num, by rw [← Nat.add_assoc, HC.out]; exact Or.inr HU.out, HW1.out⟩
            case measure => simp [intOf]; omega
          · have hSf : S (16 * k + j) = false := by simpa using hS
            have HC := Lib.hid (syms_same S (16 * k + j) hSf)
            rw [hSf] at htest
            clear hS hSf
            go_wp2_with fail
            refine (bit_any _ j Z _ rfl (by omega) HZ.out).mono ?_
            rintro e w' ⟨rfl, rfl⟩
            go_wp2_with fail
            go_roundw
            case rel => exact ⟨j + 1, by omega, by go_num, by rw [← Nat.add_assoc, HC.out]; exact HB.out, HW.out⟩
            case measure => simp [intOf]; omega
        · obtain rfl : j = 16 := by omega
          go_wp2_with fail
          go_roundw
          case rel => exact ⟨k + 1, by omega, by go_num, HB.out, HW.out⟩
          case measure => simp [intOf]; omega
    · obtain rfl : k = 16 := by omega
      have hsz : w.heap.size + 1 ≤ wr.heap.size := by
        have := HW.out.size
        simpa using this
      go_wp2_with fail
      refine (Try.Builder_String_any _ _ _ _ HB.out hsz).mono ?_
      rintro e w1 ⟨rfl, hb⟩
      have HW1 := Lib.hid (((Below.refl w.heap.size w).alloc (Nat.le_refl _) _).trans ((HW.out.trans hb).mono (Nat.le_succ _)))
      clear hb
      go_wp2_with fail
      go_ret
      exact ⟨rfl, HW1.out⟩
set_option maxHeartbeats 1000000 in
theorem symbols_any (s : ByteArray) (w : World) (hs : s.size ≤ maxLen) :
    Calls Try.prog 17 #[.string s] w fun e w' => e = .returned (.string ⟨(syms (has s.data.toList) 256).toArray⟩) ∧ Below w.heap.size w w' := by
  go_enter Try.func17, Try.ntmps17
  go_wp2_with fail
  refine (of_any s w hs).mono ?_
  rintro e w1 ⟨rfl, hb⟩
  have HB := Lib.hid hb
  clear hb
  generalize hS : has s.data.toList = S at *
  have HT := Lib.hid (text_any S w1)
  generalize arr S = A at *
  go_wp2_with fail
  refine HT.out.mono ?_
  rintro e w2 ⟨rfl, hb⟩
  have HB2 := Lib.hid (HB.out.trans (hb.mono HB.out.size))
  clear hb
  go_wp2_with fail
  go_ret
  exact ⟨by rw [hS]; rfl, HB2.out⟩
end Go.Proofs.Ythpgddodfnjmbaa
