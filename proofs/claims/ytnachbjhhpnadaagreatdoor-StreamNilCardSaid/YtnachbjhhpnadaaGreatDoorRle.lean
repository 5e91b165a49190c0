/-
  THE WALKS OF LAYER 3's CODE (package rle): a row of like bytes, the rows of a text.
-/
import Derived.Test.YtnachbjhhpnadaaGreatDoorRow
import Derived.Test.YtnachbjhhpnadaaGreatDoorRleMath
import Derived.Deep.RegionLaw
import Derived.Deep.QuietTactic
import Derived.Outline
namespace Go.Proofs.YtnachbjhhpnadaaGreatDoor
open Go.RowKit RleM
set_option linter.unusedVariables false

/-- Bytes k of a text. -/
theorem byte_at {s : ByteArray} {L : List UInt8} (h : s.data.toList = L) {k : Nat} (hk : k < s.size) : L[k]? = some s[k] := by
  subst h
  simp [ByteArray.getElem_eq_getElem_data, hk]
theorem text_cons {s : ByteArray} (h0 : 0 < s.size) : ∃ c l, s.data.toList = c :: l := by
  cases h : s.data.toList with
  | nil =>
    have h1 : s.data.toList.length = 0 := by rw [h]; rfl
    have h2 : s.size = 0 := h1
    omega
  | cons c l => exact ⟨c, l, rfl⟩
theorem byte_ne {a b : UInt8} (h : a ≠ b) : ((a.toNat : Int) == (b.toNat : Int)) = false := by
  rw [beq_eq_false_iff_ne]
  intro e
  exact h (UInt8.toNat_inj.1 (by omega))
theorem byte_eq {a b : UInt8} (h : a = b) : ((a.toNat : Int) == (b.toNat : Int)) = true := by rw [h]; simp
theorem rlints_inj {k : IntKind} {a b : Int} (h : a = b) : Ending.returned (.int k a) = .returned (.int k b) := by rw [h]
set_option maxHeartbeats 400000 in
theorem refRow_any (s : ByteArray) (w : World) (h0 : 0 < s.size) (hs : s.size ≤ maxLen) : Calls Tryz.prog 143 #[.string s] w fun e w' => e = .returned (.int .i64 (row s.data.toList : Int)) ∧ ∃ n, w' = w.drewN n := by
  unfold maxLen at hs
  obtain ⟨c, l, hL⟩ := text_cons h0
  have hc : s[0] = c := by have := byte_at hL h0; simpa using this.symm
  have HZ : Hid (s.size = (c :: l).length) := Lib.hid (by rw [← hL]; rfl)
  have HL := Lib.hid hL
  have HC := Lib.hid hc
  clear hL hc
  go_enter Tryz.func143, Tryz.ntmps143
  go_wp2_with fail
  go_loopw [3] (fun n wr => ∃ k m : Nat, k ≤ s.size ∧ k ≤ 255 ∧ Hid (∀ j, j < k → (c :: l)[j]? = some c) ∧ n = .int .i64 k ∧ wr = w.drewN m) (fun n _ => 255 - (intOf n).toNat)
  case atStart => exact ⟨0, 0, by omega, by omega, Lib.hid (fun j hj => by omega), rfl, rfl⟩
  case round =>
    obtain ⟨k, m, hk, hk2, hall, rfl, rfl⟩ := hrel
    by_cases hks : k < s.size
    · by_cases h255 : (k : Int) < 255
      · have hk0 : (0 : Int) ≤ (k : Int) := by omega
        by_cases he : s[k] = s[0]
        · have hb := byte_eq he
          have HE := Lib.hid he
          clear he
          go_wp2_with fail
          go_quiet (fail)
          go_wp2_with fail
          go_roundw
          case rel => exact ⟨k + 1, _, by omega, by omega, Lib.hid (fun j hj => by
            rcases Nat.lt_or_ge j k with h | h
            · exact hall.out j h
            · obtain rfl : j = k := by omega
              rw [byte_at HL.out hks, HE.out, HC.out]), by go_num, rfl⟩
          case measure => simp [intOf]; omega
        · have hb := byte_ne he
          have HE := Lib.hid he
          clear he
          go_wp2_with fail
          go_quiet (fail)
          go_wp2_with fail
          go_ret
          refine ⟨rlints_inj ?_, _, World.drewN_drewN ..⟩
          rw [HL.out, row_of c l k (by omega) hall.out (Or.inr (Or.inr ⟨s[k], byte_at HL.out hks, by rw [← HC.out]; exact HE.out⟩))]
      · have hd : decide ((k : Int) < 255) = false := by simp only [decide_eq_false_iff_not]; exact h255
        go_wp2_with fail
        go_quiet (fail)
        go_wp2_with fail
        go_ret
        refine ⟨rlints_inj ?_, _, World.drewN_drewN ..⟩
        rw [HL.out, row_of c l k (by omega) hall.out (Or.inl (by omega))]
    · have hd : decide ((k : Int) < (s.size : Int)) = false := by simp only [decide_eq_false_iff_not]; omega
      have hd2 : decide (k < s.size) = false := by simp only [decide_eq_false_iff_not]; omega
      go_wp2_with fail
      go_quiet (fail)
      go_wp2_with fail
      go_ret
      refine ⟨rlints_inj ?_, _, World.drewN_drewN ..⟩
      rw [HL.out, row_of c l k (by omega) hall.out (Or.inr (Or.inl (by have := HZ.out; omega)))]

/-- A piece as a value. -/
def pcCells (p : Pc) : List Value := [.int .u8 (p.1.toNat : Int), .int .i64 (p.2 : Int)]
def pcv (p : Pc) : Value := .agg #[.int .u8 (p.1.toNat : Int), .int .i64 (p.2 : Int)]
def vsize : Value → Nat
  | .string t => t.size
  | _ => 0
theorem ext_data (t : ByteArray) (n : Nat) : (t.extract n t.size).data.toList = t.data.toList.drop n := by
  have e : t.size = t.data.toList.length := rfl
  rw [ByteArray.data_extract, e]
  simp only [Array.toList_extract, List.extract_eq_take_drop]
  rw [List.take_of_length_le (by simp)]
end Go.Proofs.YtnachbjhhpnadaaGreatDoor
