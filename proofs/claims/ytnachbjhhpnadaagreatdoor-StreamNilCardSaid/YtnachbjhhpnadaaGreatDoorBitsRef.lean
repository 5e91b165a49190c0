/-
  THE WALKS OF THE DOCUMENT's ANSWERS OF LAYER 1 (balerref01): bits as texts of 0 and 1.
-/
import Derived.Test.YtnachbjhhpnadaaGreatDoorBitsL
namespace Go.Proofs.YtnachbjhhpnadaaGreatDoor
open Go.RowKit BitM
set_option linter.unusedVariables false
/-- A row of bits as a text. -/
def chr (b : Bool) : UInt8 := if b then 49 else 48
def txt (q : List Bool) : ByteArray := ⟨(q.map chr).toArray⟩
theorem txt_size (q : List Bool) : (txt q).size = q.length := by show (q.map chr).toArray.size = _; simp
theorem txt_append (p q : List Bool) : txt p ++ txt q = txt (p ++ q) := by
  apply ByteArray.ext
  simp [txt]
theorem txt_nil : txt [] = ⟨#[]⟩ := rfl
theorem field_cons (X k : Nat) : field X (k + 1) = (X / 2 ^ k % 2 == 1) :: field X k := by
  apply num_inj
  · simp [field_length]
  · have e : num ((X / 2 ^ k % 2 == 1) :: field X k) = bn (X / 2 ^ k % 2 == 1) * 2 ^ (field X k).length + num (field X k) := num_append [X / 2 ^ k % 2 == 1] (field X k) |>.trans (by rw [show num [X / 2 ^ k % 2 == 1] = bn (X / 2 ^ k % 2 == 1) from Nat.zero_add _])
    have hb : bn (X / 2 ^ k % 2 == 1) = X / 2 ^ k % 2 := by
      have : X / 2 ^ k % 2 = 0 ∨ X / 2 ^ k % 2 = 1 := by omega
      rcases this with h | h <;> simp [h, bn]
    rw [e, hb, field_length, field_num, field_num, Nat.pow_succ, Nat.mod_mul, Nat.mul_comm, Nat.add_comm]
theorem one_txt (v : Nat) : (⟨#[48, 49]⟩ : ByteArray).extract (v % 2) (v % 2 + 1) = txt [v % 2 == 1] := by
  have : v % 2 = 0 ∨ v % 2 = 1 := by omega
  rcases this with h | h <;> rw [h] <;> decide
set_option maxHeartbeats 400000 in
theorem fieldTxt_any (X n : Nat) (w : World) (hn : n ≤ 32) (hX32 : X < 4294967296) : Calls Tryz.prog 59 #[.int .u32 (X : Int), .int .i64 (n : Int)] w fun e w' => e = .returned (.string (txt (field X n))) ∧ w = w' := by
  go_enter Tryz.func59, Tryz.ntmps59
  go_wp2_with fail
  go_loop [0, 5, 7] (fun v s i => ∃ k : Nat, k ≤ n ∧ i = .int .i64 k ∧ v = .int .u32 ((X / 2 ^ k : Nat) : Int) ∧ s = .string (txt (field X k))) (fun _ _ i => n - (intOf i).toNat)
  case atStart => exact ⟨0, by omega, rfl, by simp, rfl⟩
  case round =>
    obtain ⟨k, hk, rfl, rfl, rfl⟩ := hrel
    have hv : X / 2 ^ k ≤ X := Nat.div_le_self _ _
    by_cases hlt : k < n
    · have h1 := one_txt (X / 2 ^ k)
      have hf := Lib.hid (field_cons X k)
      have hd : Hid (X / 2 ^ k / 2 = X / 2 ^ (k + 1)) := Lib.hid (by rw [Nat.pow_succ, Nat.div_div_eq_div_mul])
      have hsz : (txt [X / 2 ^ k % 2 == 1]).size + (txt (field X k)).size ≤ 64 := by rw [txt_size, txt_size, field_length]; simp; omega
      generalize X / 2 ^ k = V at *
      go_wp2_with fail
      go_round
      case rel => exact ⟨k + 1, by omega, by go_num, iv (by rw [← hd.out]; simp), by rw [txt_append, hf.out]; rfl⟩
      case measure => simp [intOf]; omega
    · obtain rfl : k = n := by omega
      go_wp2_with fail
      go_ret
      exact ⟨rfl, rfl⟩
set_option maxHeartbeats 400000 in
theorem bitsTxt_any (s : ByteArray) (w : World) (hs : s.size ≤ 1099511627776) : Calls Tryz.prog 28 #[.string s] w fun e w' => e = .returned (.string (txt (bitsOf s.data.toList))) ∧ w = w' := by
  go_enter Tryz.func28, Tryz.ntmps28
  go_wp2_with fail
  go_loop [3, 4] (fun o i => ∃ k : Nat, k ≤ s.size ∧ i = .int .i64 k ∧ o = .string (txt (bitsOf (s.data.toList.take k)))) (fun _ i => s.size - (intOf i).toNat)
  case atStart => exact ⟨0, by omega, rfl, rfl⟩
  case round =>
    obtain ⟨k, hk, rfl, rfl⟩ := hrel
    by_cases hlt : k < s.size
    · have hc := s[k].toNat_lt
      have hsz : (txt (bitsOf (s.data.toList.take k))).size + (txt (field s[k].toNat 8)).size ≤ 10000000000000 := by
        rw [txt_size, txt_size, field_length, bitsOf_length, List.length_take]; omega
      have HT : Hid (bitsOf (s.data.toList.take (k + 1)) = bitsOf (s.data.toList.take k) ++ field s[k].toNat 8) := Lib.hid (by
        rw [List.take_succ_eq_append_getElem (by simpa using hlt), bitsOf_append]
        congr 1)
      go_wp2_with fail
      refine (fieldTxt_any s[k].toNat 8 w (by omega) (by omega)).mono ?_
      rintro e w' ⟨rfl, rfl⟩
      go_wp2_with fail
      go_round
      case rel => exact ⟨k + 1, by omega, by go_num, by rw [txt_append, HT.out]⟩
      case measure => simp [intOf]; omega
    · obtain rfl : k = s.size := by omega
      go_wp2_with fail
      go_ret
      rw [List.take_of_length_le (by simp)]
      exact ⟨rfl, rfl⟩
theorem txt_get (q : List Bool) (k : Nat) (hk : k < q.length) (h : k < (txt q).size) : ((txt q)[k].toNat : Int) = 48 + (bn q[k] : Int) := by
  have e : (txt q)[k] = chr q[k] := by
    have h2 : (txt q).data[k]'(by simpa [txt] using hk) = chr q[k] := by simp [txt]
    exact h2
  rw [e]
  unfold chr bn
  split <;> rfl
set_option maxHeartbeats 400000 in
theorem number_any (q : List Bool) (w : World) (hq : q.length ≤ 32) : Calls Tryz.prog 69 #[.string (txt q)] w fun e w' => e = .returned (.int .u32 (num q : Int)) ∧ w = w' := by
  have hts := txt_size q
  have HTS := Lib.hid hts
  have hz : ((txt q).size : Int) = (q.length : Int) := by omega
  clear hts
  go_enter Tryz.func69, Tryz.ntmps69
  go_wp2_with fail
  go_loop [3, 4] (fun v i => ∃ k : Nat, k ≤ q.length ∧ i = .int .i64 k ∧ v = .int .u32 (num (q.take k) : Int)) (fun _ i => q.length - (intOf i).toNat)
  case atStart => exact ⟨0, by omega, rfl, rfl⟩
  case round =>
    obtain ⟨k, hk, rfl, rfl⟩ := hrel
    by_cases hlt : k < q.length
    · have hlz : k < (txt q).size := by have := HTS.out; omega
      have hg := txt_get q k hlt hlz
      have hb := bn_lt q[k]
      have hv : num (q.take k) < 2 ^ 31 := Nat.lt_of_lt_of_le (num_lt _) (Nat.pow_le_pow_right (by omega) (by simp; omega))
      have HN : Hid (num (q.take (k + 1)) = 2 * num (q.take k) + bn q[k]) := Lib.hid (by rw [List.take_succ_eq_append_getElem hlt, num_snoc])
      generalize num (q.take k) = V at *
      generalize bn q[k] = B at *
      go_wp2_with fail
      go_round
      case rel => exact ⟨k + 1, by omega, by go_num, iv (by rw [HN.out]; omega)⟩
      case measure => simp [intOf]; omega
    · obtain rfl : k = q.length := by omega
      go_wp2_with fail
      go_ret
      exact ⟨rfl, rfl⟩
end Go.Proofs.YtnachbjhhpnadaaGreatDoor
