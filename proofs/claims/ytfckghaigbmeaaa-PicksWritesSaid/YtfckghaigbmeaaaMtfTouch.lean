/-
  THE WALKS OF THE DOCUMENT's ANSWERS OF LAYER 6 (balerref06): Place, Touch.
-/
import Derived.Test.YtfckghaigbmeaaaMtfMath
import Derived.Test.YtfckghaigbmeaaaInts
namespace Go.Proofs.Ytfckghaigbmeaaa
open Go.RowKit UsedM MtfM
set_option linter.unusedVariables false
set_option maxHeartbeats 1000000 in
theorem place_any (s : ByteArray) (c : UInt8) (w : World) (hs : s.size ≤ 9223372036854775807) :
    Calls Try.prog 38 #[.string s, .int .u8 (c.toNat : Int)] w fun e w' => e = .returned (.int .i64 (Lib.indexByte s.data.toList c)) ∧ w = w' := by
  have hsl : s.data.toList.length = s.size := rfl
  have hcl := c.toNat_lt
  go_enter Try.func38, Try.ntmps38
  go_wp2_with fail
  go_loop [5] (fun i => ∃ k : Nat, k ≤ s.size ∧ i = .int .i64 k ∧ ∀ j, j < k → s.data.toList[j]? ≠ some c) (fun i => s.size - (intOf i).toNat)
  case atStart => exact ⟨0, by omega, rfl, fun j hj => by omega⟩
  case round =>
    obtain ⟨k, hk, rfl, hn⟩ := hrel
    have HN := Lib.hid hn
    clear hn
    by_cases hlt : k < s.size
    · have hki : (k : Int) < (s.size : Int) := by omega
      have hx := s[k].toNat_lt
      have HG := Lib.hid (show s.data.toList[k]? = some s[k] from List.getElem?_eq_getElem (l := s.data.toList) (by simpa using hlt))
      by_cases he : s[k] = c
      · have hp := place_is (l := s.data.toList) (c := c) (k := k) (by rw [HG.out, he]) HN.out
        have hd : ((s[k].toNat : Int) == (c.toNat : Int)) = true := by rw [he]; exact beq_self_eq_true _
        have HP := Lib.hid hp
        clear he hp
        go_wp2_with fail
        go_ret
        exact ⟨by rw [HP.out]; rfl, rfl⟩
      · have hd : ((s[k].toNat : Int) == (c.toNat : Int)) = false := by
          rw [beq_eq_false_iff_ne]
          intro h
          exact he (UInt8.toNat_inj.1 (by omega))
        have HNE := Lib.hid he
        clear he
        go_wp2_with fail
        go_round
        case rel => exact ⟨k + 1, by omega, by go_num, fun j hj => by
          by_cases e : j = k
          · subst e
            rw [HG.out]
            intro h
            exact HNE.out (by simpa using h)
          · exact HN.out j (by omega)⟩
        case measure => simp [intOf]; omega
    · obtain rfl : k = s.size := by omega
      have hp := place_not (l := s.data.toList) (c := c) (fun j hj => HN.out j (by omega))
      have HP := Lib.hid hp
      clear hp
      go_wp2_with fail
      go_ret
      exact ⟨by rw [HP.out]; rfl, rfl⟩
theorem touch_text (m : List UInt8) (i : Nat) (h : i < m.length) :
    ((⟨m.toArray⟩ : ByteArray).extract i (i + 1) ++ (⟨m.toArray⟩ : ByteArray).extract 0 i) ++ (⟨m.toArray⟩ : ByteArray).extract (i + 1) m.length = ⟨(touch m i).toArray⟩ := by
  apply ByteArray.ext
  apply Array.toList_inj.1
  unfold touch
  simp only [ByteArray.data_append, ByteArray.data_extract, Array.toList_append, List.extract_toArray, List.extract_eq_take_drop]
  simp only [Nat.add_sub_cancel_left, Nat.sub_zero, List.drop_zero]
  rw [List.take_of_length_le (l := m.drop (i + 1)) (by rw [List.length_drop]; exact Nat.le_refl _)]
set_option maxHeartbeats 1000000 in
theorem rtouch_any (m : List UInt8) (i : Nat) (w : World) (hi : i < m.length) (hm : m.length ≤ 256) :
    Calls Try.prog 39 #[.string ⟨m.toArray⟩, .int .i64 (i : Int)] w fun e w' => e = .returned (.string ⟨(touch m i).toArray⟩) ∧ ∃ n, w' = w.drewN n := by
  have HT := touch_text m i hi
  have hsz : (⟨m.toArray⟩ : ByteArray).size = m.length := text_size m
  obtain ⟨L, hL⟩ : ∃ L, m.length = L := ⟨_, rfl⟩
  rw [hL] at HT hsz hi hm
  generalize (⟨m.toArray⟩ : ByteArray) = T at *
  obtain ⟨j, hj⟩ : ∃ j, i + 1 = j := ⟨_, rfl⟩
  rw [hj] at HT
  have z1 : (T.extract i j).size = 1 := by rw [ByteArray.size_extract]; omega
  have z2 : (T.extract 0 i).size = i := by rw [ByteArray.size_extract]; omega
  have z3 : (T.extract j L).size = L - j := by rw [ByteArray.size_extract]; omega
  have z4 : (T.extract i j ++ T.extract 0 i).size = j := by rw [ByteArray.size_append]; omega
  have hji : (i : Int) + 1 = (j : Int) := by omega
  have hjw : IntKind.i64.wrap (j : Int) = (j : Int) := IntWalk.i64_in _ (by omega)
  have b1 : (0 : Int) ≤ (i : Int) := by omega
  have b2 : (i : Int) ≤ (j : Int) := by omega
  have b3 : (j : Int) ≤ (L : Int) := by omega
  have b4 : (i : Int) ≤ (L : Int) := by omega
  have b5 : (0 : Int) ≤ (j : Int) := by omega
  have b6 : (L : Int) ≤ 256 := by omega
  have hc1 : ∀ W, (Op.stringOp .add (T.extract i j) (T.extract 0 i)).run Try.prog W = .ok (.string (T.extract i j ++ T.extract 0 i)) W := fun W => by
    rw [run_string_add_if, if_neg (by omega)]
  have hc2 : ∀ W, (Op.stringOp .add (T.extract i j ++ T.extract 0 i) (T.extract j L)).run Try.prog W = .ok (.string ((T.extract i j ++ T.extract 0 i) ++ T.extract j L)) W := fun W => by
    rw [run_string_add_if, if_neg (by omega)]
  have HTT := Lib.hid HT
  clear HT z1 z2 z3 z4 hL
  go_enter Try.func39, Try.ntmps39
  go_wp2_with fail
  go_quiet (fail)
  go_wp2_with fail
  go_ret
  rw [HTT.out]
  exact ⟨rfl, _, rfl⟩
end Go.Proofs.Ytfckghaigbmeaaa
