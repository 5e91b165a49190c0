/-
  LAYER 9 (lens): the document's share.
-/
import Derived.Test.YtmlcdfimcabgkaaDoorLenG
namespace Go.Proofs.YtmlcdfimcabgkaaDoor
open Go.RowKit HufM
set_option linter.unusedVariables false
set_option maxRecDepth 100000 in
set_option maxHeartbeats 2000000 in
theorem rShare_any (v : Value) (zs : List Int) (w : World) (hv : IsInts w v zs) (hz : zs.length ≤ 1000) (hw : Within 0 20 zs) :
    Calls Tryd.prog 44 #[v] w fun e w' => e = .returned (.int .i64 (shr zs : Int)) ∧ w' = w := by
  have HV := Lib.hid hv
  have HW := Lib.hid hw
  obtain ⟨ad, cap, rfl, _⟩ := hv
  clear hw
  go_enter Tryd.func44, Tryd.ntmps44
  go_wp2_with fail
  go_loopw [3, 9] (fun m i wr => ∃ k s : Nat, k ≤ zs.length ∧ i = .int .i64 k ∧ m = .int .i64 s ∧ s = shr (zs.take k) ∧ wr = w) (fun _ i _ => zs.length - (intOf i).toNat)
  case atStart => exact ⟨0, 0, by omega, rfl, rfl, rfl, rfl⟩
  case round =>
    obtain ⟨k, s, hk, rfl, rfl, hs, rfl⟩ := hrel
    by_cases hlk : k < zs.length
    · have hki : (k : Int) < (zs.length : Int) := by omega
      obtain ⟨b1, o1, k1, he1, c1⟩ := HV.out.cell hlk
      simp only [Value.slice.injEq] at he1
      obtain ⟨rfl, _, rfl⟩ := he1
      have ht := shr_take zs hlk
      have hx2 := HW.out _ (getD_mem hlk)
      have hsb : s ≤ 1048576 * 1000 := by
        have := shr_bound (zs.take k)
        rw [← hs, List.length_take] at this
        have h3 : 1048576 * min k zs.length ≤ 1048576 * 1000 := Nat.mul_le_mul_left _ (by omega)
        omega
      obtain ⟨x, hx⟩ : ∃ x, zs.getD k 0 = x := ⟨_, rfl⟩
      rw [hx] at c1 ht hx2
      obtain ⟨E, he⟩ : ∃ e, 20 - x.toNat = e := ⟨_, rfl⟩
      have hxe : (20 : Int) - x = (E : Int) := by omega
      have hE : E ≤ 20 := by omega
      rw [he, ← hs] at ht
      have HT := Lib.hid ht
      clear hs hx ht he
      go_wp2_with fail
      go_loopw [6, 15] (fun p j wr2 => ∃ t P : Nat, t ≤ E ∧ j = .int .i64 t ∧ p = .int .i64 P ∧ P = 2 ^ t ∧ wr2 = wr) (fun _ j _ => E - (intOf j).toNat)
      case atStart => exact ⟨0, 1, by omega, rfl, rfl, rfl, rfl⟩
      case round =>
        obtain ⟨t, P, htE, rfl, rfl, hP, rfl⟩ := hrel
        have hPb : P ≤ 1048576 := by rw [hP]; exact Nat.pow_le_pow_right (by decide) (show t ≤ 20 by omega)
        by_cases hte : t < E
        · have hte2 : (t : Int) < (E : Int) := by omega
          have HP : Hid (P * 2 = 2 ^ (t + 1)) := Lib.hid (by rw [Nat.pow_succ, ← hP])
          clear hP
          go_wp2_with fail
          go_roundw
          case rel => exact ⟨t + 1, P * 2, by omega, by go_num, by go_num, HP.out, (by first | rfl | trivial)⟩
          case measure => simp [intOf]; omega
        · have hte2 : ¬ (t : Int) < (E : Int) := by omega
          have HP : Hid (P = 2 ^ E) := Lib.hid (by rw [hP]; congr 1; omega)
          clear hP
          go_wp2_with fail
          go_roundw
          case rel => exact ⟨k + 1, s + P, by omega, by go_num, by go_num, by rw [HP.out]; exact HT.out.symm, (by first | rfl | trivial)⟩
          case measure => simp [intOf]; omega
    · have hki : ¬ (k : Int) < (zs.length : Int) := by omega
      have e : zs.take k = zs := List.take_of_length_le (by omega)
      rw [e] at hs
      have HS := Lib.hid hs
      clear e hs
      go_wp2_with fail
      go_ret
      rw [HS.out]
      exact ⟨rfl, rfl⟩
end Go.Proofs.YtmlcdfimcabgkaaDoor
