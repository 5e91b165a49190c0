/-
  math/bits.Len: the library's contract for Len64, laid at this program's numbers; Len over it.
-/
import Derived.Test.YtfedhppcmmponaaLawKit
import Derived.Shelf.Strconv.Itoa0
namespace Go.Proofs
open Go.Shelf
def Try.lays129_ren : Go.Shelf.Ren := ⟨fun | 129 => 63 | n => n, fun | 3 => 3 | 4 => 4 | 5 => 5 | 9 => 9 | 46 => 68 | 53 => 78 | n => n, fun  | n => n⟩
theorem Try.lays129 : Go.Proofs.Lays.n129 Try.prog Try.lays129_ren := {
  mixed := by kernel_rfl
  f129 := Try.func63.trans (congrArg some (by kernel_rfl))
  t3 := Try.underlying3
  a3 := Try.isAgg3
  z3 := Try.sizeOf3
  v3 := Try.zeroValue3
  t4 := Try.underlying4
  a4 := Try.isAgg4
  z4 := Try.sizeOf4
  v4 := Try.zeroValue4
  t5 := Try.underlying5
  a5 := Try.isAgg5
  z5 := Try.sizeOf5
  v5 := Try.zeroValue5
  t9 := Try.underlying9
  a9 := Try.isAgg9
  z9 := Try.sizeOf9
  v9 := Try.zeroValue9
  t46 := Try.underlying68
  a46 := Try.isAgg68
  z46 := Try.sizeOf68
  v46 := Try.zeroValue68
  t53 := Try.underlying78
  a53 := Try.isAgg78
  z53 := Try.sizeOf78
  v53 := Try.zeroValue78
}
end Go.Proofs
namespace Go.Proofs.Ytfedhppcmmponaa
open Go.RowKit
set_option linter.unusedVariables false
theorem len64_any (x : Nat) (w : World) (hx : x ≤ 1099511627776) : Calls Try.prog 63 #[.int .u64 (x : Int)] w fun e w' => e = .returned (.int .i64 (Lib.bitLen x : Int)) ∧ w' = w := by
  have h := Any.bits_Len64 Try.lays129 (x : Int) w (by omega) (by omega)
  rw [Int.toNat_natCast] at h
  exact h
set_option maxHeartbeats 400000 in
theorem len_any (x : Nat) (w : World) (hx : x ≤ 1099511627776) : Calls Try.prog 51 #[.int .u64 (x : Int)] w fun e w' => e = .returned (.int .i64 (Lib.bitLen x : Int)) ∧ w' = w := by
  go_enter Try.func51, Try.ntmps51
  go_wp2_with fail
  refine (len64_any x w hx).mono ?_
  rintro e w' ⟨rfl, rfl⟩
  go_wp2_with fail
  go_ret
  exact ⟨rfl, rfl⟩
/-- The least power of two that is no less. -/
theorem bitLen_spec : ∀ (k x : Nat), x < 2 ^ k → k ≤ 64 → x < 2 ^ Lib.bitLen x ∧ (0 < x → 2 ^ (Lib.bitLen x - 1) ≤ x) := by
  intro k
  induction k with
  | zero =>
    intro x hx _
    have : x = 0 := by simpa using hx
    subst this
    exact ⟨by decide, fun h => by omega⟩
  | succ k ih =>
    intro x hx hk
    rcases Nat.eq_zero_or_pos x with rfl | h0
    · exact ⟨by decide, fun h => by omega⟩
    · have h1 := Lib.bitLen_half x (by omega) (Nat.lt_of_lt_of_le hx (Nat.pow_le_pow_right (by omega) hk))
      have h2 := ih (x / 2) (by rw [Nat.pow_succ] at hx; omega) (by omega)
      rw [h1]
      refine ⟨by rw [Nat.add_comm, Nat.pow_succ]; omega, fun _ => ?_⟩
      rw [Nat.add_sub_cancel_left]
      rcases Nat.eq_zero_or_pos (x / 2) with e | e
      · rw [e, show Lib.bitLen 0 = 0 by decide]
        exact h0
      · have h3 := h2.2 e
        have h4 : 0 < Lib.bitLen (x / 2) := by
          rcases Nat.eq_zero_or_pos (Lib.bitLen (x / 2)) with g | g
          · have := h2.1
            rw [g] at this
            simp at this
            omega
          · exact g
        have h5 : 2 ^ Lib.bitLen (x / 2) = 2 ^ (Lib.bitLen (x / 2) - 1) * 2 := by rw [← Nat.pow_succ]; congr 1; omega
        omega
end Go.Proofs.Ytfedhppcmmponaa
