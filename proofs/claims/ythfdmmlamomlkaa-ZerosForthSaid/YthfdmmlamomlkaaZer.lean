/-
  THE WALKS OF LAYER 7's CODE (package zeros): rows, places as codes.
-/
import Derived.Test.YthfdmmlamomlkaaInts
import Derived.Test.YthfdmmlamomlkaaZerMath
import Derived.WalkMore
namespace Go.Proofs.Ythfdmmlamomlkaa
open Go.RowKit ZerM
set_option linter.unusedVariables false
set_option maxRecDepth 100000 in
set_option maxHeartbeats 1000000 in
theorem zrow_any (base : Nat) (v : Value) (zs : List Int) (m : Nat) (w : World) (hv : OwnI w base v zs) (hb : base ≤ w.heap.size) (hz : zs.length + m ≤ 17592186044416) (hm : m ≤ 9223372036854775807) :
    Calls Try.prog 46 #[v, .int .i64 (m : Int)] w fun e w' => ∃ v', e = .returned v' ∧ OwnI w' base v' (zs ++ rowC m) ∧ Below base w w' := by
  have HV := Lib.hid hv
  clear hv
  go_enter Try.func46, Try.ntmps46
  go_wp2_with fail
  go_step3
  go_wp2_with fail
  go_step3
  go_wp2_with fail
  go_loopw [0, 1] (fun c i wr => ∃ (u : Value) (ys : List Int) (j : Nat), c = u ∧ i = .int .i64 (j : Int) ∧ ys ++ rowC j = zs ++ rowC m ∧ ys.length + j ≤ 17592186044416 ∧ j ≤ 9223372036854775807 ∧ OwnI wr base u ys ∧ Below base w wr) (fun _ i _ => (intOf i).toNat)
  case atStart => exact ⟨v, zs, m, rfl, rfl, rfl, hz, hm, HV.out, Below.refl _ _⟩
  case round =>
    clear HV
    obtain ⟨u, ys, j, rfl, rfl, he, hl, hj, hO, hB⟩ := hrel
    have HE := Lib.hid he
    have HO := Lib.hid hO
    have HB := Lib.hid hB
    have hbw : base ≤ wr.heap.size := Nat.le_trans hb hB.size
    clear he hO hB
    by_cases h0 : j = 0
    · subst h0
      go_wp2_with fail
      try rw [Exit.noGoto_ret]
      go_ret
      refine ⟨_, rfl, ?_, HB.out⟩
      rw [← HE.out, rowC_zero, List.append_nil]
      exact HO.out
    · have h0i : ((j : Int) == 0) = false := by rw [beq_eq_false_iff_ne]; omega
      obtain ⟨i, hi⟩ : ∃ i, (j - 1) / 2 = i := ⟨_, rfl⟩
      have q1 : IntKind.i64.wrap ((j : Int) - 1) = (j : Int) - 1 := IntWalk.i64_in _ (by omega)
      have q2 : ((j : Int) - 1).tdiv 2 = (i : Int) := by rw [Int.tdiv_eq_ediv_of_nonneg (by omega)]; omega
      have q3 : ((j : Int) - 1) / 2 = (i : Int) := by omega
      have q4 : IntKind.i64.wrap (i : Int) = (i : Int) := IntWalk.i64_in _ (by omega)
      by_cases h1 : j % 2 = 1
      · have r1 : (j : Int).tmod 2 = 1 := by rw [Int.tmod_eq_emod_of_nonneg (by omega)]; omega
        have r2 : (j : Int) % 2 = 1 := by omega
        have HR := Lib.hid (rowC_odd j h1)
        rw [hi] at HR
        clear h1
        go_wp2_with (at_builtin; refine push_int wr rfl _ _ rfl base _ ys 0 HO.out rfl rfl (by omega) hbw ?_)
        intro v' w2 hO2 hB2
        have HO2 := Lib.hid hO2
        have HB2 := Lib.hid (HB.out.trans hB2)
        clear hO2 hB2
        go_wp2_with fail
        go_roundw
        case rel => exact ⟨_, _, i, rfl, by go_num, by rw [← HE.out, HR.out]; simp, by simp; omega, by omega, HO2.out, HB2.out⟩
        case measure => simp [intOf]; omega
      · have r1 : ((j : Int).tmod 2 == 1) = false := by rw [Int.tmod_eq_emod_of_nonneg (by omega), beq_eq_false_iff_ne]; omega
        have r2 : (j : Int) % 2 = 0 := by omega
        have HR := Lib.hid (rowC_even j (by omega) (by omega))
        rw [hi] at HR
        clear h1
        go_wp2_with (at_builtin; refine push_int wr rfl _ _ rfl base _ ys 1 HO.out rfl rfl (by omega) hbw ?_)
        intro v' w2 hO2 hB2
        have HO2 := Lib.hid hO2
        have HB2 := Lib.hid (HB.out.trans hB2)
        clear hO2 hB2
        go_wp2_with fail
        go_roundw
        case rel => exact ⟨_, _, i, rfl, by go_num, by rw [← HE.out, HR.out]; simp, by simp; omega, by omega, HO2.out, HB2.out⟩
        case measure => simp [intOf]; omega
end Go.Proofs.Ythfdmmlamomlkaa
