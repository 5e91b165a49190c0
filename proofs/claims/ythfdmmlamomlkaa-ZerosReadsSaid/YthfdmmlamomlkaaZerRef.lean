/-
  THE WALKS OF THE DOCUMENT's ANSWERS OF LAYER 7 (balerref07): rows, what codes stand for, places as codes.
-/
import Derived.Test.YthfdmmlamomlkaaZerF
namespace Go.Proofs.Ythfdmmlamomlkaa
open Go.RowKit ZerM
set_option linter.unusedVariables false
set_option maxRecDepth 100000 in
set_option maxHeartbeats 1000000 in
theorem rrow_any (m : Nat) (hm : m ≤ 17592186044416) : ∀ w : World, Calls Try.prog 19 #[.int .i64 (m : Int)] w fun e w' => ∃ v, e = .returned v ∧ OwnI w' w.heap.size v (rowC m) ∧ Below w.heap.size w w' := by
  induction m using Nat.strongRecOn with
  | _ m ih =>
    intro w
    by_cases h0 : m = 0
    · subst h0
      go_enter Try.func19, Try.ntmps19
      go_wp2_with fail
      go_ret
      exact ⟨_, rfl, by rw [rowC_zero]; exact OwnI.nil _ _, Below.refl _ _⟩
    · have h0i : ((m : Int) == 0) = false := by rw [beq_eq_false_iff_ne]; omega
      obtain ⟨i, hi⟩ : ∃ i, (m - 1) / 2 = i := ⟨_, rfl⟩
      have HC := Lib.hid (fun w => ih i (by omega) (by omega) w)
      have hil : i ≤ 17592186044416 := by omega
      have hrl := rowC_len i
      have q1 : IntKind.i64.wrap ((m : Int) - 1) = (m : Int) - 1 := IntWalk.i64_in _ (by omega)
      have q5 : IntKind.i64.wrap ((m : Int) - 2) = (m : Int) - 2 := IntWalk.i64_in _ (by omega)
      have q4 : IntKind.i64.wrap (i : Int) = (i : Int) := IntWalk.i64_in _ (by omega)
      by_cases h1 : m % 2 = 1
      · have r1 : (m : Int).tmod 2 = 1 := by rw [Int.tmod_eq_emod_of_nonneg (by omega)]; omega
        have r2 : (m : Int) % 2 = 1 := by omega
        have q2 : ((m : Int) - 1).tdiv 2 = (i : Int) := by rw [Int.tdiv_eq_ediv_of_nonneg (by omega)]; omega
        have q3 : ((m : Int) - 1) / 2 = (i : Int) := by omega
        have HR := Lib.hid (rowC_odd m h1)
        rw [hi] at HR
        clear h1 ih
        go_enter Try.func19, Try.ntmps19
        go_wp2_with (at_builtin; refine push_int w rfl _ _ rfl w.heap.size _ [] 0 (OwnI.nil w w.heap.size) rfl rfl (by decide) (Nat.le_refl _) ?_)
        intro v1 w1 hO1 hB1
        have HO1 := Lib.hid hO1
        have HB1 := Lib.hid hB1
        clear hO1 hB1
        go_wp2_with fail
        refine (HC.out w1).mono ?_
        rintro e w2 ⟨u, rfl, hO2, hB2⟩
        have HO2 := Lib.hid hO2
        have HO3 := Lib.hid (HO1.out.below hB2)
        have HB2 := Lib.hid (HB1.out.trans (hB2.mono HB1.out.size))
        have hbw : w.heap.size ≤ w2.heap.size := HB2.out.size
        clear hO2 hB2
        go_wp2_with (at_builtin; refine push_own w2 rfl _ _ rfl w.heap.size _ ([] ++ [0]) w1.heap.size _ (rowC i) HO3.out HO2.out rfl rfl (by simp; omega) hbw ?_)
        intro v3 w3 hO3 hB3
        have HO4 := Lib.hid hO3
        have HB3 := Lib.hid (HB2.out.trans hB3)
        clear hO3 hB3
        go_wp2_with fail
        go_ret
        exact ⟨_, rfl, by rw [HR.out]; exact HO4.out, HB3.out⟩
      · have r1 : ((m : Int).tmod 2 == 1) = false := by rw [Int.tmod_eq_emod_of_nonneg (by omega), beq_eq_false_iff_ne]; omega
        have r2 : (m : Int) % 2 = 0 := by omega
        have q2 : ((m : Int) - 2).tdiv 2 = (i : Int) := by rw [Int.tdiv_eq_ediv_of_nonneg (by omega)]; omega
        have q3 : ((m : Int) - 2) / 2 = (i : Int) := by omega
        have HR := Lib.hid (rowC_even m (by omega) (by omega))
        rw [hi] at HR
        clear h1 ih
        go_enter Try.func19, Try.ntmps19
        go_wp2_with (at_builtin; refine push_int w rfl _ _ rfl w.heap.size _ [] 1 (OwnI.nil w w.heap.size) rfl rfl (by decide) (Nat.le_refl _) ?_)
        intro v1 w1 hO1 hB1
        have HO1 := Lib.hid hO1
        have HB1 := Lib.hid hB1
        clear hO1 hB1
        go_wp2_with fail
        refine (HC.out w1).mono ?_
        rintro e w2 ⟨u, rfl, hO2, hB2⟩
        have HO2 := Lib.hid hO2
        have HO3 := Lib.hid (HO1.out.below hB2)
        have HB2 := Lib.hid (HB1.out.trans (hB2.mono HB1.out.size))
        have hbw : w.heap.size ≤ w2.heap.size := HB2.out.size
        clear hO2 hB2
        go_wp2_with (at_builtin; refine push_own w2 rfl _ _ rfl w.heap.size _ ([] ++ [1]) w1.heap.size _ (rowC i) HO3.out HO2.out rfl rfl (by simp; omega) hbw ?_)
        intro v3 w3 hO3 hB3
        have HO4 := Lib.hid hO3
        have HB3 := Lib.hid (HB2.out.trans hB3)
        clear hO3 hB3
        go_wp2_with fail
        go_ret
        exact ⟨_, rfl, by rw [HR.out]; exact HO4.out, HB3.out⟩
theorem val_take (l : List Int) (k : Nat) (h : k < l.length) : val (l.take (k + 1)) = val (l.take k) + (1 + (l.getD k 0).toNat) * 2 ^ k := by
  rw [List.take_succ_eq_append_getElem h, val_snoc, List.length_take, show min k l.length = k by omega, List.getD_eq_getElem?_getD, List.getElem?_eq_getElem h]
  rfl
theorem val_mono (l : List Int) (k : Nat) : val (l.take k) ≤ val l := by
  have := val_append (l.take k) (l.drop k)
  rw [List.take_append_drop] at this
  omega
set_option maxRecDepth 100000 in
set_option maxHeartbeats 1000000 in
theorem rvalue_any (v : Value) (zs : List Int) (w : World) (hv : IsInts w v zs) (hb : Bin zs) (hl : zs.length ≤ 41) (hvl : val zs ≤ 4398046511104) :
    Calls Try.prog 20 #[v] w fun e w' => e = .returned (.int .i64 (val zs : Int)) ∧ ∃ n, w' = w.drewN n := by
  have HV := Lib.hid hv
  have HBI := Lib.hid hb
  obtain ⟨a, cap, rfl, _⟩ := hv
  clear hb
  go_enter Try.func20, Try.ntmps20
  go_wp2_with fail
  go_loopw [3, 4, 9] (fun m x i wr => ∃ k n : Nat, k ≤ zs.length ∧ i = .int .i64 k ∧ m = .int .i64 (val (zs.take k) : Int) ∧ x = .int .i64 ((2 ^ k : Nat) : Int) ∧ wr = w.drewN n) (fun _ _ i _ => zs.length - (intOf i).toNat)
  case atStart => exact ⟨0, 0, by omega, rfl, rfl, rfl, rfl⟩
  case round =>
    obtain ⟨k, n, hk, rfl, rfl, rfl, rfl⟩ := hrel
    by_cases hlk : k < zs.length
    · have hki : (k : Int) < (zs.length : Int) := by omega
      obtain ⟨b1, o1, k1, he1, c1⟩ := HV.out.cell hlk
      simp only [Value.slice.injEq] at he1
      obtain ⟨rfl, _, rfl⟩ := he1
      have HVT := Lib.hid (val_take zs k hlk)
      have hmn := val_mono zs (k + 1)
      rw [HVT.out] at hmn
      have hp : 2 ^ k ≤ 2 ^ 40 := Nat.pow_le_pow_right (by omega) (by omega)
      simp at hp
      have HPS : Hid (2 * 2 ^ k = 2 ^ (k + 1)) := Lib.hid (by rw [Nat.pow_succ]; omega)
      obtain ⟨x, hx⟩ : ∃ x, zs.getD k 0 = x := ⟨_, rfl⟩
      have hx01 : x = 0 ∨ x = 1 := HBI.out x (by
        rw [← hx, List.getD_eq_getElem?_getD, List.getElem?_eq_getElem hlk]
        exact List.getElem_mem hlk)
      rw [hx] at c1 HVT hmn
      clear hx
      generalize val (zs.take k) = m at *
      generalize 2 ^ k = P at *
      have hPc : ((2 : Int) * (P : Int) : Int) = ((2 * P : Nat) : Int) := by simp
      rw [HPS.out] at hPc
      have HPC := Lib.hid hPc
      clear hPc
      have w1 : IntKind.i64.wrap ((2 : Int) * (P : Int)) = (2 : Int) * (P : Int) := IntWalk.i64_in _ (by omega)
      have w2 : IntKind.i64.wrap ((m : Int) + (P : Int)) = (m : Int) + (P : Int) := IntWalk.i64_in _ (by
        rcases hx01 with rfl | rfl <;> (simp at hmn; omega))
      rcases hx01 with rfl | rfl
      · simp at hmn
        have HVI : Hid ((val (zs.take (k + 1)) : Int) = (m : Int) + (P : Int)) := Lib.hid (by rw [HVT.out]; simp)
        go_wp2_with fail
        go_roundw
        case rel => exact ⟨k + 1, _, by omega, by go_num, by rw [HVI.out], by rw [HPC.out], rfl⟩
        case measure => simp [intOf]; omega
      · simp at hmn
        have HVI : Hid ((val (zs.take (k + 1)) : Int) = (m : Int) + (P : Int) + (P : Int)) := Lib.hid (by rw [HVT.out]; simp; omega)
        have w3 : IntKind.i64.wrap ((m : Int) + (P : Int) + (P : Int)) = (m : Int) + (P : Int) + (P : Int) := IntWalk.i64_in _ (by omega)
        have w4 : IntKind.i64.wrap (P : Int) = (P : Int) := IntWalk.i64_in _ (by omega)
        go_wp2_with fail
        go_roundw
        case rel => exact ⟨k + 1, _, by omega, by go_num, by rw [HVI.out], by rw [HPC.out], rfl⟩
        case measure => simp [intOf]; omega
    · obtain rfl : k = zs.length := by omega
      rw [List.take_of_length_le (Nat.le_refl _)]
      go_wp2_with fail
      go_ret
      exact ⟨rfl, n, rfl⟩
end Go.Proofs.Ythfdmmlamomlkaa
