/-
  THE WALKS OF LAYER 16's CODE (package sorter) AND THE DOCUMENT's ANSWER: how many steps there are at most.
-/
import Derived.Test.YtfedhppcmmponaaSrtMathB
import Derived.Test.YtfedhppcmmponaaLen
import Derived.Test.YtfedhppcmmponaaToI
import Derived.StillTailTactics
import Derived.BigQuiet
namespace Go.Proofs.Ytfedhppcmmponaa
open Go.RowKit BwtM SrtM PkM
set_option linter.unusedVariables false
set_option linter.unusedSimpArgs false
/-- The bits of what there may be at most. -/
def mostB (N : Nat) : Nat := Lib.bitLen (min N 1099511627776 - 1)
def mostN (N : Nat) : Nat := if N < 2 then 0 else min (min N 1099511627776 * ((4 + 3 * mostB N) * (mostB N + 2))) 1099511627776
theorem mostB_le (N : Nat) : mostB N ≤ 40 := by
  have e : (2 : Nat) ^ 40 = 1099511627776 := by decide
  exact Lib.bitLen_le _ 40 (by omega) (by rw [e]; omega)
theorem most_bits {N j : Nat} (hN : 2 ≤ N) (hj : j ≤ 40) (h1 : ∀ i, i < j → 2 ^ i < N) (h2 : N ≤ 2 ^ j ∨ j = 40) : j = mostB N := by
  have e40 : (2 : Nat) ^ 40 = 1099511627776 := by decide
  have hle := mostB_le N
  have hs := bitLen_spec 40 (min N 1099511627776 - 1) (by omega) (by omega)
  have hlo := hs.2 (by omega)
  have hhi := hs.1
  unfold mostB at hle ⊢
  generalize Lib.bitLen (min N 1099511627776 - 1) = L at *
  rcases Nat.lt_trichotomy j L with c | c | c
  · have h3 : N ≤ 2 ^ j := by
      rcases h2 with h2 | h2
      · exact h2
      · omega
    have h4 : 2 ^ j ≤ 2 ^ (L - 1) := Nat.pow_le_pow_right (by omega) (by omega)
    omega
  · exact c
  · have h3 := h1 L c
    have h4 : 2 ^ L < 2 ^ 40 := Nat.pow_lt_pow_right (by omega) (by omega)
    omega
theorem mostN_le (N : Nat) : mostN N ≤ 1099511627776 := by
  unfold mostN
  split <;> omega
set_option maxRecDepth 100000 in
set_option maxHeartbeats 4000000 in
theorem smost_any (n : Int) (w : World) (h1 : -9223372036854775808 ≤ n) (h2 : n ≤ 9223372036854775807) : Calls Try.prog 26 #[.int .i64 n] w fun e w' => e = .returned (.int .i64 (mostN n.toNat : Int)) ∧ w' = w := by
  by_cases hn : n < 2
  · have e : mostN n.toNat = 0 := by unfold mostN; rw [if_pos (by omega)]
    rw [e]
    go_enter Try.func26, Try.ntmps26
    go_wp2_with fail
    go_ret
    exact ⟨rfl, rfl⟩
  · obtain ⟨N, rfl⟩ : ∃ N : Nat, n = (N : Int) := ⟨n.toNat, by omega⟩
    rw [Int.toNat_natCast]
    obtain ⟨m, hm⟩ : ∃ m, min N 1099511627776 = m := ⟨_, rfl⟩
    obtain ⟨m1, hm1⟩ : ∃ m1, m - 1 = m1 := ⟨_, rfl⟩
    obtain ⟨b, hb⟩ : ∃ b, Lib.bitLen m1 = b := ⟨_, rfl⟩
    have hbe : mostB N = b := by unfold mostB; rw [hm, hm1, hb]
    have hb40 : b ≤ 40 := by rw [← hbe]; exact mostB_le N
    have hmm : 2 ≤ m ∧ m ≤ 1099511627776 := by omega
    have HC : Hid (Calls Try.prog 51 #[.int .u64 (m1 : Int)] w fun e w' => e = .returned (.int .i64 (b : Int)) ∧ w' = w) := Lib.hid (by rw [← hb]; exact len_any m1 w (by omega))
    have hm1i : (m : Int) - 1 = (m1 : Int) := by omega
    have hm1w : IntKind.i64.wrap (m1 : Int) = (m1 : Int) := IntWalk.i64_in _ (by omega)
    have hm1u : IntKind.u64.wrap (m1 : Int) = (m1 : Int) := by simp [IntKind.wrap, IntKind.bits, IntKind.signed]; omega
    obtain ⟨c3, hc3⟩ : ∃ c3, 3 * b = c3 := ⟨_, rfl⟩
    have hc3i : (3 : Int) * (b : Int) = (c3 : Int) := by omega
    obtain ⟨c, hc⟩ : ∃ c, 4 + c3 = c := ⟨_, rfl⟩
    have hci : (4 : Int) + (c3 : Int) = (c : Int) := by omega
    obtain ⟨e2, he2⟩ : ∃ e2, b + 2 = e2 := ⟨_, rfl⟩
    have he2i : (b : Int) + 2 = (e2 : Int) := by omega
    obtain ⟨d, hd⟩ : ∃ d, m * c = d := ⟨_, rfl⟩
    have hdi : (m : Int) * (c : Int) = (d : Int) := by rw [← hd, Int.natCast_mul]
    have hdl : d ≤ 1099511627776 * 124 := by rw [← hd]; exact Nat.mul_le_mul hmm.2 (by omega)
    obtain ⟨f, hf⟩ : ∃ f, d * e2 = f := ⟨_, rfl⟩
    have hfi : (d : Int) * (e2 : Int) = (f : Int) := by rw [← hf, Int.natCast_mul]
    have hfl : f ≤ 1099511627776 * 124 * 42 := by rw [← hf]; exact Nat.mul_le_mul hdl (by omega)
    have hcw : IntKind.i64.wrap (c : Int) = (c : Int) := IntWalk.i64_in _ (by omega)
    have hc3w : IntKind.i64.wrap (c3 : Int) = (c3 : Int) := IntWalk.i64_in _ (by omega)
    have he2w : IntKind.i64.wrap (e2 : Int) = (e2 : Int) := IntWalk.i64_in _ (by omega)
    have hdw : IntKind.i64.wrap (d : Int) = (d : Int) := IntWalk.i64_in _ (by omega)
    have hfw : IntKind.i64.wrap (f : Int) = (f : Int) := IntWalk.i64_in _ (by omega)
    have hres : mostN N = min f 1099511627776 := by
      unfold mostN
      rw [if_neg (by omega), hm, hbe, hc3, hc, he2, ← Nat.mul_assoc, hd, hf]
    obtain ⟨r, hr⟩ : ∃ r, min f 1099511627776 = r := ⟨_, rfl⟩
    rw [hres, hr]
    have hN2 : ¬ (N : Int) < 2 := hn
    have hmin1 : min (N : Int) 1099511627776 = (m : Int) := by omega
    have hmin2 : min (f : Int) 1099511627776 = (r : Int) := by omega
    clear hd hf hc hc3 he2 hb hm1 hres hbe hm hr
    go_enter Try.func26, Try.ntmps26
    go_wp2_with fail
    refine HC.out.mono ?_
    rintro e w' ⟨rfl, rfl⟩
    go_wp2_with fail
    go_ret
    exact ⟨rfl, rfl⟩
set_option maxRecDepth 100000 in
set_option maxHeartbeats 4000000 in
theorem rmost_any (n : Int) (w : World) (h1 : -9223372036854775808 ≤ n) (h2 : n ≤ 9223372036854775807) : Calls Try.prog 27 #[.int .i64 n] w fun e w' => e = .returned (.int .i64 (mostN n.toNat : Int)) ∧ w' = w := by
  by_cases hn : n < 2
  · have e : mostN n.toNat = 0 := by unfold mostN; rw [if_pos (by omega)]
    rw [e]
    go_enter Try.func27, Try.ntmps27
    go_wp2_with fail
    go_ret
    exact ⟨rfl, rfl⟩
  · obtain ⟨N, rfl⟩ : ∃ N : Nat, n = (N : Int) := ⟨n.toNat, by omega⟩
    rw [Int.toNat_natCast]
    have hN2 : 2 ≤ N := by omega
    go_enter Try.func27, Try.ntmps27
    go_wp2_with fail
    go_loop [3, 4] (fun vb vp => ∃ (j : Nat), vb = .int .i64 (j : Int) ∧ vp = .int .i64 ((2 ^ j : Nat) : Int) ∧ j ≤ 40 ∧ ∀ i, i < j → 2 ^ i < N) (fun vb _ => 40 - (intOf vb).toNat)
    case atStart => exact ⟨0, rfl, rfl, Nat.zero_le _, fun i h => by omega⟩
    case round =>
      obtain ⟨j, rfl, rfl, hj, hp⟩ := hrel
      have HP := Lib.hid hp
      have e40 : (2 : Nat) ^ 40 = 1099511627776 := by decide
      have hpl : 2 ^ j ≤ 2 ^ 40 := Nat.pow_le_pow_right (by omega) hj
      have hp2 : 2 ^ (j + 1) = 2 * 2 ^ j := by rw [Nat.pow_succ]; omega
      obtain ⟨p, hpE⟩ : ∃ p, 2 ^ j = p := ⟨_, rfl⟩
      have HPE := Lib.hid hpE
      rw [hpE] at hpl hp2 ⊢
      have HP2 := Lib.hid hp2
      have hpb : p ≤ 1099511627776 := by omega
      clear hp hpE hpl hp2 e40
      by_cases hc : p < N ∧ j < 40
      · obtain ⟨c1, c2⟩ := hc
        have c1i : (p : Int) < (N : Int) := by omega
        have c2i : (j : Int) < 40 := by omega
        obtain ⟨p2, hp2⟩ : ∃ p2, 2 * p = p2 := ⟨_, rfl⟩
        have hp2i : (2 : Int) * (p : Int) = (p2 : Int) := by omega
        have hp2w : IntKind.i64.wrap (p2 : Int) = (p2 : Int) := IntWalk.i64_in _ (by omega)
        have HQ : Hid (2 ^ (j + 1) = p2) := Lib.hid (by rw [HP2.out, hp2])
        clear hp2
        go_wp2_with fail
        go_round
        case rel => exact ⟨j + 1, by go_num, by rw [HQ.out], by omega, fun i hi => by
          rcases (by omega : i < j ∨ i = j) with e | e
          · exact HP.out i e
          · rw [e, HPE.out]; exact c1⟩
        case measure => simp [intOf]; omega
      · have hjb : j = mostB N := most_bits hN2 hj HP.out (by rw [HPE.out]; omega)
        have HJB := Lib.hid hjb
        clear HP HPE HP2 hjb
        obtain ⟨c3, hc3⟩ : ∃ c3, 3 * j = c3 := ⟨_, rfl⟩
        have hc3i : (3 : Int) * (j : Int) = (c3 : Int) := by omega
        obtain ⟨c, hcE⟩ : ∃ c, 4 + c3 = c := ⟨_, rfl⟩
        have hci : (4 : Int) + (c3 : Int) = (c : Int) := by omega
        obtain ⟨e2, he2⟩ : ∃ e2, j + 2 = e2 := ⟨_, rfl⟩
        have he2i : (j : Int) + 2 = (e2 : Int) := by omega
        obtain ⟨C, hC⟩ : ∃ C, c * e2 = C := ⟨_, rfl⟩
        have hCi : (c : Int) * (e2 : Int) = (C : Int) := by rw [← hC, Int.natCast_mul]
        have hCl : C ≤ 124 * 42 := by rw [← hC]; exact Nat.mul_le_mul (by omega) (by omega)
        have hC1 : 1 ≤ C := by rw [← hC]; exact Nat.mul_le_mul (by omega : 1 ≤ c) (by omega : 1 ≤ e2)
        have hcw : IntKind.i64.wrap (c : Int) = (c : Int) := IntWalk.i64_in _ (by omega)
        have hc3w : IntKind.i64.wrap (c3 : Int) = (c3 : Int) := IntWalk.i64_in _ (by omega)
        have he2w : IntKind.i64.wrap (e2 : Int) = (e2 : Int) := IntWalk.i64_in _ (by omega)
        have hCw : IntKind.i64.wrap (C : Int) = (C : Int) := IntWalk.i64_in _ (by omega)
        have hM : mostN N = min (min N 1099511627776 * C) 1099511627776 := by
          unfold mostN
          rw [if_neg (by omega), ← HJB.out, ← hC, ← hcE, ← hc3, ← he2]
        have HM := Lib.hid hM
        clear hC hcE hc3 he2 hM
        by_cases c1 : p < N
        · have c1i : (p : Int) < (N : Int) := by omega
          have c2i : ¬ (j : Int) < 40 := by omega
          clear hc
          go_wp2_with fail
          go_loop [25, 5] (fun vi vt => ∃ (i : Nat), vi = .int .i64 (i : Int) ∧ i ≤ C ∧ ∃ t : Nat, vt = .int .i64 (t : Int) ∧ t = i * N ∧ t ≤ 1099511627776) (fun vi _ => C - (intOf vi).toNat)
          case atStart => exact ⟨0, rfl, Nat.zero_le _, 0, rfl, by omega, by omega⟩
          case round =>
            obtain ⟨i, rfl, hi, t, rfl, ht, htM⟩ := hrel
            have HT := Lib.hid ht
            clear ht
            by_cases hiC : i < C
            · have hiCi : (i : Int) < (C : Int) := by omega
              obtain ⟨u, hu⟩ : ∃ u, 1099511627776 - t = u := ⟨_, rfl⟩
              have hui : (1099511627776 : Int) - (t : Int) = (u : Int) := by omega
              have huw : IntKind.i64.wrap (u : Int) = (u : Int) := IntWalk.i64_in _ (by omega)
              by_cases hNu : u < N
              · have hNui : (N : Int) > (u : Int) := by omega
                have hres : mostN N = 1099511627776 := by
                  rw [HM.out]
                  have h3 : (i + 1) * N ≤ C * N := Nat.mul_le_mul_right _ (by omega)
                  rw [Nat.add_mul, Nat.one_mul, ← HT.out] at h3
                  have h5 : 1099511627776 * 1 ≤ 1099511627776 * C := Nat.mul_le_mul_left _ hC1
                  rcases Nat.lt_or_ge 1099511627776 N with c | c
                  · rw [Nat.min_eq_right (Nat.le_of_lt c)]
                    omega
                  · rw [Nat.min_eq_left c, Nat.mul_comm]
                    omega
                have HRES := Lib.hid hres
                clear hres
                go_wp2_with fail
                go_ret
                exact ⟨by rw [HRES.out]; rfl, rfl⟩
              · have hNui : ¬ (N : Int) > (u : Int) := by omega
                obtain ⟨t2, ht2⟩ : ∃ t2, t + N = t2 := ⟨_, rfl⟩
                have ht2i : (t : Int) + (N : Int) = (t2 : Int) := by omega
                have ht2w : IntKind.i64.wrap (t2 : Int) = (t2 : Int) := IntWalk.i64_in _ (by omega)
                have HT2 : Hid (t2 = (i + 1) * N) := Lib.hid (by rw [Nat.add_mul, Nat.one_mul, ← HT.out]; exact ht2.symm)
                have ht2M : t2 ≤ 1099511627776 := by omega
                clear hu ht2
                go_wp2_with fail
                go_round
                case rel => exact ⟨i + 1, by go_num, by omega, t2, rfl, HT2.out, ht2M⟩
                case measure => simp [intOf]; omega
            · have hiCi : ¬ (i : Int) < (C : Int) := by omega
              have hres : mostN N = t := by
                have e : i = C := by omega
                have h3 := HT.out
                rw [e] at h3
                have h4 : 1 * N ≤ C * N := Nat.mul_le_mul_right _ hC1
                have h5 : N ≤ 1099511627776 := by omega
                rw [HM.out, Nat.min_eq_left h5, Nat.mul_comm N C, ← h3]
                omega
              have HRES := Lib.hid hres
              clear hres
              go_wp2_with fail
              go_ret
              exact ⟨by rw [HRES.out]; rfl, rfl⟩
        · have c1i : decide (p < N) = false := by simp only [decide_eq_false_iff_not]; exact c1
          have c1n : ¬ (p : Int) < (N : Int) := by omega
          clear hc
          go_wp2_with fail
          go_loop [25, 5] (fun vi vt => ∃ (i : Nat), vi = .int .i64 (i : Int) ∧ i ≤ C ∧ ∃ t : Nat, vt = .int .i64 (t : Int) ∧ t = i * N ∧ t ≤ 1099511627776) (fun vi _ => C - (intOf vi).toNat)
          case atStart => exact ⟨0, rfl, Nat.zero_le _, 0, rfl, by omega, by omega⟩
          case round =>
            obtain ⟨i, rfl, hi, t, rfl, ht, htM⟩ := hrel
            have HT := Lib.hid ht
            clear ht
            by_cases hiC : i < C
            · have hiCi : (i : Int) < (C : Int) := by omega
              obtain ⟨u, hu⟩ : ∃ u, 1099511627776 - t = u := ⟨_, rfl⟩
              have hui : (1099511627776 : Int) - (t : Int) = (u : Int) := by omega
              have huw : IntKind.i64.wrap (u : Int) = (u : Int) := IntWalk.i64_in _ (by omega)
              by_cases hNu : u < N
              · have hNui : (N : Int) > (u : Int) := by omega
                have hres : mostN N = 1099511627776 := by
                  rw [HM.out]
                  have h3 : (i + 1) * N ≤ C * N := Nat.mul_le_mul_right _ (by omega)
                  rw [Nat.add_mul, Nat.one_mul, ← HT.out] at h3
                  have h5 : 1099511627776 * 1 ≤ 1099511627776 * C := Nat.mul_le_mul_left _ hC1
                  rcases Nat.lt_or_ge 1099511627776 N with c | c
                  · rw [Nat.min_eq_right (Nat.le_of_lt c)]
                    omega
                  · rw [Nat.min_eq_left c, Nat.mul_comm]
                    omega
                have HRES := Lib.hid hres
                clear hres
                go_wp2_with fail
                go_ret
                exact ⟨by rw [HRES.out]; rfl, rfl⟩
              · have hNui : ¬ (N : Int) > (u : Int) := by omega
                obtain ⟨t2, ht2⟩ : ∃ t2, t + N = t2 := ⟨_, rfl⟩
                have ht2i : (t : Int) + (N : Int) = (t2 : Int) := by omega
                have ht2w : IntKind.i64.wrap (t2 : Int) = (t2 : Int) := IntWalk.i64_in _ (by omega)
                have HT2 : Hid (t2 = (i + 1) * N) := Lib.hid (by rw [Nat.add_mul, Nat.one_mul, ← HT.out]; exact ht2.symm)
                have ht2M : t2 ≤ 1099511627776 := by omega
                clear hu ht2
                go_wp2_with fail
                go_round
                case rel => exact ⟨i + 1, by go_num, by omega, t2, rfl, HT2.out, ht2M⟩
                case measure => simp [intOf]; omega
            · have hiCi : ¬ (i : Int) < (C : Int) := by omega
              have hres : mostN N = t := by
                have e : i = C := by omega
                have h3 := HT.out
                rw [e] at h3
                have h4 : 1 * N ≤ C * N := Nat.mul_le_mul_right _ hC1
                have h5 : N ≤ 1099511627776 := by omega
                rw [HM.out, Nat.min_eq_left h5, Nat.mul_comm N C, ← h3]
                omega
              have HRES := Lib.hid hres
              clear hres
              go_wp2_with fail
              go_ret
              exact ⟨by rw [HRES.out]; rfl, rfl⟩
end Go.Proofs.Ytfedhppcmmponaa
