/-
  THE WALKS OF LAYER 8's CODE (package freq) and of its document's answers (balerref08): costs by symbols, totals, rows together.
-/
import Derived.Test.YtmlcdfimcabgkaaDoorFreqB
import Derived.Deep.RegionHeld3
namespace Go.Proofs.YtmlcdfimcabgkaaDoor
open Go.RowKit FreqM
set_option linter.unusedVariables false
theorem wgh_nn {l lens : List Int} (h : Nums lens) (k : Nat) : 0 ≤ wgh l lens k := by
  unfold wgh
  apply sumF_nn
  intro x hx
  obtain ⟨j, _, rfl⟩ := List.mem_map.1 hx
  apply Int.mul_nonneg
  · rw [List.getD_eq_getElem?_getD]
    cases he : lens[j]? with
    | none => simp
    | some z => exact (h z (List.mem_of_getElem? he)).1
  · omega
set_option maxRecDepth 100000 in
set_option maxHeartbeats 2000000 in
theorem rCost_any (v u : Value) (zs ls : List Int) (w : World) (hv : IsInts w v zs) (hu : IsInts w u ls) (hz : zs.length ≤ 1000000) (hl : ls.length ≤ 1000000) (hok : CostOk zs ls) :
    Calls Tryd.prog 26 #[v, u] w fun e w' => e = .returned (.int .i64 (cap (costS zs ls))) ∧ w = w' := by
  have HV := Lib.hid hv
  have HU := Lib.hid hu
  obtain ⟨a, cap1, rfl, _⟩ := hv
  obtain ⟨b, cap2, rfl, _⟩ := hu
  have HWA := Lib.hid (wgh_all zs ls hok.1)
  have HNN := Lib.hid (fun k => wgh_nn (l := zs) hok.2 k)
  have HNU := Lib.hid hok.2
  have HCN := Lib.hid (fun i => rcnt_any _ zs i w HV.out hz)
  clear hok
  go_enter Tryd.func26, Tryd.ntmps26
  go_wp2_with fail
  go_loop [5, 10] (fun c i => ∃ k : Nat, k ≤ ls.length ∧ i = .int .i64 k ∧ c = .int .i64 (cap (wgh zs ls k))) (fun _ i => ls.length - (intOf i).toNat)
  case atStart => exact ⟨0, by omega, rfl, rfl⟩
  case round =>
    obtain ⟨k, hk, rfl, rfl⟩ := hrel
    by_cases hlk : k < ls.length
    · have hki : (k : Int) < (ls.length : Int) := by omega
      obtain ⟨b1, o1, k1, he1, c1⟩ := HU.out.cell hlk
      simp only [Value.slice.injEq] at he1
      obtain ⟨rfl, _, rfl⟩ := he1
      have HWS := Lib.hid (wgh_succ zs ls k)
      have hyr := HNU.out _ (getD_mem ls k hlk)
      have hw0 := HNN.out k
      have hcl := List.count_le_length (a := (k : Int)) (l := zs)
      have HC := Lib.hid (HCN.out (k : Int))
      generalize ls.getD k 0 = y at *
      generalize wgh zs ls k = A at *
      generalize zs.count (k : Int) = N at *
      obtain ⟨hy0, hy1⟩ := hyr
      have hNI : (N : Int) ≤ 1000000 := by omega
      go_wp2_with fail
      refine HC.out.mono ?_
      rintro e w' ⟨rfl, rfl⟩
      go_wp2_with fail
      go_loop [5, 18] (fun c i => ∃ j : Nat, j ≤ N ∧ i = .int .i64 j ∧ c = .int .i64 (cap (A + y * (j : Int)))) (fun _ i => N - (intOf i).toNat)
      case atStart => exact ⟨0, by omega, rfl, by simp⟩
      case round =>
        obtain ⟨j, hj, rfl, rfl⟩ := hrel
        have hm0 : 0 ≤ y * (j : Int) := Int.mul_nonneg hy0 (by omega)
        by_cases hjn : j < N
        · have hji : (j : Int) < (N : Int) := by omega
          have HMS : Hid (A + y * ((j + 1 : Nat) : Int) = A + y * (j : Int) + y) := Lib.hid (by
            rw [Int.natCast_add, Int.mul_add]; simp; omega)
          generalize y * (j : Int) = B at *
          have HCA : Hid (cap (A + B + y) = cap (cap (A + B) + y)) := Lib.hid (cap_add _ _ hy0).symm
          have hc0 := cap_nn (A + B) (by omega)
          have hc1 := cap_le (A + B)
          generalize cap (A + B) = c at *
          have hw : IntKind.i64.wrap (c + y) = c + y := IntWalk.i64_in _ (by omega)
          go_wp2_with fail
          refine (rmost_any (c + y) w).mono ?_
          rintro e w' ⟨rfl, rfl⟩
          go_wp2_with fail
          go_round
          case rel => exact ⟨j + 1, by omega, by go_num, by rw [HMS.out, HCA.out]⟩
          case measure => simp [intOf]; omega
        · obtain rfl : j = N := by omega
          rw [← HWS.out]
          go_wp2_with fail
          go_round
          case rel => exact ⟨k + 1, by omega, by go_num, rfl⟩
          case measure => simp [intOf]; omega
    · obtain rfl : k = ls.length := by omega
      rw [HWA.out]
      go_wp2_with fail
      go_ret
      exact ⟨rfl, rfl⟩
set_option maxRecDepth 100000 in
set_option maxHeartbeats 2000000 in
theorem total_any (v : Value) (zs : List Int) (w : World) (hv : IsInts w v zs) (hz : zs.length ≤ 1000000) :
    Calls Tryd.prog 30 #[v] w fun e w' => e = .returned (.int .i64 (tot zs)) ∧ w = w' := by
  have HV := Lib.hid hv
  obtain ⟨a, cap1, rfl, _⟩ := hv
  go_enter Tryd.func30, Tryd.ntmps30
  go_wp2_with fail
  go_loop [3, 8] (fun c i => ∃ k : Nat, k ≤ zs.length ∧ i = .int .i64 k ∧ c = .int .i64 (tot (zs.take k))) (fun _ i => zs.length - (intOf i).toNat)
  case atStart => exact ⟨0, by omega, rfl, rfl⟩
  case round =>
    obtain ⟨k, hk, rfl, rfl⟩ := hrel
    by_cases hlk : k < zs.length
    · have hki : (k : Int) < (zs.length : Int) := by omega
      obtain ⟨b1, o1, k1, he1, c1⟩ := HV.out.cell hlk
      simp only [Value.slice.injEq] at he1
      obtain ⟨rfl, _, rfl⟩ := he1
      have htt := tot_take zs k hlk
      have htr := tot_in (zs.take k)
      generalize zs.getD k 0 = x at *
      generalize tot (zs.take k) = c at *
      obtain ⟨hc0, hc1⟩ := htr
      rcases (show x < 0 ∨ x = 0 ∨ (0 < x ∧ x < 1099511627776) ∨ x = 1099511627776 ∨ 1099511627776 < x by omega) with h | rfl | ⟨h1, h2⟩ | rfl | h
      · have HTA : Hid (tot (zs.take (k + 1)) = cap (c + 0)) := Lib.hid (by rw [htt]; unfold totS; rw [if_neg (by omega), cap_id _ (by omega)]; omega)
        have HTO := Lib.hid (fun W => together_any c 0 W ⟨hc0, hc1⟩ (by omega))
        clear htt
        go_wp2_with fail
        refine (HTO.out w).mono ?_
        rintro e w' ⟨rfl, rfl⟩
        go_wp2_with fail
        go_round
        case rel => exact ⟨k + 1, by omega, by go_num, by rw [HTA.out]; try simp⟩
        case measure => simp [intOf]; omega
      · have HTA : Hid (tot (zs.take (k + 1)) = cap (c + 0)) := Lib.hid (by rw [htt]; unfold totS; rw [if_neg (by omega), cap_id _ (by omega)]; omega)
        have HTO := Lib.hid (fun W => together_any c 0 W ⟨hc0, hc1⟩ (by omega))
        clear htt
        go_wp2_with fail
        refine (HTO.out w).mono ?_
        rintro e w' ⟨rfl, rfl⟩
        go_wp2_with fail
        go_round
        case rel => exact ⟨k + 1, by omega, by go_num, by rw [HTA.out]; try simp⟩
        case measure => simp [intOf]; omega
      · have HTA : Hid (tot (zs.take (k + 1)) = cap (c + x)) := Lib.hid (by rw [htt]; unfold totS; rw [if_pos h1, cap_id x (by omega)])
        have HTO := Lib.hid (fun W => together_any c x W ⟨hc0, hc1⟩ (by omega))
        clear htt
        go_wp2_with fail
        refine (HTO.out w).mono ?_
        rintro e w' ⟨rfl, rfl⟩
        go_wp2_with fail
        go_round
        case rel => exact ⟨k + 1, by omega, by go_num, by rw [HTA.out]; try simp⟩
        case measure => simp [intOf]; omega
      · have HTA : Hid (tot (zs.take (k + 1)) = cap (c + 1099511627776)) := Lib.hid (by rw [htt]; unfold totS; rw [if_pos (by omega), cap_id 1099511627776 (by omega)])
        have HTO := Lib.hid (fun W => together_any c 1099511627776 W ⟨hc0, hc1⟩ (by omega))
        clear htt
        go_wp2_with fail
        refine (HTO.out w).mono ?_
        rintro e w' ⟨rfl, rfl⟩
        go_wp2_with fail
        go_round
        case rel => exact ⟨k + 1, by omega, by go_num, by rw [HTA.out]; try simp⟩
        case measure => simp [intOf]; omega
      · have HTA : Hid (tot (zs.take (k + 1)) = cap (c + 1099511627776)) := Lib.hid (by rw [htt]; unfold totS; rw [if_pos (by omega), cap_hi x h])
        have HTO := Lib.hid (fun W => together_any c 1099511627776 W ⟨hc0, hc1⟩ (by omega))
        clear htt
        go_wp2_with fail
        refine (HTO.out w).mono ?_
        rintro e w' ⟨rfl, rfl⟩
        go_wp2_with fail
        go_round
        case rel => exact ⟨k + 1, by omega, by go_num, by rw [HTA.out]; try simp⟩
        case measure => simp [intOf]; omega
    · obtain rfl : k = zs.length := by omega
      rw [List.take_of_length_le (Nat.le_refl _)]
      go_wp2_with fail
      go_ret
      exact ⟨rfl, rfl⟩
set_option maxRecDepth 100000 in
set_option maxHeartbeats 2000000 in
theorem rTotal_any (v : Value) (zs : List Int) (w : World) (hv : IsInts w v zs) (hz : zs.length ≤ 1000000) :
    Calls Tryd.prog 13 #[v] w fun e w' => e = .returned (.int .i64 (tot zs)) ∧ w = w' := by
  have HV := Lib.hid hv
  obtain ⟨a, cap1, rfl, _⟩ := hv
  go_enter Tryd.func13, Tryd.ntmps13
  go_wp2_with fail
  go_loop [3, 8] (fun c i => ∃ k : Nat, k ≤ zs.length ∧ i = .int .i64 k ∧ c = .int .i64 (tot (zs.take k))) (fun _ i => zs.length - (intOf i).toNat)
  case atStart => exact ⟨0, by omega, rfl, rfl⟩
  case round =>
    obtain ⟨k, hk, rfl, rfl⟩ := hrel
    by_cases hlk : k < zs.length
    · have hki : (k : Int) < (zs.length : Int) := by omega
      obtain ⟨b1, o1, k1, he1, c1⟩ := HV.out.cell hlk
      simp only [Value.slice.injEq] at he1
      obtain ⟨rfl, _, rfl⟩ := he1
      have htt := tot_take zs k hlk
      have htr := tot_in (zs.take k)
      generalize zs.getD k 0 = x at *
      generalize tot (zs.take k) = c at *
      obtain ⟨hc0, hc1⟩ := htr
      by_cases h : 0 < x
      · have HTA : Hid (tot (zs.take (k + 1)) = cap (c + cap x)) := Lib.hid (by rw [htt]; unfold totS; rw [if_pos h])
        have HM1 := Lib.hid (rmost_any x w)
        have hx0 := cap_nn x (by omega)
        have hx1 := cap_le x
        generalize cap x = X at *
        have hw : IntKind.i64.wrap (c + X) = c + X := IntWalk.i64_in _ (by omega)
        clear htt
        go_wp2_with fail
        refine HM1.out.mono ?_
        rintro e w' ⟨rfl, rfl⟩
        go_wp2_with fail
        refine (rmost_any (c + X) w).mono ?_
        rintro e w' ⟨rfl, rfl⟩
        go_wp2_with fail
        go_round
        case rel => exact ⟨k + 1, by omega, by go_num, by rw [HTA.out]; try simp⟩
        case measure => simp [intOf]; omega
      · have HTA : Hid (tot (zs.take (k + 1)) = c) := Lib.hid (by rw [htt]; unfold totS; rw [if_neg h])
        clear htt
        go_wp2_with fail
        go_round
        case rel => exact ⟨k + 1, by omega, by go_num, by rw [HTA.out]; try simp⟩
        case measure => simp [intOf]; omega
    · obtain rfl : k = zs.length := by omega
      rw [List.take_of_length_le (Nat.le_refl _)]
      go_wp2_with fail
      go_ret
      exact ⟨rfl, rfl⟩
end Go.Proofs.YtmlcdfimcabgkaaDoor
