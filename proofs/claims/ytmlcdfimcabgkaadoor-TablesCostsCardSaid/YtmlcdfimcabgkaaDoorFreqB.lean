/-
  THE WALKS OF LAYER 8's CODE (package freq) and of its document's answers (balerref08): counts, costs, totals.
-/
import Derived.Test.YtmlcdfimcabgkaaDoorFreq
namespace Go.Proofs.YtmlcdfimcabgkaaDoor
open Go.RowKit FreqM
set_option linter.unusedVariables false
set_option maxHeartbeats 400000 in
theorem together_any (a b : Int) (w : World) (ha : 0 ≤ a ∧ a ≤ 1099511627776) (hb : 0 ≤ b ∧ b ≤ 1099511627776) : Calls Tryd.prog 45 #[.int .i64 a, .int .i64 b] w fun e w' => e = .returned (.int .i64 (cap (a + b))) ∧ w = w' := by
  obtain ⟨a0, a1⟩ := ha
  obtain ⟨b0, b1⟩ := hb
  have hw : IntKind.i64.wrap (a + b) = a + b := IntWalk.i64_in _ (by omega)
  by_cases h : 1099511627776 < a + b
  · rw [cap_hi _ h]
    go_enter Tryd.func45, Tryd.ntmps45
    go_wp2_with fail
    go_ret
    exact ⟨rfl, rfl⟩
  · rw [cap_id _ (by omega)]
    by_cases h2 : a + b = 1099511627776
    · rw [h2] at hw ⊢
      go_enter Tryd.func45, Tryd.ntmps45
      go_wp2_with fail
      go_ret
      exact ⟨rfl, rfl⟩
    · have h3 : a + b < 1099511627776 := by omega
      go_enter Tryd.func45, Tryd.ntmps45
      go_wp2_with fail
      go_ret
      exact ⟨rfl, rfl⟩
set_option maxHeartbeats 400000 in
theorem rmost_any (n : Int) (w : World) : Calls Tryd.prog 32 #[.int .i64 n] w fun e w' => e = .returned (.int .i64 (cap n)) ∧ w = w' := by
  by_cases h : 1099511627776 < n
  · rw [cap_hi _ h]
    go_enter Tryd.func32, Tryd.ntmps32
    go_wp2_with fail
    go_ret
    exact ⟨rfl, rfl⟩
  · rw [cap_id _ (by omega)]
    go_enter Tryd.func32, Tryd.ntmps32
    go_wp2_with fail
    go_ret
    exact ⟨rfl, rfl⟩
set_option maxRecDepth 100000 in
set_option maxHeartbeats 1000000 in
theorem rcnt_any (v : Value) (zs : List Int) (x : Int) (w : World) (hv : IsInts w v zs) (hz : zs.length ≤ 1000000) :
    Calls Tryd.prog 43 #[v, .int .i64 x] w fun e w' => e = .returned (.int .i64 (zs.count x : Int)) ∧ w = w' := by
  have HV := Lib.hid hv
  obtain ⟨a, cap, rfl, _⟩ := hv
  go_enter Tryd.func43, Tryd.ntmps43
  go_wp2_with fail
  go_loop [5, 10] (fun c i => ∃ k : Nat, k ≤ zs.length ∧ i = .int .i64 k ∧ c = .int .i64 ((zs.take k).count x : Int)) (fun _ i => zs.length - (intOf i).toNat)
  case atStart => exact ⟨0, by omega, rfl, rfl⟩
  case round =>
    obtain ⟨k, hk, rfl, rfl⟩ := hrel
    by_cases hlk : k < zs.length
    · have hki : (k : Int) < (zs.length : Int) := by omega
      obtain ⟨b1, o1, k1, he1, c1⟩ := HV.out.cell hlk
      simp only [Value.slice.injEq] at he1
      obtain ⟨rfl, _, rfl⟩ := he1
      have HCT := Lib.hid (count_take zs x k hlk)
      have hcl := List.count_le_length (a := x) (l := zs.take k)
      rw [List.length_take] at hcl
      obtain ⟨y, hy⟩ : ∃ y, zs.getD k 0 = y := ⟨_, rfl⟩
      rw [hy] at c1 HCT
      clear hy
      generalize (zs.take k).count x = c at *
      by_cases e : x = y
      · have hb : (x == y) = true := by rw [e]; exact beq_self_eq_true _
        have HC2 : Hid (((zs.take (k + 1)).count x : Int) = (c : Int) + 1) := Lib.hid (by rw [HCT.out, if_pos e]; simp)
        have hw : IntKind.i64.wrap ((c : Int) + 1) = (c : Int) + 1 := IntWalk.i64_in _ (by omega)
        clear e
        go_wp2_with fail
        go_round
        case rel => exact ⟨k + 1, by omega, by go_num, by rw [HC2.out]⟩
        case measure => simp [intOf]; omega
      · have hb : (x == y) = false := by rw [beq_eq_false_iff_ne]; exact e
        have HC2 : Hid (((zs.take (k + 1)).count x : Int) = (c : Int)) := Lib.hid (by rw [HCT.out, if_neg e]; simp)
        clear e
        go_wp2_with fail
        go_round
        case rel => exact ⟨k + 1, by omega, by go_num, by rw [HC2.out]⟩
        case measure => simp [intOf]; omega
    · obtain rfl : k = zs.length := by omega
      rw [List.take_of_length_le (Nat.le_refl _)]
      go_wp2_with fail
      go_ret
      exact ⟨rfl, rfl⟩
set_option maxRecDepth 100000 in
set_option maxHeartbeats 1000000 in
theorem rCounts_any (v : Value) (zs : List Int) (N : Nat) (w : World) (hv : IsInts w v zs) (hz : zs.length ≤ 1000000) (hN : N ≤ 1000) :
    Calls Tryd.prog 38 #[v, .int .i64 (N : Int)] w fun e w' => ∃ u, e = .returned u ∧ IsInts w' u (counts zs N) ∧ Below w.heap.size w w' := by
  have HV := Lib.hid hv
  obtain ⟨a, cap, rfl, _⟩ := hv
  have HCN := Lib.hid (fun i W (h : IsInts W (.slice a zs.length cap) zs) => rcnt_any _ zs i W h hz)
  have hNI : (N : Int) ≤ 1000 := by omega
  go_enter Tryd.func38, Tryd.ntmps38
  go_wp2_with fail
  go_loopw [5, 8] (fun o i wr => ∃ (k : Nat) (u : Value), k ≤ N ∧ i = .int .i64 k ∧ u = o ∧ OwnI wr w.heap.size u (counts zs k) ∧ Below w.heap.size w wr) (fun _ i _ => N - (intOf i).toNat)
  case atStart => exact ⟨0, _, by omega, rfl, rfl, OwnI.nil _ _, Below.refl _ _⟩
  case round =>
    obtain ⟨k, u, hk, rfl, rfl, hO, hB⟩ := hrel
    have HO := Lib.hid hO
    have HB := Lib.hid hB
    have hbw := hB.size
    clear hO hB
    by_cases hlk : k < N
    · have hki : (k : Int) < (N : Int) := by omega
      have HSU := Lib.hid (counts_succ zs k)
      have hcl := List.count_le_length (a := (k : Int)) (l := zs)
      have hln : (counts zs k).length + 1 ≤ 17592186044416 := by rw [counts_len]; omega
      have HC := Lib.hid (HCN.out (k : Int) wr (HV.out.below HB.out))
      generalize zs.count (k : Int) = c at *
      go_wp2_with fail
      refine HC.out.mono ?_
      rintro e w' ⟨rfl, rfl⟩
      go_wp2_with (at_builtin; refine push_int wr rfl _ _ rfl w.heap.size _ (counts zs k) (c : Int) HO.out rfl rfl hln hbw ?_)
      intro v' w2 hO2 hB2
      rw [← HSU.out] at hO2
      have HO2 := Lib.hid hO2
      have HB2 := Lib.hid (HB.out.trans hB2)
      clear hO2 hB2
      go_wp2_with fail
      go_roundw
      case rel => exact ⟨k + 1, _, by omega, by go_num, rfl, HO2.out, HB2.out⟩
      case measure => simp [intOf]; omega
    · obtain rfl : k = N := by omega
      go_wp2_with fail
      go_ret
      exact ⟨_, rfl, HO.out.ints, HB.out⟩
/-- What Cost tells. -/
def CostOk (l lens : List Int) : Prop := Syms l (lens.length : Int) ∧ Nums lens
def CostP (l lens : List Int) (n : Int) (err : Nat) : Prop := (¬ CostOk l lens ∧ n = 0 ∧ err = 1) ∨ (CostOk l lens ∧ n = cap (costS l lens) ∧ err = 0)
theorem costS_nn {l lens : List Int} (h : Nums lens) : 0 ≤ costS l lens := by
  unfold costS
  apply sumF_nn
  intro x hx
  obtain ⟨y, _, rfl⟩ := List.mem_map.1 hx
  rw [List.getD_eq_getElem?_getD]
  cases he : lens[y.toNat]? with
  | none => simp
  | some z => exact (h z (List.mem_of_getElem? he)).1
set_option maxRecDepth 100000 in
set_option maxHeartbeats 2000000 in
theorem cost_any (v u : Value) (zs ls : List Int) (w : World) (hv : IsInts w v zs) (hu : IsInts w u ls) (hz : zs.length ≤ 1000000) (hl : ls.length ≤ 1000000) :
    Calls Tryd.prog 42 #[v, u] w fun e w' => ∃ (n : Int) (err : Nat), e = .returned (.tuple #[.int .i64 n, .int .i64 (err : Int)]) ∧ w = w' ∧ CostP zs ls n err := by
  have HV := Lib.hid hv
  have HU := Lib.hid hu
  obtain ⟨a, cap1, rfl, _⟩ := hv
  obtain ⟨b, cap2, rfl, _⟩ := hu
  by_cases hs : Syms zs (ls.length : Int)
  · have HA := Lib.hid (areSymbols_any _ zs (ls.length : Int) true w HV.out (by omega) ⟨fun _ => hs, fun _ => rfl⟩)
    by_cases hn : Nums ls
    · have HN := Lib.hid (areNumbers_any _ ls true w HU.out (by omega) ⟨fun _ => hn, fun _ => rfl⟩)
      have HS := Lib.hid hs
      have HNU := Lib.hid hn
      have HCN : Hid (∀ l, 0 ≤ costS l ls) := Lib.hid (fun l => costS_nn hn)
      clear hs hn
      go_enter Tryd.func42, Tryd.ntmps42
      go_wp2_with fail
      refine HA.out.mono ?_
      rintro e w' ⟨rfl, rfl⟩
      go_wp2_with fail
      refine HN.out.mono ?_
      rintro e w' ⟨rfl, rfl⟩
      clear HA HN
      go_wp2_with fail
      go_loop [6, 21] (fun c i => ∃ k : Nat, k ≤ zs.length ∧ i = .int .i64 k ∧ c = .int .i64 (cap (costS (zs.take k) ls))) (fun _ i => zs.length - (intOf i).toNat)
      case atStart => exact ⟨0, by omega, rfl, rfl⟩
      case round =>
        obtain ⟨k, hk, rfl, rfl⟩ := hrel
        by_cases hlk : k < zs.length
        · have hki : (k : Int) < (zs.length : Int) := by omega
          obtain ⟨b1, o1, k1, he1, c1⟩ := HV.out.cell hlk
          simp only [Value.slice.injEq] at he1
          obtain ⟨rfl, _, rfl⟩ := he1
          obtain ⟨x, hx⟩ : ∃ x, zs.getD k 0 = x := ⟨_, rfl⟩
          have hxr := HS.out x (by rw [← hx]; exact getD_mem zs k hlk)
          obtain ⟨y, rfl⟩ : ∃ y : Nat, x = (y : Int) := ⟨x.toNat, by omega⟩
          have hyl : y < ls.length := by omega
          obtain ⟨b2, o2, k2, he2, c2⟩ := HU.out.cell hyl
          simp only [Value.slice.injEq] at he2
          obtain ⟨rfl, _, rfl⟩ := he2
          have hct := costS_take zs ls k hlk
          rw [hx] at c1 hct
          simp only [Int.toNat_natCast] at hct
          have hlr := HNU.out _ (getD_mem ls y hyl)
          have hnn := HCN.out (zs.take k)
          generalize ls.getD y 0 = z at *
          have HCA : Hid (cap (costS (zs.take (k + 1)) ls) = cap (cap (costS (zs.take k) ls) + z)) := Lib.hid (by rw [hct, cap_add _ _ hlr.1])
          have hc0 := cap_nn _ hnn
          have hc1 := cap_le (costS (zs.take k) ls)
          generalize cap (costS (zs.take k) ls) = c at *
          have HTO := Lib.hid (fun W => together_any c z W ⟨hc0, hc1⟩ hlr)
          have hy0 : (0 : Int) ≤ (y : Int) := by omega
          have hyI : (y : Int) < (ls.length : Int) := hxr.2
          clear hx hct hlr hnn hxr
          go_wp2_with fail
          refine (HTO.out w).mono ?_
          rintro e w' ⟨rfl, rfl⟩
          go_wp2_with fail
          go_round
          case rel => exact ⟨k + 1, by omega, by go_num, by rw [HCA.out]⟩
          case measure => simp [intOf]; omega
        · obtain rfl : k = zs.length := by omega
          rw [List.take_of_length_le (Nat.le_refl _)]
          go_wp2_with fail
          go_ret2
          exact ⟨_, 0, rfl, rfl, Or.inr ⟨⟨HS.out, HNU.out⟩, rfl, rfl⟩⟩
    · have HN := Lib.hid (areNumbers_any _ ls false w HU.out (by omega) ⟨fun e => (by cases e), fun e => absurd e hn⟩)
      have HNO : Hid (¬ CostOk zs ls) := Lib.hid (fun h => hn h.2)
      clear hs hn
      go_enter Tryd.func42, Tryd.ntmps42
      go_wp2_with fail
      refine HA.out.mono ?_
      rintro e w' ⟨rfl, rfl⟩
      go_wp2_with fail
      refine HN.out.mono ?_
      rintro e w' ⟨rfl, rfl⟩
      go_wp2_with fail
      go_ret2
      exact ⟨0, 1, rfl, rfl, Or.inl ⟨HNO.out, rfl, rfl⟩⟩
  · have HA := Lib.hid (areSymbols_any _ zs (ls.length : Int) false w HV.out (by omega) ⟨fun e => (by cases e), fun e => absurd e hs⟩)
    have HNO : Hid (¬ CostOk zs ls) := Lib.hid (fun h => hs h.1)
    clear hs
    go_enter Tryd.func42, Tryd.ntmps42
    go_wp2_with fail
    refine HA.out.mono ?_
    rintro e w' ⟨rfl, rfl⟩
    go_wp2_with fail
    go_ret2
    exact ⟨0, 1, rfl, rfl, Or.inl ⟨HNO.out, rfl, rfl⟩⟩
end Go.Proofs.YtmlcdfimcabgkaaDoor
