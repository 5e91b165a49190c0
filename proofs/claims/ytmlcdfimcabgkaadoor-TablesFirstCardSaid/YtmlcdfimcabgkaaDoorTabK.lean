/-
  LAYER 12: the document's first lengths (balerref12.First); counts that may be; tables.First.
-/
import Derived.Test.YtmlcdfimcabgkaaDoorTabLawA
import Derived.Test.YtmlcdfimcabgkaaDoorLenF
import Derived.Test.YtmlcdfimcabgkaaDoorFreqC
import Derived.Deep.Cut
namespace Go.Proofs.YtmlcdfimcabgkaaDoor
open Go.RowKit TabM FreqM HufM
set_option linter.unusedVariables false
theorem fRow_row (cs : List Int) (n : Int) (p k : Nat) (hk : k < cs.length) : (fRow cs n cs.length p).take (k + 1) = (fRow cs n cs.length p).take k ++ [if tb cs n k = p then 0 else 15] := by
  rw [List.take_succ_eq_append_getElem (by rw [fRow_len]; exact hk)]
  simp [fRow, hk]
theorem rows_succ (cs : List Int) (n : Int) (p : Nat) : (List.range (p + 1)).map (fRow cs n cs.length) = (List.range p).map (fRow cs n cs.length) ++ [fRow cs n cs.length p] := by
  rw [List.range_succ, List.map_append]
  rfl
set_option maxRecDepth 100000 in
set_option maxHeartbeats 8000000 in
theorem rFirst_any (v : Value) (cs : List Int) (n : Int) (w : World) (hv : IsInts w v cs) (hcs : Nums cs) (h258 : cs.length ≤ 258) (hn1 : 1 ≤ n) (hn2 : n ≤ 1099511627776) :
    Calls Tryd.prog 15 #[v, .int .i64 n] w fun e w' => ∃ u, e = .returned u ∧ IsRR w' u (firstM cs n) ∧ Below w.heap.size w w' := by
  have HV := Lib.hid hv
  have HCS := Lib.hid hcs
  obtain ⟨ad, cap, rfl, _⟩ := hv
  obtain ⟨N, hN⟩ : ∃ N, cs.length = N := ⟨_, rfl⟩
  have HN := Lib.hid hN
  obtain ⟨T, hT⟩ : ∃ T, nTab n = T := ⟨_, rfl⟩
  have HT := Lib.hid hT
  have hTb := nTab_bd n
  rw [hT] at hTb
  obtain ⟨hT2, hT6⟩ := hTb
  have HNU := Lib.hid (rnum12_any n w)
  rw [hT] at HNU
  have HTB : Hid (∀ k, min (sm cs k) (n - 1) * (T : Int) / n = (tb cs n k : Int) ∧ tb cs n k < T) := Lib.hid (fun k => by rw [← hT]; exact tb_is (fun x hx => (hcs x hx).1) hn1 k)
  have HSS : Hid (∀ k, k < N → sm cs (k + 1) = sm cs k + cs.getD k 0) := Lib.hid (fun k hk => sm_succ cs (by omega))
  have HS0 : Hid (∀ k, 0 ≤ sm cs k) := Lib.hid (fun k => sm_nn (fun x hx => (hcs x hx).1) k)
  have HRO : Hid (∀ p k, k < N → (fRow cs n N p).take (k + 1) = (fRow cs n N p).take k ++ [if tb cs n k = p then 0 else 15]) := Lib.hid (fun p k hk => by rw [← hN]; exact fRow_row cs n p k (by omega))
  have HRS : Hid (∀ p, (List.range (p + 1)).map (fRow cs n N) = (List.range p).map (fRow cs n N) ++ [fRow cs n N p]) := Lib.hid (fun p => by rw [← hN]; exact rows_succ cs n p)
  have HFL : Hid (∀ p, (fRow cs n N p).length = N) := Lib.hid (fun p => by rw [fRow_len, hN])
  rw [hN] at h258 HV ⊢
  have HFM : Hid (firstM cs n = (List.range T).map (fRow cs n N)) := Lib.hid (by unfold firstM firstK; rw [hT, hN])
  rw [HFM.out]
  clear hcs hN hT HFM
  go_enter Tryd.func15, Tryd.ntmps15
  go_wp2_with fail
  refine HNU.out.mono ?_
  rintro e w1 ⟨rfl, rfl⟩
  go_wp2_with fail
  go_loopw [6, 15] (fun vo vp wr => ∃ (p bn : Nat) (v : Value), vp = .int .i64 (p : Int) ∧ v = vo ∧ p ≤ T ∧ OwnRR wr w1.heap.size bn v ((List.range p).map (fRow cs n N)) ∧ Below w1.heap.size w1 wr) (fun _ vp _ => T - (intOf vp).toNat)
  case atStart => exact ⟨0, w1.heap.size, _, rfl, rfl, by omega, OwnRR.nil _ _ (Nat.le_refl _), Below.refl _ _⟩
  case round =>
    obtain ⟨p, bn, v, rfl, rfl, hp, hR, hB⟩ := hrel
    have HR := Lib.hid hR
    have HB := Lib.hid hB
    have HBN : Hid (bn ≤ wr.heap.size) := Lib.hid hR.2.1
    have HBB : Hid (w1.heap.size ≤ bn) := Lib.hid hR.1
    clear hR hB
    by_cases hpT : p < T
    · have hpi : (p : Int) < (T : Int) := by omega
      go_wp2_with fail
      obtain ⟨wa, rfl⟩ : ∃ wa : World, wa = wr := ⟨_, rfl⟩
      go_loopw [8, 9, 20] (fun vl vb vk wr => ∃ (k : Nat) (u : Value) (b : Int), vk = .int .i64 (k : Int) ∧ u = vl ∧ k ≤ N ∧ vb = .int .i64 b ∧ min b (n - 1) = min (sm cs k) (n - 1) ∧ 0 ≤ b ∧ b ≤ 2199023255552 ∧ OwnI wr bn u ((fRow cs n N p).take k) ∧ Below bn wa wr) (fun _ _ vk _ => N - (intOf vk).toNat)
      case atStart => exact ⟨0, _, 0, rfl, rfl, by omega, rfl, by rw [sm_zero], by omega, by omega, by rw [List.take_zero]; exact OwnI.nil _ _, Below.refl _ _⟩
      case round =>
        obtain ⟨k, u, b, rfl, rfl, hk, rfl, hmin, hb0, hb1, hU, hBI⟩ := hrel
        have HU := Lib.hid hU
        have HBI := Lib.hid hBI
        clear hU hBI
        by_cases hkN : k < N
        · have hki : (k : Int) < (N : Int) := by omega
          have HV2 := Lib.hid (HV.out.below (HB.out.trans (HBI.out.mono HBB.out)))
          obtain ⟨b1, o1, k1, he1, c1⟩ := HV2.out.cell (show k < cs.length by rw [HN.out]; exact hkN)
          rw [HN.out] at he1
          simp only [Value.slice.injEq] at he1
          obtain ⟨rfl, _, rfl⟩ := he1
          have hxm := HCS.out _ (FreqM.getD_mem cs k (by rw [HN.out]; exact hkN))
          have hss := HSS.out k hkN
          have hs0 := HS0.out k
          obtain ⟨x, hx⟩ : ∃ x, cs.getD k 0 = x := ⟨_, rfl⟩
          rw [hx] at c1 hxm hss
          obtain ⟨hq, htT⟩ := HTB.out k
          have HROW := Lib.hid (HRO.out p k hkN)
          obtain ⟨t, htt⟩ : ∃ t, tb cs n k = t := ⟨_, rfl⟩
          rw [htt] at hq htT HROW
          rw [← hmin] at hq
          have HTK : Hid (((fRow cs n N p).take k).length + 1 ≤ 17592186044416) := Lib.hid (by rw [List.length_take]; omega)
          clear hx htt
          by_cases hcl : n - 1 < b
          · have hme : min b (n - 1) = (n - 1) := by omega
            rw [hme] at hmin hq
            have HMN : Hid (min ((n - 1) + x) (n - 1) = min (sm cs (k + 1)) (n - 1)) := Lib.hid (by rw [hss]; omega)
            have hP0 : 0 ≤ (n - 1) * (T : Int) := Int.mul_nonneg (by omega) (by omega)
            have hP1 : (n - 1) * (T : Int) ≤ 1099511627776 * 6 := Int.mul_le_mul (by omega) (by omega) (by omega) (by omega)
            obtain ⟨P, hP⟩ : ∃ P, (n - 1) * (T : Int) = P := ⟨_, rfl⟩
            rw [hP] at hq hP0 hP1
            have hPt : P.tdiv n = (t : Int) := by rw [Int.tdiv_eq_ediv_of_nonneg hP0, hq]
            have hn0 : ¬ n = 0 := by omega
            clear hme hq hss hmin
            by_cases hep : t = p
            · have HNX : Hid ((fRow cs n N p).take (k + 1) = (fRow cs n N p).take k ++ [0]) := Lib.hid (by rw [HROW.out, if_pos hep])
              have hepb : ((t : Int) == (p : Int)) = true := by rw [beq_iff_eq]; omega
              clear HROW hep
              go_upto_region 16 with (at_builtin; refine push_int wr rfl _ _ rfl bn _ ((fRow cs n N p).take k) 0 HU.out rfl rfl HTK.out (Nat.le_trans HBN.out HBI.out.size) ?_)
              intro u2 w2 hO2 hB2
              have HU2 : Hid (OwnI w2 bn u2 ((fRow cs n N p).take (k + 1))) := Lib.hid (by rw [HNX.out]; exact hO2)
              have HB2 : Hid (Below bn wa w2) := Lib.hid (HBI.out.trans hB2)
              clear hO2 hB2
              go_wp2_with fail
              go_roundw
              case rel => exact ⟨k + 1, u2, (n - 1) + x, by go_num, rfl, by omega, by first | rfl | go_num, HMN.out, by omega, by omega, HU2.out, HB2.out⟩
              case measure => simp [intOf]; omega
            · have HNX : Hid ((fRow cs n N p).take (k + 1) = (fRow cs n N p).take k ++ [15]) := Lib.hid (by rw [HROW.out, if_neg hep])
              have hepb : ((t : Int) == (p : Int)) = false := by rw [beq_eq_false_iff_ne]; omega
              clear HROW hep
              go_upto_region 16 with (at_builtin; refine push_int wr rfl _ _ rfl bn _ ((fRow cs n N p).take k) 15 HU.out rfl rfl HTK.out (Nat.le_trans HBN.out HBI.out.size) ?_)
              intro u2 w2 hO2 hB2
              have HU2 : Hid (OwnI w2 bn u2 ((fRow cs n N p).take (k + 1))) := Lib.hid (by rw [HNX.out]; exact hO2)
              have HB2 : Hid (Below bn wa w2) := Lib.hid (HBI.out.trans hB2)
              clear hO2 hB2
              go_wp2_with fail
              go_roundw
              case rel => exact ⟨k + 1, u2, (n - 1) + x, by go_num, rfl, by omega, by first | rfl | go_num, HMN.out, by omega, by omega, HU2.out, HB2.out⟩
              case measure => simp [intOf]; omega
          · have hme : min b (n - 1) = b := by omega
            rw [hme] at hmin hq
            have HMN : Hid (min (b + x) (n - 1) = min (sm cs (k + 1)) (n - 1)) := Lib.hid (by rw [hss]; omega)
            have hP0 : 0 ≤ b * (T : Int) := Int.mul_nonneg (by omega) (by omega)
            have hP1 : b * (T : Int) ≤ 1099511627776 * 6 := Int.mul_le_mul (by omega) (by omega) (by omega) (by omega)
            obtain ⟨P, hP⟩ : ∃ P, b * (T : Int) = P := ⟨_, rfl⟩
            rw [hP] at hq hP0 hP1
            have hPt : P.tdiv n = (t : Int) := by rw [Int.tdiv_eq_ediv_of_nonneg hP0, hq]
            have hn0 : ¬ n = 0 := by omega
            clear hme hq hss hmin
            by_cases hep : t = p
            · have HNX : Hid ((fRow cs n N p).take (k + 1) = (fRow cs n N p).take k ++ [0]) := Lib.hid (by rw [HROW.out, if_pos hep])
              have hepb : ((t : Int) == (p : Int)) = true := by rw [beq_iff_eq]; omega
              clear HROW hep
              go_upto_region 16 with (at_builtin; refine push_int wr rfl _ _ rfl bn _ ((fRow cs n N p).take k) 0 HU.out rfl rfl HTK.out (Nat.le_trans HBN.out HBI.out.size) ?_)
              intro u2 w2 hO2 hB2
              have HU2 : Hid (OwnI w2 bn u2 ((fRow cs n N p).take (k + 1))) := Lib.hid (by rw [HNX.out]; exact hO2)
              have HB2 : Hid (Below bn wa w2) := Lib.hid (HBI.out.trans hB2)
              clear hO2 hB2
              go_wp2_with fail
              go_roundw
              case rel => exact ⟨k + 1, u2, b + x, by go_num, rfl, by omega, by first | rfl | go_num, HMN.out, by omega, by omega, HU2.out, HB2.out⟩
              case measure => simp [intOf]; omega
            · have HNX : Hid ((fRow cs n N p).take (k + 1) = (fRow cs n N p).take k ++ [15]) := Lib.hid (by rw [HROW.out, if_neg hep])
              have hepb : ((t : Int) == (p : Int)) = false := by rw [beq_eq_false_iff_ne]; omega
              clear HROW hep
              go_upto_region 16 with (at_builtin; refine push_int wr rfl _ _ rfl bn _ ((fRow cs n N p).take k) 15 HU.out rfl rfl HTK.out (Nat.le_trans HBN.out HBI.out.size) ?_)
              intro u2 w2 hO2 hB2
              have HU2 : Hid (OwnI w2 bn u2 ((fRow cs n N p).take (k + 1))) := Lib.hid (by rw [HNX.out]; exact hO2)
              have HB2 : Hid (Below bn wa w2) := Lib.hid (HBI.out.trans hB2)
              clear hO2 hB2
              go_wp2_with fail
              go_roundw
              case rel => exact ⟨k + 1, u2, b + x, by go_num, rfl, by omega, by first | rfl | go_num, HMN.out, by omega, by omega, HU2.out, HB2.out⟩
              case measure => simp [intOf]; omega
        · obtain rfl : k = N := by omega
          have hki : ¬ (k : Int) < (k : Int) := by omega
          have HU2 : Hid (OwnI wr bn u (fRow cs n k p)) := Lib.hid (by have h := HU.out; rw [List.take_of_length_le (by rw [HFL.out]; exact Nat.le_refl _)] at h; exact h)
          have HR2 := Lib.hid (HR.out.below HBI.out)
          have HB2 : Hid (Below w1.heap.size w1 wr) := Lib.hid (HB.out.trans (HBI.out.mono HBB.out))
          have hgl : Hid (((List.range p).map (fRow cs n k)).length + 1 ≤ 1099511627776) := Lib.hid (by rw [List.length_map, List.length_range]; omega)
          clear HU HBI hmin
          obtain ⟨au, cu, rfl⟩ := HU2.out.slice
          rw [HFL.out] at HU2 ⊢
          go_wp2_with (at_builtin; go_loud (refine push_row wr rfl _ _ rfl w1.heap.size bn _ ((List.range p).map (fRow cs n k)) _ (fRow cs n k p) HR2.out HU2.out rfl rfl hgl.out ?_))
          intro v3 w3 hR3 hB3
          rw [← HRS.out] at hR3
          have HR3 := Lib.hid hR3
          have HB3 := Lib.hid (HB2.out.trans hB3)
          clear hR3 hB3
          go_wp2_with fail
          go_roundw
          case rel => exact ⟨p + 1, w3.heap.size, v3, by go_num, rfl, by omega, HR3.out, HB3.out⟩
          case measure => simp [intOf]; omega
    · obtain rfl : p = T := by omega
      have hpi : ¬ (p : Int) < (p : Int) := by omega
      have HRR := Lib.hid HR.out.rr
      go_wp2_with fail
      go_ret
      exact ⟨_, rfl, HRR.out, HB.out⟩
end Go.Proofs.YtmlcdfimcabgkaaDoor
