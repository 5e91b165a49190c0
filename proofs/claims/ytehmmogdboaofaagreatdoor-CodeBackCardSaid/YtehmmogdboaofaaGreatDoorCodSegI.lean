/-
  MERGED by seg.py out of: TabN TabH TabLawA TabK TabI TabJ LenRef TreeMath LenRefB LenRefC TabO CodRefB CodLawD TabTab.
-/
import Derived.Test.YtehmmogdboaofaaGreatDoorCodSegH
import Derived.Deep.Cut
import Derived.Shelf.Abstract
import Derived.StillTailTactics
import Derived.Test.YtehmmogdboaofaaGreatDoorCards
import Derived.Test.YtehmmogdboaofaaGreatDoorTie
import Derived.LaidMore
import Derived.Stop.Joined
namespace Go.Proofs.YtehmmogdboaofaaGreatDoor
open Go.RowKit FreqM
set_option linter.unusedVariables false
set_option maxRecDepth 100000 in
set_option maxHeartbeats 4000000 in
theorem rGroups_loc (v0 : Value) (zs : List Int) (w : World) (hv : IsInts w v0 zs) (hz : zs.length ≤ 1000) :
    Calls Tryz.prog 74 #[v0] w fun e w' => ∃ r bn, e = .returned r ∧ OwnRI w' w.heap.size bn r (grps zs (ng zs.length)) ∧ Below w.heap.size w w' := by
  have HV := Lib.hid hv
  obtain ⟨a, cap, rfl, _⟩ := hv
  go_enter Tryz.func74, Tryz.ntmps74
  go_wp2_with fail
  go_loopw [3, 4, 9] (fun o n i wr => ∃ (k q bn : Nat) (now : List Int) (v u : Value), k ≤ zs.length ∧ i = .int .i64 k ∧ v = o ∧ u = n ∧ GrS zs k q now ∧ OwnRI wr w.heap.size bn v (grps zs q) ∧ OwnI wr bn u now ∧ Below w.heap.size w wr) (fun _ _ i _ => zs.length - (intOf i).toNat)
  case atStart =>
    refine ⟨0, 0, w.heap.size, [], .slice none 0 0, .slice none 0 0, by omega, rfl, rfl, rfl, ?_, OwnRI.nil _ _ (Nat.le_refl _), OwnI.nil _ _, Below.refl _ _⟩
    by_cases h : zs.length = 0
    · exact Or.inr ⟨h.symm, by rw [h]; rfl⟩
    · exact Or.inl ⟨by omega, by omega, by omega, by simp⟩
  case round =>
    obtain ⟨k, q, bn, now, v, u, hk, rfl, rfl, rfl, hG, hR, hU, hB⟩ := hrel
    have HR := Lib.hid hR
    have HU := Lib.hid hU
    have HB := Lib.hid hB
    have hbn := hR.2.1
    have hBbn := hR.1
    clear hR hU hB
    by_cases hlk : k < zs.length
    · have hki : (k : Int) < (zs.length : Int) := by omega
      obtain ⟨_, hq1, hq2, rfl⟩ := hG.resolve_right (fun h => by omega)
      have HV2 := Lib.hid (HV.out.below HB.out)
      obtain ⟨b1, o1, k1, he1, c1⟩ := HV2.out.cell hlk
      simp only [Value.slice.injEq] at he1
      obtain ⟨rfl, _, rfl⟩ := he1
      have HNX := Lib.hid (now_next zs k q hlk hq1)
      have HFU := Lib.hid (now_full zs k q hlk)
      have HGO : Hid (¬ k + 1 = 50 * q + 50 → ¬ k + 1 = zs.length → GrS zs (k + 1) q ((zs.take (k + 1)).drop (50 * q))) := Lib.hid (fun h1 h2 => Or.inl ⟨by omega, by omega, by omega, rfl⟩)
      have hnl : ((zs.take k).drop (50 * q)).length = k - 50 * q := by rw [List.length_drop, List.length_take]; omega
      have hnl2 : ((zs.take (k + 1)).drop (50 * q)).length = k + 1 - 50 * q := by rw [List.length_drop, List.length_take]; omega
      have hln : ((zs.take k).drop (50 * q)).length + 1 ≤ 17592186044416 := by omega
      have hna : ((zs.take (k + 1)).drop (50 * q)).length + 50 * q ≤ k + 1 := by omega
      have hnb : k + 1 ≤ ((zs.take (k + 1)).drop (50 * q)).length + 50 * q := by omega
      clear hnl hnl2 hG
      generalize zs.getD k 0 = x at *
      generalize (zs.take k).drop (50 * q) = now at *
      go_upto_region 7 with (at_builtin; go_loud (refine push_int wr rfl _ _ rfl bn _ now x HU.out rfl rfl hln hbn ?_))
      intro u2 w2 hO2 hB2
      rw [HNX.out] at hO2
      have HU2 := Lib.hid hO2
      have HR2 := Lib.hid (HR.out.below hB2)
      have HB2 := Lib.hid (HB.out.trans (hB2.mono hBbn))
      have hbn2 : bn ≤ w2.heap.size := Nat.le_trans hbn hB2.size
      have hBw2 : w.heap.size ≤ w2.heap.size := HB2.out.size
      clear hO2 hB2 HR HU HB HNX hln
      generalize (zs.take (k + 1)).drop (50 * q) = now2 at *
      obtain ⟨au, cu, rfl⟩ := HU2.out.slice
      generalize now2.length = N at *
      have hgl : (grps zs q).length + 1 ≤ 1099511627776 := by rw [grps_len]; omega
      have hwk : IntKind.i64.wrap ((k : Int) + 1) = (k : Int) + 1 := IntWalk.i64_in _ (by omega)
      by_cases hA : k + 1 = 50 * q + 50
      · have hN50 : ((N : Int) == 50) = true := by rw [beq_iff_eq]; omega
        have hN50' : N = 50 := by omega
        have e1 := HFU.out (Or.inl hA) hq2
        subst e1
        have HGS : Hid (GrS zs (k + 1) (q + 1) []) := Lib.hid (by
          by_cases h : k + 1 < zs.length
          · exact Or.inl ⟨h, by omega, by omega, by rw [List.drop_eq_nil_of_le (by rw [List.length_take]; omega)]⟩
          · exact Or.inr ⟨by omega, by unfold ng; omega⟩)
        subst hN50'
        go_wp2_with (at_builtin; go_loud (refine push_rowI w2 rfl _ _ rfl w.heap.size bn _ (grps zs q) _ (grp zs q) HR2.out HU2.out.ints (fun k hk => HU2.out.lt k hk) rfl rfl hgl ?_))
        intro v3 w3 hR3 hB3 _ _
        rw [← grps_succ] at hR3
        have HR3 := Lib.hid hR3
        have HB3 := Lib.hid (HB2.out.trans hB3)
        clear hR3 hB3
        go_wp2_with fail
        go_roundw
        case rel => exact ⟨k + 1, q + 1, w3.heap.size, [], v3, _, by omega, by go_num, rfl, rfl, HGS.out, HR3.out, OwnI.nil _ _, HB3.out⟩
        case measure => simp [intOf]; omega
      · have hN50 : ((N : Int) == 50) = false := by rw [beq_eq_false_iff_ne]; omega
        by_cases hC : k + 1 = zs.length
        · have hCI : ((k : Int) + 1 == (zs.length : Int)) = true := by rw [beq_iff_eq]; omega
          have e1 := HFU.out (Or.inr hC) hq2
          subst e1
          have HGS : Hid (GrS zs (k + 1) (q + 1) []) := Lib.hid (Or.inr ⟨hC, by unfold ng; omega⟩)
          go_wp2_with (at_builtin; go_loud (refine push_rowI w2 rfl _ _ rfl w.heap.size bn _ (grps zs q) _ (grp zs q) HR2.out HU2.out.ints (fun k hk => HU2.out.lt k hk) rfl rfl hgl ?_))
          intro v3 w3 hR3 hB3 _ _
          rw [← grps_succ] at hR3
          have HR3 := Lib.hid hR3
          have HB3 := Lib.hid (HB2.out.trans hB3)
          clear hR3 hB3
          go_wp2_with fail
          go_roundw
          case rel => exact ⟨k + 1, q + 1, w3.heap.size, [], v3, _, by omega, by go_num, rfl, rfl, HGS.out, HR3.out, OwnI.nil _ _, HB3.out⟩
          case measure => simp [intOf]; omega
        · have hCI : ((k : Int) + 1 == (zs.length : Int)) = false := by rw [beq_eq_false_iff_ne]; omega
          have HGS := Lib.hid (HGO.out hA hC)
          clear HGO HFU
          go_wp2_with fail
          go_roundw
          case rel => exact ⟨k + 1, q, bn, now2, v, _, by omega, by go_num, rfl, rfl, HGS.out, HR2.out, HU2.out, HB2.out⟩
          case measure => simp [intOf]; omega
    · obtain rfl : k = zs.length := by omega
      have hq : q = ng zs.length := by
        rcases hG with ⟨h, _⟩ | ⟨_, h⟩
        · omega
        · exact h
      subst hq
      go_wp2_with fail
      go_ret
      exact ⟨_, _, rfl, HR.out, HB.out⟩
end Go.Proofs.YtehmmogdboaofaaGreatDoor
namespace Go.Proofs.YtehmmogdboaofaaGreatDoor
open Go.RowKit TabM FreqM HufM
set_option linter.unusedVariables false
theorem dep111 : DepP [1, 1, 1] [2, 2, 1] := by
  refine ⟨fun n => if n = 0 then 2 else if n = 1 then 2 else if n = 2 then 1 else if n = 3 then 1 else 0, ?_, by decide⟩
  refine Run.step 3 _ (1, 0) (1, 1) [(1, 2)] _ (by decide) (Or.inr ⟨rfl, by decide⟩) (fun t ht => ?_) ?_ rfl rfl
  · rw [List.mem_singleton] at ht; subst ht; exact Or.inr ⟨rfl, by decide⟩
  · refine Run.step 4 _ (1, 2) (2, 3) [] _ (by decide) (Or.inl (by decide)) (fun t ht => (by cases ht)) ?_ rfl rfl
    exact Run.one _ _ _ rfl
theorem lens111 (zs : List Int) (h : ups zs = [1, 1, 1]) : lensF zs = [2, 2, 1] := lensF_of (n := 0) (by omega) (by rw [h]; exact .now _ _ dep111 (by intro z hz; simp at hz; omega))
theorem first012 : firstM (counts [0, 1, 2] 3) 3 = [[0, 0, 15], [15, 15, 0]] := by decide
theorem round012 (rows : List (List Int)) (h : rows.length = 2) : roundM [0, 1, 2] 3 rows = [[2, 2, 1], [2, 2, 1]] := by
  have h1 : ∀ p, lensF (counts (took [0, 1, 2] rows p (ng ([0, 1, 2] : List Int).length)) 3) = [2, 2, 1] := fun p => by
    have e : ng ([0, 1, 2] : List Int).length = 1 := by decide
    rw [e]
    have e2 : took [0, 1, 2] rows p 1 = if pickM (grp [0, 1, 2] 0) rows = p then [0, 1, 2] else [] := by
      show [] ++ (if _ then grp [0, 1, 2] 0 else []) = _
      rw [List.nil_append]
      rfl
    rw [e2]
    split
    · exact lens111 _ (by decide)
    · exact lens111 _ (by decide)
  unfold roundM
  rw [h]
  show [lensF _, lensF _] = _
  rw [h1 0, h1 1]
theorem rnd012 (i : Nat) : rnd [0, 1, 2] 3 (i + 1) = [[2, 2, 1], [2, 2, 1]] := by
  rw [rnd]
  exact round012 _ (by rw [rnd_len]; decide)
theorem picks012 : picksM [0, 1, 2] (rnd [0, 1, 2] 3 3) (ng ([0, 1, 2] : List Int).length) = [0] := by
  rw [rnd012 2]
  decide
theorem costs012 {n err : Int} (h : CostsP [0, 1, 2] [[2, 2, 1], [2, 2, 1]] [0] n err) : n = 5 ∧ err = 0 := by
  rcases h with ⟨_, h1, h2⟩ | ⟨h1, _⟩
  · exact ⟨h1.trans (by decide), h2⟩
  · exact absurd ⟨by decide, fun i hi => by
      obtain rfl : i = 0 := by simp at hi; exact hi
      refine ⟨by decide, by decide, ?_, ?_⟩
      · intro x hx
        have : x = 0 ∨ x = 1 ∨ x = 2 := by simpa [grp] using hx
        show 0 ≤ x ∧ x < 3
        omega
      · intro x hx
        have : x = 2 ∨ x = 1 := by simpa [rw_] using hx
        omega⟩ h1
theorem syms012 : Syms [0, 1, 2] ((3 : Nat) : Int) := by
  intro x hx
  have : x = 0 ∨ x = 1 ∨ x = 2 := by simpa using hx
  omega
end Go.Proofs.YtehmmogdboaofaaGreatDoor
namespace Go.Proofs.YtehmmogdboaofaaGreatDoor
open Go.RowKit TabM FreqM HufM
set_option linter.unusedVariables false
theorem rnum12_any (n : Int) (w : World) : Calls Tryz.prog 100 #[.int .i64 n] w fun e w' => e = .returned (.int .i64 (nTab n : Int)) ∧ w' = w := by
  by_cases h1 : n < 200
  · have e : nTab n = 2 := by unfold nTab; rw [if_pos h1]
    rw [e]
    clear e
    go_enter Tryz.func100, Tryz.ntmps100
    go_wp2_with fail
    go_ret
    exact ⟨rfl, rfl⟩
  · by_cases h2 : n < 600
    · have e : nTab n = 3 := by unfold nTab; rw [if_neg h1, if_pos h2]
      rw [e]
      clear e
      go_enter Tryz.func100, Tryz.ntmps100
      go_wp2_with fail
      go_ret
      exact ⟨rfl, rfl⟩
    · by_cases h3 : n < 1200
      · have e : nTab n = 4 := by unfold nTab; rw [if_neg h1, if_neg h2, if_pos h3]
        rw [e]
        clear e
        go_enter Tryz.func100, Tryz.ntmps100
        go_wp2_with fail
        go_ret
        exact ⟨rfl, rfl⟩
      · by_cases h4 : n < 2400
        · have e : nTab n = 5 := by unfold nTab; rw [if_neg h1, if_neg h2, if_neg h3, if_pos h4]
          rw [e]
          clear e
          go_enter Tryz.func100, Tryz.ntmps100
          go_wp2_with fail
          go_ret
          exact ⟨rfl, rfl⟩
        · have e : nTab n = 6 := by unfold nTab; rw [if_neg h1, if_neg h2, if_neg h3, if_neg h4]
          rw [e]
          clear e
          go_enter Tryz.func100, Tryz.ntmps100
          go_wp2_with fail
          go_ret
          exact ⟨rfl, rfl⟩
end Go.Proofs.YtehmmogdboaofaaGreatDoor
namespace Go.Proofs.YtehmmogdboaofaaGreatDoor
open Go.RowKit TabM FreqM HufM
set_option linter.unusedVariables false
theorem fRow_row (cs : List Int) (n : Int) (p k : Nat) (hk : k < cs.length) : (fRow cs n cs.length p).take (k + 1) = (fRow cs n cs.length p).take k ++ [if tb cs n k = p then 0 else 15] := by
  rw [List.take_succ_eq_append_getElem (by rw [fRow_len]; exact hk)]
  simp [fRow, hk]
theorem rows_succ (cs : List Int) (n : Int) (p : Nat) : (List.range (p + 1)).map (fRow cs n cs.length) = (List.range p).map (fRow cs n cs.length) ++ [fRow cs n cs.length p] := by
  rw [List.range_succ, List.map_append]
  rfl
set_option maxRecDepth 100000 in
set_option maxHeartbeats 8000000 in
theorem rFirst_any (v : Value) (cs : List Int) (n : Int) (w : World) (hv : IsInts w v cs) (hcs : Nums cs) (h258 : cs.length ≤ 258) (hn1 : 1 ≤ n) (hn2 : n ≤ 1099511627776) :
    Calls Tryz.prog 72 #[v, .int .i64 n] w fun e w' => ∃ u, e = .returned u ∧ IsRR w' u (firstM cs n) ∧ Below w.heap.size w w' := by
  have HV := Lib.hid hv
  have HCS := Lib.hid hcs
  obtain ⟨ad, cap, rfl, _⟩ := hv
  obtain ⟨N, hN⟩ : ∃ N, cs.length = N := ⟨_, rfl⟩
  have HN := Lib.hid hN
  obtain ⟨T, hT⟩ : ∃ T, nTab n = T := ⟨_, rfl⟩
  have HT := Lib.hid hT
  have hTb := nTab_bd n
  rw [hT] at hTb
  obtain ⟨hT2, hT6⟩ := hTb
  have HNU := Lib.hid (rnum12_any n w)
  rw [hT] at HNU
  have HTB : Hid (∀ k, min (sm cs k) (n - 1) * (T : Int) / n = (tb cs n k : Int) ∧ tb cs n k < T) := Lib.hid (fun k => by rw [← hT]; exact tb_is (fun x hx => (hcs x hx).1) hn1 k)
  have HSS : Hid (∀ k, k < N → sm cs (k + 1) = sm cs k + cs.getD k 0) := Lib.hid (fun k hk => sm_succ cs (by omega))
  have HS0 : Hid (∀ k, 0 ≤ sm cs k) := Lib.hid (fun k => sm_nn (fun x hx => (hcs x hx).1) k)
  have HRO : Hid (∀ p k, k < N → (fRow cs n N p).take (k + 1) = (fRow cs n N p).take k ++ [if tb cs n k = p then 0 else 15]) := Lib.hid (fun p k hk => by rw [← hN]; exact fRow_row cs n p k (by omega))
  have HRS : Hid (∀ p, (List.range (p + 1)).map (fRow cs n N) = (List.range p).map (fRow cs n N) ++ [fRow cs n N p]) := Lib.hid (fun p => by rw [← hN]; exact rows_succ cs n p)
  have HFL : Hid (∀ p, (fRow cs n N p).length = N) := Lib.hid (fun p => by rw [fRow_len, hN])
  rw [hN] at h258 HV ⊢
  have HFM : Hid (firstM cs n = (List.range T).map (fRow cs n N)) := Lib.hid (by unfold firstM firstK; rw [hT, hN])
  rw [HFM.out]
  clear hcs hN hT HFM
  go_enter Tryz.func72, Tryz.ntmps72
  go_wp2_with fail
  refine HNU.out.mono ?_
  rintro e w1 ⟨rfl, rfl⟩
  go_wp2_with fail
  go_loopw [6, 15] (fun vo vp wr => ∃ (p bn : Nat) (v : Value), vp = .int .i64 (p : Int) ∧ v = vo ∧ p ≤ T ∧ OwnRR wr w1.heap.size bn v ((List.range p).map (fRow cs n N)) ∧ Below w1.heap.size w1 wr) (fun _ vp _ => T - (intOf vp).toNat)
  case atStart => exact ⟨0, w1.heap.size, _, rfl, rfl, by omega, OwnRR.nil _ _ (Nat.le_refl _), Below.refl _ _⟩
  case round =>
    obtain ⟨p, bn, v, rfl, rfl, hp, hR, hB⟩ := hrel
    have HR := Lib.hid hR
    have HB := Lib.hid hB
    have HBN : Hid (bn ≤ wr.heap.size) := Lib.hid hR.2.1
    have HBB : Hid (w1.heap.size ≤ bn) := Lib.hid hR.1
    clear hR hB
    by_cases hpT : p < T
    · have hpi : (p : Int) < (T : Int) := by omega
      go_wp2_with fail
      obtain ⟨wa, rfl⟩ : ∃ wa : World, wa = wr := ⟨_, rfl⟩
      go_loopw [8, 9, 20] (fun vl vb vk wr => ∃ (k : Nat) (u : Value) (b : Int), vk = .int .i64 (k : Int) ∧ u = vl ∧ k ≤ N ∧ vb = .int .i64 b ∧ min b (n - 1) = min (sm cs k) (n - 1) ∧ 0 ≤ b ∧ b ≤ 2199023255552 ∧ OwnI wr bn u ((fRow cs n N p).take k) ∧ Below bn wa wr) (fun _ _ vk _ => N - (intOf vk).toNat)
      case atStart => exact ⟨0, _, 0, rfl, rfl, by omega, rfl, by rw [sm_zero], by omega, by omega, by rw [List.take_zero]; exact OwnI.nil _ _, Below.refl _ _⟩
      case round =>
        obtain ⟨k, u, b, rfl, rfl, hk, rfl, hmin, hb0, hb1, hU, hBI⟩ := hrel
        have HU := Lib.hid hU
        have HBI := Lib.hid hBI
        clear hU hBI
        by_cases hkN : k < N
        · have hki : (k : Int) < (N : Int) := by omega
          have HV2 := Lib.hid (HV.out.below (HB.out.trans (HBI.out.mono HBB.out)))
          obtain ⟨b1, o1, k1, he1, c1⟩ := HV2.out.cell (show k < cs.length by rw [HN.out]; exact hkN)
          rw [HN.out] at he1
          simp only [Value.slice.injEq] at he1
          obtain ⟨rfl, _, rfl⟩ := he1
          have hxm := HCS.out _ (FreqM.getD_mem cs k (by rw [HN.out]; exact hkN))
          have hss := HSS.out k hkN
          have hs0 := HS0.out k
          obtain ⟨x, hx⟩ : ∃ x, cs.getD k 0 = x := ⟨_, rfl⟩
          rw [hx] at c1 hxm hss
          obtain ⟨hq, htT⟩ := HTB.out k
          have HROW := Lib.hid (HRO.out p k hkN)
          obtain ⟨t, htt⟩ : ∃ t, tb cs n k = t := ⟨_, rfl⟩
          rw [htt] at hq htT HROW
          rw [← hmin] at hq
          have HTK : Hid (((fRow cs n N p).take k).length + 1 ≤ 17592186044416) := Lib.hid (by rw [List.length_take]; omega)
          clear hx htt
          by_cases hcl : n - 1 < b
          · have hme : min b (n - 1) = (n - 1) := by omega
            rw [hme] at hmin hq
            have HMN : Hid (min ((n - 1) + x) (n - 1) = min (sm cs (k + 1)) (n - 1)) := Lib.hid (by rw [hss]; omega)
            have hP0 : 0 ≤ (n - 1) * (T : Int) := Int.mul_nonneg (by omega) (by omega)
            have hP1 : (n - 1) * (T : Int) ≤ 1099511627776 * 6 := Int.mul_le_mul (by omega) (by omega) (by omega) (by omega)
            obtain ⟨P, hP⟩ : ∃ P, (n - 1) * (T : Int) = P := ⟨_, rfl⟩
            rw [hP] at hq hP0 hP1
            have hPt : P.tdiv n = (t : Int) := by rw [Int.tdiv_eq_ediv_of_nonneg hP0, hq]
            have hn0 : ¬ n = 0 := by omega
            clear hme hq hss hmin
            by_cases hep : t = p
            · have HNX : Hid ((fRow cs n N p).take (k + 1) = (fRow cs n N p).take k ++ [0]) := Lib.hid (by rw [HROW.out, if_pos hep])
              have hepb : ((t : Int) == (p : Int)) = true := by rw [beq_iff_eq]; omega
              clear HROW hep
              go_upto_region 16 with (at_builtin; refine push_int wr rfl _ _ rfl bn _ ((fRow cs n N p).take k) 0 HU.out rfl rfl HTK.out (Nat.le_trans HBN.out HBI.out.size) ?_)
              intro u2 w2 hO2 hB2
              have HU2 : Hid (OwnI w2 bn u2 ((fRow cs n N p).take (k + 1))) := Lib.hid (by rw [HNX.out]; exact hO2)
              have HB2 : Hid (Below bn wa w2) := Lib.hid (HBI.out.trans hB2)
              clear hO2 hB2
              go_wp2_with fail
              go_roundw
              case rel => exact ⟨k + 1, u2, (n - 1) + x, by go_num, rfl, by omega, by first | rfl | go_num, HMN.out, by omega, by omega, HU2.out, HB2.out⟩
              case measure => simp [intOf]; omega
            · have HNX : Hid ((fRow cs n N p).take (k + 1) = (fRow cs n N p).take k ++ [15]) := Lib.hid (by rw [HROW.out, if_neg hep])
              have hepb : ((t : Int) == (p : Int)) = false := by rw [beq_eq_false_iff_ne]; omega
              clear HROW hep
              go_upto_region 16 with (at_builtin; refine push_int wr rfl _ _ rfl bn _ ((fRow cs n N p).take k) 15 HU.out rfl rfl HTK.out (Nat.le_trans HBN.out HBI.out.size) ?_)
              intro u2 w2 hO2 hB2
              have HU2 : Hid (OwnI w2 bn u2 ((fRow cs n N p).take (k + 1))) := Lib.hid (by rw [HNX.out]; exact hO2)
              have HB2 : Hid (Below bn wa w2) := Lib.hid (HBI.out.trans hB2)
              clear hO2 hB2
              go_wp2_with fail
              go_roundw
              case rel => exact ⟨k + 1, u2, (n - 1) + x, by go_num, rfl, by omega, by first | rfl | go_num, HMN.out, by omega, by omega, HU2.out, HB2.out⟩
              case measure => simp [intOf]; omega
          · have hme : min b (n - 1) = b := by omega
            rw [hme] at hmin hq
            have HMN : Hid (min (b + x) (n - 1) = min (sm cs (k + 1)) (n - 1)) := Lib.hid (by rw [hss]; omega)
            have hP0 : 0 ≤ b * (T : Int) := Int.mul_nonneg (by omega) (by omega)
            have hP1 : b * (T : Int) ≤ 1099511627776 * 6 := Int.mul_le_mul (by omega) (by omega) (by omega) (by omega)
            obtain ⟨P, hP⟩ : ∃ P, b * (T : Int) = P := ⟨_, rfl⟩
            rw [hP] at hq hP0 hP1
            have hPt : P.tdiv n = (t : Int) := by rw [Int.tdiv_eq_ediv_of_nonneg hP0, hq]
            have hn0 : ¬ n = 0 := by omega
            clear hme hq hss hmin
            by_cases hep : t = p
            · have HNX : Hid ((fRow cs n N p).take (k + 1) = (fRow cs n N p).take k ++ [0]) := Lib.hid (by rw [HROW.out, if_pos hep])
              have hepb : ((t : Int) == (p : Int)) = true := by rw [beq_iff_eq]; omega
              clear HROW hep
              go_upto_region 16 with (at_builtin; refine push_int wr rfl _ _ rfl bn _ ((fRow cs n N p).take k) 0 HU.out rfl rfl HTK.out (Nat.le_trans HBN.out HBI.out.size) ?_)
              intro u2 w2 hO2 hB2
              have HU2 : Hid (OwnI w2 bn u2 ((fRow cs n N p).take (k + 1))) := Lib.hid (by rw [HNX.out]; exact hO2)
              have HB2 : Hid (Below bn wa w2) := Lib.hid (HBI.out.trans hB2)
              clear hO2 hB2
              go_wp2_with fail
              go_roundw
              case rel => exact ⟨k + 1, u2, b + x, by go_num, rfl, by omega, by first | rfl | go_num, HMN.out, by omega, by omega, HU2.out, HB2.out⟩
              case measure => simp [intOf]; omega
            · have HNX : Hid ((fRow cs n N p).take (k + 1) = (fRow cs n N p).take k ++ [15]) := Lib.hid (by rw [HROW.out, if_neg hep])
              have hepb : ((t : Int) == (p : Int)) = false := by rw [beq_eq_false_iff_ne]; omega
              clear HROW hep
              go_upto_region 16 with (at_builtin; refine push_int wr rfl _ _ rfl bn _ ((fRow cs n N p).take k) 15 HU.out rfl rfl HTK.out (Nat.le_trans HBN.out HBI.out.size) ?_)
              intro u2 w2 hO2 hB2
              have HU2 : Hid (OwnI w2 bn u2 ((fRow cs n N p).take (k + 1))) := Lib.hid (by rw [HNX.out]; exact hO2)
              have HB2 : Hid (Below bn wa w2) := Lib.hid (HBI.out.trans hB2)
              clear hO2 hB2
              go_wp2_with fail
              go_roundw
              case rel => exact ⟨k + 1, u2, b + x, by go_num, rfl, by omega, by first | rfl | go_num, HMN.out, by omega, by omega, HU2.out, HB2.out⟩
              case measure => simp [intOf]; omega
        · obtain rfl : k = N := by omega
          have hki : ¬ (k : Int) < (k : Int) := by omega
          have HU2 : Hid (OwnI wr bn u (fRow cs n k p)) := Lib.hid (by have h := HU.out; rw [List.take_of_length_le (by rw [HFL.out]; exact Nat.le_refl _)] at h; exact h)
          have HR2 := Lib.hid (HR.out.below HBI.out)
          have HB2 : Hid (Below w1.heap.size w1 wr) := Lib.hid (HB.out.trans (HBI.out.mono HBB.out))
          have hgl : Hid (((List.range p).map (fRow cs n k)).length + 1 ≤ 1099511627776) := Lib.hid (by rw [List.length_map, List.length_range]; omega)
          clear HU HBI hmin
          obtain ⟨au, cu, rfl⟩ := HU2.out.slice
          rw [HFL.out] at HU2 ⊢
          go_wp2_with (at_builtin; go_loud (refine push_row wr rfl _ _ rfl w1.heap.size bn _ ((List.range p).map (fRow cs n k)) _ (fRow cs n k p) HR2.out HU2.out rfl rfl hgl.out ?_))
          intro v3 w3 hR3 hB3
          rw [← HRS.out] at hR3
          have HR3 := Lib.hid hR3
          have HB3 := Lib.hid (HB2.out.trans hB3)
          clear hR3 hB3
          go_wp2_with fail
          go_roundw
          case rel => exact ⟨p + 1, w3.heap.size, v3, by go_num, rfl, by omega, HR3.out, HB3.out⟩
          case measure => simp [intOf]; omega
    · obtain rfl : p = T := by omega
      have hpi : ¬ (p : Int) < (p : Int) := by omega
      have HRR := Lib.hid HR.out.rr
      go_wp2_with fail
      go_ret
      exact ⟨_, rfl, HRR.out, HB.out⟩
end Go.Proofs.YtehmmogdboaofaaGreatDoor
namespace Go.Proofs.YtehmmogdboaofaaGreatDoor
open Go.RowKit TabM FreqM HufM
set_option linter.unusedVariables false
theorem rows_ext {gs hs : List (List Int)} (hl : gs.length = hs.length) (h : ∀ j, j < gs.length → rw_ gs j = rw_ hs j) : gs = hs := by
  apply List.ext_getElem hl
  intro j h1 h2
  have := h j h1
  unfold rw_ at this
  rw [List.getD_eq_getElem?_getD, List.getD_eq_getElem?_getD, List.getElem?_eq_getElem h1, List.getElem?_eq_getElem h2] at this
  exact this
end Go.Proofs.YtehmmogdboaofaaGreatDoor
namespace Go.Proofs.YtehmmogdboaofaaGreatDoor
open Go.RowKit TabM FreqM HufM
set_option linter.unusedVariables false
/-- A choice's two rows, small enough to be held against others. -/
def ChIs (w : World) (vL vP : Value) (gs : List (List Int)) (ps : List Int) : Prop := IsRR w vL gs ∧ IsInts w vP ps ∧ gs.length ≤ 1000000 ∧ (∀ x ∈ gs, x.length ≤ 9223372036854775807) ∧ ps.length ≤ 9223372036854775807
theorem ChIs.below {w w' : World} {vL vP : Value} {gs : List (List Int)} {ps : List Int} (h : ChIs w vL vP gs ps) (hb : Below w.heap.size w w') : ChIs w' vL vP gs ps := ⟨h.1.below hb, h.2.1.below hb, h.2.2⟩
theorem ChIs.shape {w : World} {vL vP : Value} {gs : List (List Int)} {ps : List Int} (h : ChIs w vL vP gs ps) : (∃ a c, vL = .slice a gs.length c) ∧ (∃ a c, vP = .slice a ps.length c) := by
  obtain ⟨⟨a, c, h1, _⟩, ⟨b, d, h2, _⟩, _⟩ := h
  exact ⟨⟨a, c, h1⟩, ⟨b, d, h2⟩⟩
theorem info_rch : (Tryz.prog.info? 78).map (·.size) = some 2 := by kernel_rfl
end Go.Proofs.YtehmmogdboaofaaGreatDoor
namespace Go.Proofs.YtehmmogdboaofaaGreatDoor
open Go.RowKit HufM
set_option linter.unusedVariables false
/-- A tree: weight, number; its leaves. -/
abbrev T3 := Tr × List Int
def tcells (t : T3) (u : Value) : List Value := [.int .i64 (t.1.1 : Int), .int .i64 (t.1.2 : Int), u]
def tflat : List T3 → List Value → List Value
  | t :: ts, u :: us => tcells t u ++ tflat ts us
  | _, _ => []
theorem tflat_len : ∀ (ts : List T3) (us : List Value), us.length = ts.length → (tflat ts us).length = ts.length * 3
  | [], [], _ => rfl
  | t :: ts, u :: us, h => by
    simp only [tflat, List.length_append, List.length_cons, tcells, List.length_nil]
    rw [tflat_len ts us (by simpa using h)]
    omega
  | [], u :: us, h => by simp at h
  | t :: ts, [], h => by simp at h
theorem tflat_append : ∀ (ts : List T3) (us : List Value) (t : T3) (u : Value), us.length = ts.length → tflat (ts ++ [t]) (us ++ [u]) = tflat ts us ++ tcells t u
  | [], [], t, u, _ => by simp [tflat]
  | x :: ts, y :: us, t, u, h => by
    simp only [List.cons_append, tflat]
    rw [tflat_append ts us t u (by simpa using h), List.append_assoc]
  | [], y :: us, t, u, h => by simp at h
  | x :: ts, [], t, u, h => by simp at h
theorem tflat_at : ∀ (ts : List T3) (us : List Value) (k : Nat) (t : T3) (u : Value), us.length = ts.length → ts[k]? = some t → us[k]? = some u →
    (tflat ts us)[k * 3]? = some (.int .i64 (t.1.1 : Int)) ∧ (tflat ts us)[k * 3 + 1]? = some (.int .i64 (t.1.2 : Int)) ∧ (tflat ts us)[k * 3 + 2]? = some u
  | [], _, k, t, u, _, h, _ => by simp at h
  | x :: ts, [], k, t, u, hl, _, _ => by simp at hl
  | x :: ts, y :: us, 0, t, u, _, h, h2 => by
    have e1 : x = t := by simpa using h
    have e2 : y = u := by simpa using h2
    subst e1 e2
    exact ⟨rfl, rfl, rfl⟩
  | x :: ts, y :: us, k + 1, t, u, hl, h, h2 => by
    have ih := tflat_at ts us k t u (by simpa using hl) (by simpa using h) (by simpa using h2)
    simp only [tflat]
    have e : (tcells x y).length = 3 := rfl
    rw [List.getElem?_append_right (by rw [e]; omega), List.getElem?_append_right (by rw [e]; omega), List.getElem?_append_right (by rw [e]; omega), e]
    rw [show (k + 1) * 3 - 3 = k * 3 from by omega, show (k + 1) * 3 + 1 - 3 = k * 3 + 1 from by omega, show (k + 1) * 3 + 2 - 3 = k * 3 + 2 from by omega]
    exact ih
variable {X : Nat}
/-- v is a row of trees, the call's own from base on; each tree's leaves are a row of their own, none of them in block X. -/
def OwnT (X : Nat) (W : World) (base : Nat) (v : Value) (ts : List T3) : Prop :=
  ∃ us : List Value, us.length = ts.length ∧ W.ownsRow base 144 3 v ts.length (tflat ts us) ∧ ∀ (i : Nat) (t : T3) (u : Value), ts[i]? = some t → us[i]? = some u → OwnI W 0 u t.2 ∧ u.ownBlock ≠ some X
theorem OwnT.nil (W : World) (base : Nat) : OwnT X W base (.slice none 0 0) [] := ⟨[], rfl, World.ownsRow_nil _ _ _ _, fun i t u h => by simp at h⟩
theorem OwnT.slice {W : World} {base : Nat} {v : Value} {ts : List T3} (h : OwnT X W base v ts) : ∃ a cap, v = .slice a ts.length cap := by
  obtain ⟨us, h1, h2, h3⟩ := h
  exact slice_of_own h2
theorem OwnT.below {W W' : World} {base : Nat} {v : Value} {ts : List T3} (h : OwnT X W base v ts) (hb : Below W.heap.size W W') : OwnT X W' base v ts := by
  obtain ⟨us, h1, h2, h3⟩ := h
  exact ⟨us, h1, ownsRow_other h2 (fun k hk => hb.block k (World.ownsRow.lt h2 k hk).2), fun i t u ht hu => ⟨(h3 i t u ht hu).1.below hb, (h3 i t u ht hu).2⟩⟩
/-- A tree of a row, as a walk reads it. -/
theorem OwnT.at {W : World} {base : Nat} {v : Value} {ts : List T3} (h : OwnT X W base v ts) {k : Nat} {t : T3} (ht : ts[k]? = some t) :
    ∃ g cap u, v = .slice (some ⟨g, 0, none⟩) ts.length cap ∧ g < W.heap.size ∧ W.cell? ⟨g, k * 3, none⟩ = some (.int .i64 (t.1.1 : Int)) ∧ W.cell? ⟨g, k * 3 + 1, none⟩ = some (.int .i64 (t.1.2 : Int)) ∧ W.cell? ⟨g, k * 3 + 2, none⟩ = some u ∧ OwnI W 0 u t.2 ∧ u.ownBlock ≠ some X := by
  obtain ⟨us, h1, h2, h3⟩ := h
  have hk := (List.getElem?_eq_some_iff.1 ht).1
  have hc := h2
  rcases h2.2 with ⟨rfl, h0⟩ | ⟨g, cap, cur, rfl, hB, hg, hr⟩
  · omega
  · have hu : us[k]? = some (us[k]'(by omega)) := List.getElem?_eq_getElem (by omega)
    obtain ⟨f1, f2, f3⟩ := tflat_at ts us k t _ h1 ht hu
    refine ⟨g, cap, _, rfl, (Array.getElem?_eq_some_iff.1 hg).1, ?_, ?_, ?_, h3 k t _ ht hu⟩
    · have := hc.cells (g := g) rfl _ _ f1
      rwa [Addr.add_lit, Nat.zero_add] at this
    · have := hc.cells (g := g) rfl _ _ f2
      rwa [Addr.add_lit, Nat.zero_add] at this
    · have := hc.cells (g := g) rfl _ _ f3
      rwa [Addr.add_lit, Nat.zero_add] at this
theorem OwnT.new {W : World} {base Y : Nat} {v : Value} {ts : List T3} (h : OwnT X W base v ts) (hY : W.heap.size ≤ Y) : OwnT Y W base v ts := by
  obtain ⟨us, h1, h2, h3⟩ := h
  refine ⟨us, h1, h2, fun i t u ht hu => ⟨(h3 i t u ht hu).1, fun e => ?_⟩⟩
  have := (World.ownsRow.lt (h3 i t u ht hu).1 Y e).2
  omega
/-- A store into block X, which holds numbers. -/
theorem OwnT.set {W W' : World} {base : Nat} {v : Value} {ts : List T3} (h : OwnT X W base v ts) {zs : List Int} (hX : RowI W X zs) (ht : Touch (· = X) W W') : OwnT X W' base v ts := by
  obtain ⟨us, h1, h2, h3⟩ := h
  have hlt : ∀ k, v.ownBlock = some k → k ≠ X := fun k hk e => by
    rcases h2.2 with ⟨rfl, _⟩ | ⟨g, cap, cur, rfl, _, hgc, _⟩
    · simp [Value.ownBlock] at hk
    · simp [Value.ownBlock] at hk
      subst hk e
      unfold RowI at hX
      rw [hgc] at hX
      simp at hX
  refine ⟨us, h1, ownsRow_other h2 (fun k hk => ht.block k (World.ownsRow.lt h2 k hk).2 (hlt k hk)), fun i t u hti hu => ⟨?_, (h3 i t u hti hu).2⟩⟩
  have ho := (h3 i t u hti hu).1
  exact ho.same (fun k hk => ht.block k (World.ownsRow.lt ho k hk).2 (fun e => by
    have e' : k = X := e
    subst e'
    exact (h3 i t u hti hu).2 hk))
theorem infoTree : (Tryz.prog.info? 144).map (fun i => (i.zero, i.size, i.bytes)) = some (some (.agg #[.int .i64 0, .int .i64 0, .slice none 0 0]), 3, 40) := by kernel_rfl
set_option maxHeartbeats 1000000 in
theorem push_tree {ops : Array Oper} {rest : List Oper} {o : Oper} {a : Act} {Q : Exit → Act → World → Prop} (W : World) (hgd : o.guard = none) (s x : Operand)
    (ho : o.op = .call { callee := .builtin .append, args := #[s, x], argTypes := #[142, 142] })
    (B G : Nat) (hG : W.heap.size = G) (v : Value) (ts : List T3) (t : T3) (u : Value) (hown : OwnT X W B v ts) (hu : OwnI W 0 u t.2) (hux : u.ownBlock ≠ some X) (hs : a.eval s = v) (hx : a.eval x = .slice (some ⟨G, 0, none⟩) 1 1)
    (hlen : ts.length + 1 ≤ 1000000) (hB : B ≤ W.heap.size)
    (h : ∀ v' w', OwnT X w' B v' (ts ++ [t]) → Below B W w' → wpList Tryz.prog ops Q rest (a.put o.dst v') w') :
    wpList Tryz.prog ops Q (o :: rest) a (W.alloc (.cells #[.int .i64 (t.1.1 : Int), .int .i64 (t.1.2 : Int), u] 144)) := by
  subst hG
  obtain ⟨i0, hi, hz0, hz1, hz2⟩ := info_parts infoTree
  obtain ⟨us, h1, h5, h6⟩ := hown
  refine wpList_append_own2 hgd s x 142 ho B 144 i0 (.agg #[.int .i64 0, .int .i64 0, .slice none 0 0]) 3 40 Tryz.underlying142 hi hz0 hz1 hz2 rfl (by decide) v ts.length (tflat ts us) (World.ownsRow.alloc h5 _) hs ⟨W.heap.size, 0, none⟩ 1 1 (tcells t u) hx rfl ?_ ?_ ?_ ?_ ?_ ?_
  · exact news_new _ _ _ _ rfl
  · intro y hy
    obtain ⟨a1, c1, rfl⟩ := hu.slice
    simp only [tcells, List.mem_cons, List.not_mem_nil, or_false] at hy
    rcases hy with rfl | rfl | rfl <;> rfl
  · unfold maxLen; omega
  · omega
  · simp; omega
  · intro v' w' hown' hg hv
    have hBW : Below B W w' := Below.grown ((Below.refl B W).alloc hB _) hg (by simp; omega) (fun j hj => (World.ownsRow.lt h5 j hj).1)
    have leaf : ∀ (y : Value) (zs : List Int), OwnI W 0 y zs → OwnI w' 0 y zs := fun y zs hy => hy.same (fun k hk => by
      have hlt := (World.ownsRow.lt hy k hk).2
      refine (hg.block k (by simp; omega) (fun e => ?_)).trans (alloc_old hlt)
      -- the row's own block holds trees, the leaves' holds numbers
      rcases h5.2 with ⟨rfl, _⟩ | ⟨g, cap, cur, rfl, _, hgc, _⟩
      · simp [Value.ownBlock] at e
      · simp [Value.ownBlock] at e
        rcases hy.2 with ⟨rfl, _⟩ | ⟨g2, cap2, cur2, rfl, _, hgc2, _⟩
        · simp [Value.ownBlock] at hk
        · simp [Value.ownBlock] at hk
          subst e hk
          rw [hgc] at hgc2
          simp at hgc2)
    refine h v' w' ⟨us ++ [u], by simp [h1], by rw [List.length_append, tflat_append ts us t u h1]; exact hown', fun i y z hy hz => ?_⟩ hBW
    rw [List.getElem?_append] at hy hz
    by_cases hlt : i < ts.length
    · rw [if_pos hlt] at hy
      rw [if_pos (by omega)] at hz
      exact ⟨leaf _ _ (h6 i y z hy hz).1, (h6 i y z hy hz).2⟩
    · rw [if_neg hlt] at hy
      rw [if_neg (by omega)] at hz
      have hi0 : i - ts.length = 0 := by
        by_cases h0 : i - ts.length = 0
        · exact h0
        · rw [List.getElem?_eq_none (by simp; omega)] at hy; cases hy
      rw [hi0] at hy
      rw [h1, hi0] at hz
      simp at hy hz
      subst hy hz
      exact ⟨leaf _ _ hu, hux⟩
def tv (t : T3) (u : Value) : Value := .agg #[.int .i64 (t.1.1 : Int), .int .i64 (t.1.2 : Int), u]
set_option maxRecDepth 100000 in
set_option maxHeartbeats 2000000 in
theorem tless_any (s t : T3) (u v : Value) (r : Bool) (w : World) (hr : r = true ↔ lt s.1 t.1) :
    Calls Tryz.prog 130 #[tv s u, tv t v] w fun e w' => e = .returned (.bool r) ∧ Below w.heap.size w w' := by
  obtain ⟨⟨a, b⟩, l⟩ := s
  obtain ⟨⟨c, d⟩, m⟩ := t
  unfold lt at hr
  simp only at hr
  have HR := Lib.hid hr
  have HB : Hid (∀ o o', Below w.heap.size w ((w.alloc o).alloc o')) := Lib.hid (fun o o' => ((Below.refl _ w).alloc (Nat.le_refl _) o).alloc (by simp) o')
  clear hr
  unfold tv
  simp only
  by_cases h1 : a < c
  · have h1i : (a : Int) < (c : Int) := by omega
    obtain rfl : r = true := HR.out.2 (Or.inl h1)
    go_enter Tryz.func130, Tryz.ntmps130
    go_wp2_with fail
    go_ret
    exact ⟨rfl, HB.out _ _⟩
  · have h1i : decide ((a : Int) < (c : Int)) = false := by simp only [decide_eq_false_iff_not]; omega
    by_cases h2 : a = c
    · have h2i : ((a : Int) == (c : Int)) = true := by rw [beq_iff_eq]; omega
      have h2n : a ≤ c := by omega
      by_cases h3 : b < d
      · have h3i : (b : Int) < (d : Int) := by omega
        obtain rfl : r = true := HR.out.2 (Or.inr ⟨h2, h3⟩)
        clear h2
        go_enter Tryz.func130, Tryz.ntmps130
        go_wp2_with fail
        go_ret
        exact ⟨rfl, HB.out _ _⟩
      · have h3i : decide ((b : Int) < (d : Int)) = false := by simp only [decide_eq_false_iff_not]; omega
        obtain rfl : r = false := by
          rw [Bool.eq_false_iff, Ne, HR.out]; omega
        clear h2
        go_enter Tryz.func130, Tryz.ntmps130
        go_wp2_with fail
        go_ret
        exact ⟨rfl, HB.out _ _⟩
    · have h2i : ((a : Int) == (c : Int)) = false := by rw [beq_eq_false_iff_ne]; omega
      obtain rfl : r = false := by
        rw [Bool.eq_false_iff, Ne, HR.out]; omega
      go_enter Tryz.func130, Tryz.ntmps130
      go_wp2_with fail
      go_ret
      exact ⟨rfl, HB.out _ _⟩
/-- None of the first k trees is less than that of place m. -/
def NoneLess (ts : List T3) (m k : Nat) : Prop := ∀ (j : Nat) (t y : T3), j < k → ts[j]? = some t → ts[m]? = some y → ¬ lt t.1 y.1
set_option maxRecDepth 100000 in
set_option maxHeartbeats 2000000 in
theorem tleast_any (v : Value) (ts : List T3) (w : World) (base : Nat) (hv : OwnT X w base v ts) (h1 : 1 ≤ ts.length) (hn : ts.length ≤ 1000) :
    Calls Tryz.prog 120 #[v] w fun e w' => ∃ at_ : Nat, e = .returned (.int .i64 (at_ : Int)) ∧ at_ < ts.length ∧ NoneLess ts at_ ts.length ∧ Below w.heap.size w w' := by
  have HV := Lib.hid hv
  obtain ⟨a0, cap0, rfl⟩ := hv.slice
  clear hv
  go_enter Tryz.func120, Tryz.ntmps120
  go_wp2_with fail
  go_loopw [3, 8] (fun va vi wr => ∃ k m : Nat, vi = .int .i64 k ∧ k ≤ ts.length ∧ va = .int .i64 m ∧ m < ts.length ∧ NoneLess ts m k ∧ Below w.heap.size w wr) (fun _ vi _ => ts.length - (intOf vi).toNat)
  case atStart => exact ⟨0, 0, rfl, by omega, rfl, by omega, fun j t y hj => by omega, Below.refl _ _⟩
  case round =>
    obtain ⟨k, m, rfl, hk, rfl, hm, hA, hB⟩ := hrel
    have HA := Lib.hid hA
    have HB := Lib.hid hB
    have HVW := Lib.hid (HV.out.below hB)
    clear hA hB
    by_cases hlk : k < ts.length
    · have hki : (k : Int) < (ts.length : Int) := by omega
      have hmi : (m : Int) < (ts.length : Int) := by omega
      obtain ⟨t, ht⟩ : ∃ t, ts[k]? = some t := ⟨_, List.getElem?_eq_getElem hlk⟩
      obtain ⟨y, hy⟩ : ∃ y, ts[m]? = some y := ⟨_, List.getElem?_eq_getElem hm⟩
      obtain ⟨g, cap, u, he, hg, c0, c1, c2, ho, hox⟩ := HVW.out.at ht
      obtain ⟨g2, cap2, u2, he2, hg2, d0, d1, d2, ho2, hox2⟩ := HVW.out.at hy
      simp only [Value.slice.injEq] at he he2
      obtain ⟨rfl, _, rfl⟩ := he
      simp only [Option.some.injEq, Addr.mk.injEq] at he2
      obtain ⟨⟨rfl, _⟩, _, rfl⟩ := he2
      obtain ⟨ua, uc, rfl⟩ := ho.slice
      obtain ⟨va, vc, rfl⟩ := ho2.slice
      have HT := Lib.hid ht
      have HY := Lib.hid hy
      have hkn : k * 3 < 3000 := by omega
      have hmn : m * 3 < 3000 := by omega
      have W1 : Hid (Below w.heap.size w (wr.alloc (.cells #[.int .i64 (t.1.1 : Int), .int .i64 (t.1.2 : Int), .slice ua t.2.length uc] 144))) := Lib.hid (HB.out.alloc HB.out.size _)
      have W0 : Below wr.heap.size wr (wr.alloc (.cells #[.int .i64 (t.1.1 : Int), .int .i64 (t.1.2 : Int), .slice ua t.2.length uc] 144)) := (Below.refl _ wr).alloc (Nat.le_refl _) _
      have d0' := (W0.cell (p := ⟨g, m * 3, none⟩) hg).trans d0
      have d1' := (W0.cell (p := ⟨g, m * 3 + 1, none⟩) hg).trans d1
      have d2' := (W0.cell (p := ⟨g, m * 3 + 2, none⟩) hg).trans d2
      have hnew : (wr.alloc (.cells #[.int .i64 (t.1.1 : Int), .int .i64 (t.1.2 : Int), .slice ua t.2.length uc] 144)).heap[wr.heap.size]? = some (.cells #[.int .i64 (t.1.1 : Int), .int .i64 (t.1.2 : Int), .slice ua t.2.length uc] 144 (0, 0)) := heap_alloc_new wr _
      have n0 : (wr.alloc (.cells #[.int .i64 (t.1.1 : Int), .int .i64 (t.1.2 : Int), .slice ua t.2.length uc] 144)).cell? ⟨wr.heap.size, 0, none⟩ = some (.int .i64 (t.1.1 : Int)) := by rw [cell_of_row _ _ _ _ _ _ hnew]; rfl
      have n1 : (wr.alloc (.cells #[.int .i64 (t.1.1 : Int), .int .i64 (t.1.2 : Int), .slice ua t.2.length uc] 144)).cell? ⟨wr.heap.size, 1, none⟩ = some (.int .i64 (t.1.2 : Int)) := by rw [cell_of_row _ _ _ _ _ _ hnew]; rfl
      have n2 : (wr.alloc (.cells #[.int .i64 (t.1.1 : Int), .int .i64 (t.1.2 : Int), .slice ua t.2.length uc] 144)).cell? ⟨wr.heap.size, 2, none⟩ = some (.slice ua t.2.length uc) := by rw [cell_of_row _ _ _ _ _ _ hnew]; rfl
      clear ht hy ho ho2 W0 hnew hox hox2
      by_cases hlt : lt t.1 y.1
      · have HL := Lib.hid hlt
        have HC : Hid (∀ q, Calls Tryz.prog 130 #[tv t (.slice ua t.2.length uc), tv y (.slice va y.2.length vc)] q fun e w' => e = .returned (.bool true) ∧ Below q.heap.size q w') := Lib.hid (fun q => tless_any t y _ _ true q ⟨fun _ => hlt, fun _ => rfl⟩)
        clear hlt
        go_wp2_with fail
        generalize (wr.alloc (.cells #[.int .i64 (t.1.1 : Int), .int .i64 (t.1.2 : Int), .slice ua t.2.length uc] 144)) = w2 at *
        go_still_tail 5, (by kernel_rfl)
        change wpList _ _ _ _ _ (w2.drewN 1)
        go_wp2_with fail
        refine (HC.out _).mono ?_
        rintro e w3 ⟨rfl, hb⟩
        have HB3 : Hid (Below w.heap.size w w3) := Lib.hid (W1.out.trans (((below_drewN w2 1).trans hb).mono W1.out.size))
        clear hb
        go_wp2_with fail
        go_roundw
        case rel => exact ⟨k + 1, k, by go_num, by omega, rfl, hlk, fun j s z hj hs hz => by
          rw [HT.out] at hz
          cases hz
          by_cases e : j = k
          · subst e
            rw [HT.out] at hs
            cases hs
            exact fun h => lt_asym h h
          · intro h
            exact HA.out j s y (by omega) hs HY.out (lt_trans h HL.out), HB3.out⟩
        case measure => simp [intOf]; omega
      · have HL := Lib.hid hlt
        have HC : Hid (∀ q, Calls Tryz.prog 130 #[tv t (.slice ua t.2.length uc), tv y (.slice va y.2.length vc)] q fun e w' => e = .returned (.bool false) ∧ Below q.heap.size q w') := Lib.hid (fun q => tless_any t y _ _ false q ⟨fun h => (by cases h), fun h => absurd h hlt⟩)
        clear hlt
        go_wp2_with fail
        generalize (wr.alloc (.cells #[.int .i64 (t.1.1 : Int), .int .i64 (t.1.2 : Int), .slice ua t.2.length uc] 144)) = w2 at *
        go_still_tail 5, (by kernel_rfl)
        change wpList _ _ _ _ _ (w2.drewN 1)
        go_wp2_with fail
        refine (HC.out _).mono ?_
        rintro e w3 ⟨rfl, hb⟩
        have HB3 : Hid (Below w.heap.size w w3) := Lib.hid (W1.out.trans (((below_drewN w2 1).trans hb).mono W1.out.size))
        clear hb
        go_wp2_with fail
        go_roundw
        case rel => exact ⟨k + 1, m, by go_num, by omega, rfl, hm, fun j s z hj hs hz => by
          by_cases e : j = k
          · subst e
            rw [HT.out] at hs
            rw [HY.out] at hz
            cases hs
            cases hz
            exact HL.out
          · exact HA.out j s z (by omega) hs hz, HB3.out⟩
        case measure => simp [intOf]; omega
    · have hki : ¬ (k : Int) < (ts.length : Int) := by omega
      go_wp2_with fail
      go_ret
      exact ⟨m, rfl, hm, fun j s z hj hs hz => HA.out j s z (by omega) hs hz, HB.out⟩
/-- A row, up to k, without place m. -/
def wo (ts : List T3) (m k : Nat) : List T3 := (ts.take k).eraseIdx m
theorem wo_push {ts : List T3} {m k : Nat} {t : T3} (ht : ts[k]? = some t) (hne : k ≠ m) : wo ts m (k + 1) = wo ts m k ++ [t] := by
  have hk := (List.getElem?_eq_some_iff.1 ht).1
  have hl : (ts.take k).length = k := by rw [List.length_take]; omega
  unfold wo
  rw [List.take_add_one, ht]
  show (ts.take k ++ [t]).eraseIdx m = _
  by_cases h : m < k
  · rw [List.eraseIdx_append_of_lt_length (by omega)]
  · rw [List.eraseIdx_append_of_length_le (by omega), hl, List.eraseIdx_of_length_le (l := [t]) (by simp; omega), List.eraseIdx_of_length_le (l := ts.take k) (by omega)]
theorem wo_skip {ts : List T3} {m : Nat} (hm : m < ts.length) : wo ts m (m + 1) = wo ts m m := by
  have hl : (ts.take m).length = m := by rw [List.length_take]; omega
  unfold wo
  rw [List.take_add_one, List.getElem?_eq_getElem hm]
  show (ts.take m ++ [ts[m]]).eraseIdx m = _
  rw [List.eraseIdx_append_of_length_le (by omega), hl, List.eraseIdx_of_length_le (l := ts.take m) (by omega), Nat.sub_self]
  simp
theorem wo_len (ts : List T3) (m k : Nat) : (wo ts m k).length ≤ ts.length := by
  unfold wo
  have := List.length_eraseIdx_le (ts.take k) m
  rw [List.length_take] at this
  omega
set_option maxRecDepth 100000 in
set_option maxHeartbeats 2000000 in
theorem twithout_any (v : Value) (ts : List T3) (m : Nat) (w : World) (base : Nat) (hv : OwnT X w base v ts) (hm : m < ts.length) (hn : ts.length ≤ 1000) :
    Calls Tryz.prog 121 #[v, .int .i64 (m : Int)] w fun e w' => ∃ r, e = .returned r ∧ OwnT X w' w.heap.size r (ts.eraseIdx m) ∧ Below w.heap.size w w' := by
  have HV := Lib.hid hv
  obtain ⟨a0, cap0, rfl⟩ := hv.slice
  clear hv
  go_enter Tryz.func121, Tryz.ntmps121
  go_wp2_with fail
  go_loopw [5, 10] (fun vo vi wr => ∃ (k : Nat) (o : Value), vi = .int .i64 k ∧ k ≤ ts.length ∧ o = vo ∧ OwnT X wr w.heap.size o (wo ts m k) ∧ Below w.heap.size w wr) (fun _ vi _ => ts.length - (intOf vi).toNat)
  case atStart => exact ⟨0, _, rfl, by omega, rfl, by simpa [wo] using OwnT.nil w w.heap.size, Below.refl _ _⟩
  case round =>
    obtain ⟨k, o, rfl, hk, rfl, hO, hB⟩ := hrel
    have HO := Lib.hid hO
    have HB := Lib.hid hB
    have HVW := Lib.hid (HV.out.below hB)
    obtain ⟨oa, oc, rfl⟩ := hO.slice
    have hol := wo_len ts m k
    obtain ⟨OL, hOL⟩ : ∃ OL, (wo ts m k).length = OL := ⟨_, rfl⟩
    rw [hOL] at HO hol ⊢
    have HOL := Lib.hid hOL
    clear hO hB hOL
    by_cases hlk : k < ts.length
    · have hki : (k : Int) < (ts.length : Int) := by omega
      obtain ⟨t, ht⟩ : ∃ t, ts[k]? = some t := ⟨_, List.getElem?_eq_getElem hlk⟩
      obtain ⟨g, cap, u, he, hg, c0, c1, c2, ho, hox⟩ := HVW.out.at ht
      simp only [Value.slice.injEq] at he
      obtain ⟨rfl, _, rfl⟩ := he
      obtain ⟨ua, uc, rfl⟩ := ho.slice
      have HT := Lib.hid ht
      have hkn : k * 3 < 3000 := by omega
      have W0 : Hid (Below wr.heap.size wr (wr.alloc (.cells #[.int .i64 (t.1.1 : Int), .int .i64 (t.1.2 : Int), .slice ua t.2.length uc] 144))) := Lib.hid ((Below.refl _ wr).alloc (Nat.le_refl _) _)
      have W1 : Hid (Below w.heap.size w (wr.alloc (.cells #[.int .i64 (t.1.1 : Int), .int .i64 (t.1.2 : Int), .slice ua t.2.length uc] 144))) := Lib.hid (HB.out.alloc HB.out.size _)
      have HO2 : Hid (OwnT X (wr.alloc (.cells #[.int .i64 (t.1.1 : Int), .int .i64 (t.1.2 : Int), .slice ua t.2.length uc] 144)) w.heap.size (.slice oa OL oc) (wo ts m k)) := Lib.hid (HO.out.below W0.out)
      have HU2 : Hid (OwnI (wr.alloc (.cells #[.int .i64 (t.1.1 : Int), .int .i64 (t.1.2 : Int), .slice ua t.2.length uc] 144)) 0 (.slice ua t.2.length uc) t.2) := Lib.hid (ho.below W0.out)
      have hnew : (wr.alloc (.cells #[.int .i64 (t.1.1 : Int), .int .i64 (t.1.2 : Int), .slice ua t.2.length uc] 144)).heap[wr.heap.size]? = some (.cells #[.int .i64 (t.1.1 : Int), .int .i64 (t.1.2 : Int), .slice ua t.2.length uc] 144 (0, 0)) := heap_alloc_new wr _
      have n0 : (wr.alloc (.cells #[.int .i64 (t.1.1 : Int), .int .i64 (t.1.2 : Int), .slice ua t.2.length uc] 144)).cell? ⟨wr.heap.size, 0, none⟩ = some (.int .i64 (t.1.1 : Int)) := by rw [cell_of_row _ _ _ _ _ _ hnew]; rfl
      have n1 : (wr.alloc (.cells #[.int .i64 (t.1.1 : Int), .int .i64 (t.1.2 : Int), .slice ua t.2.length uc] 144)).cell? ⟨wr.heap.size, 1, none⟩ = some (.int .i64 (t.1.2 : Int)) := by rw [cell_of_row _ _ _ _ _ _ hnew]; rfl
      have n2 : (wr.alloc (.cells #[.int .i64 (t.1.1 : Int), .int .i64 (t.1.2 : Int), .slice ua t.2.length uc] 144)).cell? ⟨wr.heap.size, 2, none⟩ = some (.slice ua t.2.length uc) := by rw [cell_of_row _ _ _ _ _ _ hnew]; rfl
      have HOX := Lib.hid hox
      clear ht ho hnew hox
      by_cases hkm : k = m
      · have hne : ((k : Int) != (m : Int)) = false := by rw [bne_eq_false_iff_eq]; omega
        have HKM := Lib.hid hkm
        clear hkm
        go_wp2_with fail
        go_roundw
        case rel => exact ⟨k + 1, _, by go_num, by omega, rfl, by
          have := HKM.out
          subst this
          rw [wo_skip hm]
          exact HO2.out, W1.out⟩
        case measure => simp [intOf]; omega
      · have hne : ((k : Int) != (m : Int)) = true := by rw [bne_iff_ne]; omega
        have HKM := Lib.hid hkm
        clear hkm
        have HS1 := W1.out.size
        go_wp2_with (at_builtin; go_loud (refine push_tree (wr.alloc (.cells #[.int .i64 (t.1.1 : Int), .int .i64 (t.1.2 : Int), .slice ua t.2.length uc] 144)) rfl _ _ rfl w.heap.size (wr.heap.size + 1) (by simp) (.slice oa OL oc) (wo ts m k) t (.slice ua t.2.length uc) HO2.out HU2.out HOX.out rfl rfl (by rw [HOL.out]; omega) HS1 ?_))
        intro v' w' hown hb
        have HOWN := Lib.hid hown
        have HBB : Hid (Below w.heap.size w w') := Lib.hid (W1.out.trans hb)
        clear hown hb
        go_wp2_with fail
        go_roundw
        case rel => exact ⟨k + 1, _, by go_num, by omega, rfl, by rw [wo_push HT.out HKM.out]; exact HOWN.out, HBB.out⟩
        case measure => simp [intOf]; omega
    · have hki : ¬ (k : Int) < (ts.length : Int) := by omega
      have e : wo ts m k = ts.eraseIdx m := by unfold wo; rw [List.take_of_length_le (by omega)]
      rw [e] at HO
      clear e
      go_wp2_with fail
      go_ret
      exact ⟨_, rfl, HO.out, HB.out⟩
end Go.Proofs.YtehmmogdboaofaaGreatDoor
namespace Go.Proofs.YtehmmogdboaofaaGreatDoor
namespace HufM
open Go.RowKit
set_option linter.unusedVariables false
/-- Each of some places counts one more. -/
def inc (o : List Int) (ls : List Int) : List Int := ls.foldl (fun o x => o.set x.toNat (o.getD x.toNat 0 + 1)) o
theorem inc_len (ls : List Int) : ∀ o : List Int, (inc o ls).length = o.length := by
  induction ls with
  | nil => intro o; rfl
  | cons x t ih => intro o; exact (ih _).trans (by simp)
theorem getD_set (o : List Int) (i j : Nat) (v : Int) (hi : i < o.length) : (o.set i v).getD j 0 = if j = i then v else o.getD j 0 := by
  rw [List.getD_eq_getElem?_getD, List.getD_eq_getElem?_getD, List.getElem?_set]
  by_cases e : i = j
  · subst e; simp [hi]
  · have : ¬ j = i := fun h => e h.symm
    simp [e, this]
theorem inc_take (o ls : List Int) {k : Nat} (h : k < ls.length) : inc o (ls.take (k + 1)) = (inc o (ls.take k)).set (ls.getD k 0).toNat ((inc o (ls.take k)).getD (ls.getD k 0).toNat 0 + 1) := by
  unfold inc
  rw [List.take_add_one, List.foldl_append, List.getD_eq_getElem?_getD, List.getElem?_eq_getElem h]
  rfl
theorem inc_at (ls : List Int) : ∀ (o : List Int) (j : Nat), ls.Nodup → (∀ x ∈ ls, 0 ≤ x ∧ x < (o.length : Int)) → (inc o ls).getD j 0 = o.getD j 0 + if (j : Int) ∈ ls then 1 else 0 := by
  induction ls with
  | nil => intro o j _ _; simp [inc]
  | cons x t ih =>
    intro o j hn hr
    obtain ⟨h1, h2⟩ := List.nodup_cons.1 hn
    have hx := hr x (List.mem_cons_self ..)
    have := ih (o.set x.toNat (o.getD x.toNat 0 + 1)) j h2 (fun y hy => by rw [List.length_set]; exact hr y (List.mem_cons_of_mem _ hy))
    show (inc (o.set x.toNat (o.getD x.toNat 0 + 1)) t).getD j 0 = _
    rw [this, getD_set _ _ _ _ (by omega)]
    by_cases e : j = x.toNat
    · have ej : (j : Int) = x := by omega
      rw [if_pos e, ej, if_neg h1, if_pos (List.mem_cons_self ..), e]
      omega
    · have ej : ¬ (j : Int) = x := by omega
      rw [if_neg e]
      by_cases hm : (j : Int) ∈ t
      · rw [if_pos hm, if_pos (List.mem_cons_of_mem _ hm)]
      · rw [if_neg hm, if_neg (fun h => by rcases List.mem_cons.1 h with h | h; exact ej h; exact hm h)]
theorem inc_near (ls : List Int) : ∀ (o : List Int) (j : Nat), o.getD j 0 ≤ (inc o ls).getD j 0 ∧ (inc o ls).getD j 0 ≤ o.getD j 0 + (ls.length : Int) := by
  induction ls with
  | nil => intro o j; simp [inc]
  | cons x t ih =>
    intro o j
    have := ih (o.set x.toNat (o.getD x.toNat 0 + 1)) j
    have h2 : o.getD j 0 ≤ (o.set x.toNat (o.getD x.toNat 0 + 1)).getD j 0 ∧ (o.set x.toNat (o.getD x.toNat 0 + 1)).getD j 0 ≤ o.getD j 0 + 1 := by
      by_cases hi : x.toNat < o.length
      · rw [getD_set _ _ _ _ hi]
        split
        · rename_i e; subst e; omega
        · omega
      · rw [List.set_eq_of_length_le (by omega)]; omega
    show o.getD j 0 ≤ (inc (o.set x.toNat (o.getD x.toNat 0 + 1)) t).getD j 0 ∧ (inc (o.set x.toNat (o.getD x.toNat 0 + 1)) t).getD j 0 ≤ _
    simp only [List.length_cons]
    omega
theorem erase_perm {α : Type} : ∀ (l : List α) (i : Nat) (h : i < l.length), (l[i] :: l.eraseIdx i).Perm l
  | x :: t, 0, h => List.Perm.refl _
  | x :: t, i + 1, h => by
    have hi : i < t.length := by simpa using h
    have ih := erase_perm t i hi
    show (t[i] :: x :: t.eraseIdx i).Perm (x :: t)
    exact (List.Perm.swap _ _ _).trans (ih.cons x)
def trs (ts : List T3) : List Tr := ts.map (·.1)
def lvs (ts : List T3) : List Int := ts.flatMap (·.2)
/-- How far the document's answer has come. -/
structure DS (w : List Int) (d : Nat → Nat) (ts : List T3) (o : List Int) (K : Nat) : Prop where
  run0 : Run w.length (ini w) d
  run : Run K (trs ts) d
  dis : Dis (trs ts)
  low : ∀ t ∈ ts, t.1.2 < K
  lv : (lvs ts).Perm ((List.range w.length).map (fun i : Nat => (i : Int)))
  ol : o.length = w.length
  od : ∀ t ∈ ts, ∀ x ∈ t.2, o.getD x.toNat 0 + (d t.1.2 : Int) = (d x.toNat : Int)
  tot : sumN wt (trs ts) = sumN wt (ini w)
  cnt : ts.length + K = 2 * w.length
theorem range_nodup (n : Nat) : ((List.range n).map (fun i : Nat => (i : Int))).Nodup := by
  unfold List.Nodup
  rw [List.pairwise_map]
  exact List.pairwise_lt_range.imp (fun h => by omega)
theorem DS.mem {w : List Int} {d : Nat → Nat} {ts : List T3} {o : List Int} {K : Nat} (h : DS w d ts o K) {x : Int} : x ∈ lvs ts ↔ 0 ≤ x ∧ x < (w.length : Int) := by
  rw [h.lv.mem_iff, List.mem_map]
  constructor
  · rintro ⟨i, hi, rfl⟩
    have := List.mem_range.1 hi
    omega
  · rintro ⟨h1, h2⟩
    exact ⟨x.toNat, List.mem_range.2 (by omega), by omega⟩
theorem DS.near {w : List Int} {d : Nat → Nat} {ts : List T3} {o : List Int} {K : Nat} (h : DS w d ts o K) {i : Nat} (hi : i < w.length) : -((ts.length : Nat) : Int) ≤ o.getD i 0 ∧ o.getD i 0 ≤ (w.length : Int) := by
  have hm : (i : Int) ∈ lvs ts := h.mem.2 ⟨by omega, by omega⟩
  obtain ⟨t, ht, hx⟩ := List.mem_flatMap.1 hm
  have h1 := h.od t ht _ hx
  rw [Int.toNat_natCast] at h1
  have h2 := h.run0.short _ (ini_of hi)
  have h3 := h.run.short t.1 (List.mem_map.2 ⟨t, ht, rfl⟩)
  rw [ini_len] at h2
  simp only [trs, List.length_map] at h3
  simp only at h2
  omega
/-- The two least are joined. -/
theorem DS.step {w : List Int} {d : Nat → Nat} {ts : List T3} {o : List Int} {K : Nat} (h : DS w d ts o K) {a b : Nat} {x y : T3} (ha : a < ts.length) (hx : ts[a]? = some x) (hna : NoneLess ts a ts.length)
    (hb : b < (ts.eraseIdx a).length) (hy : (ts.eraseIdx a)[b]? = some y) (hnb : NoneLess (ts.eraseIdx a) b (ts.eraseIdx a).length) :
    DS w d ((ts.eraseIdx a).eraseIdx b ++ [((x.1.1 + y.1.1, K), x.2 ++ y.2)]) (inc o (x.2 ++ y.2)) (K + 1) ∧ x.1.1 + y.1.1 ≤ sumN wt (ini w) ∧ (∀ z ∈ x.2 ++ y.2, 0 ≤ z ∧ z < (w.length : Int)) ∧ (x.2 ++ y.2).length ≤ w.length := by
  obtain ⟨run0, run, dis, low, lv, ol, od, tot, cnt⟩ := h
  have hx' : ts[a] = x := by rw [List.getElem?_eq_getElem ha] at hx; exact Option.some.inj hx
  have hy' : (ts.eraseIdx a)[b] = y := by rw [List.getElem?_eq_getElem hb] at hy; exact Option.some.inj hy
  have p1 : (x :: ts.eraseIdx a).Perm ts := by rw [← hx']; exact erase_perm ts a ha
  have p2 : (y :: (ts.eraseIdx a).eraseIdx b).Perm (ts.eraseIdx a) := by rw [← hy']; exact erase_perm _ b hb
  have p : ts.Perm (x :: y :: (ts.eraseIdx a).eraseIdx b) := (p1.symm).trans (p2.symm.cons x)
  have l1 : ∀ t ∈ ts.eraseIdx a, lt x.1 t.1 := fun t ht => by
    have hd := (List.pairwise_cons.1 (dis.perm (show (trs ts).Perm (trs (x :: ts.eraseIdx a)) from (p1.symm).map _))).1 t.1 (List.mem_map.2 ⟨t, ht, rfl⟩)
    obtain ⟨j, hj, hjt⟩ := List.mem_iff_getElem.1 (p1.mem_iff.1 (List.mem_cons_of_mem _ ht))
    have := hna j t x hj (by rw [List.getElem?_eq_getElem hj, hjt]) hx
    rcases lt_or x.1 t.1 hd with h | h
    · exact h
    · exact absurd h this
  have dis1 : Dis (trs (ts.eraseIdx a)) := (List.pairwise_cons.1 (dis.perm (show (trs ts).Perm (trs (x :: ts.eraseIdx a)) from (p1.symm).map _))).2
  have l2 : ∀ t ∈ (ts.eraseIdx a).eraseIdx b, lt y.1 t.1 := fun t ht => by
    have hd := (List.pairwise_cons.1 (dis1.perm (show (trs (ts.eraseIdx a)).Perm (trs (y :: (ts.eraseIdx a).eraseIdx b)) from (p2.symm).map _))).1 t.1 (List.mem_map.2 ⟨t, ht, rfl⟩)
    obtain ⟨j, hj, hjt⟩ := List.mem_iff_getElem.1 (p2.mem_iff.1 (List.mem_cons_of_mem _ ht))
    have := hnb j t y hj (by rw [List.getElem?_eq_getElem hj, hjt]) hy
    rcases lt_or y.1 t.1 hd with h | h
    · exact h
    · exact absurd h this
  have hym : y ∈ ts.eraseIdx a := p2.mem_iff.1 (List.mem_cons_self ..)
  have hxm : x ∈ ts := p1.mem_iff.1 (List.mem_cons_self ..)
  have hyt : y ∈ ts := p1.mem_iff.1 (List.mem_cons_of_mem _ hym)
  have hrest : ∀ t ∈ (ts.eraseIdx a).eraseIdx b, t ∈ ts := fun t ht => p.mem_iff.2 (List.mem_cons_of_mem _ (List.mem_cons_of_mem _ ht))
  obtain ⟨run', dx, dy⟩ := run.next (show (trs ts).Perm (x.1 :: y.1 :: trs ((ts.eraseIdx a).eraseIdx b)) from p.map _) (l1 y hym) (fun t ht => by
    obtain ⟨t', ht', rfl⟩ := List.mem_map.1 ht
    exact l2 t' ht')
  have plv : (lvs ts).Perm (x.2 ++ (y.2 ++ lvs ((ts.eraseIdx a).eraseIdx b))) := p.flatMap_right _
  have hnd : (x.2 ++ (y.2 ++ lvs ((ts.eraseIdx a).eraseIdx b))).Nodup := plv.nodup_iff.1 (lv.nodup_iff.2 (range_nodup _))
  rw [← List.append_assoc] at hnd plv
  obtain ⟨n1, n2, n3⟩ := List.nodup_append.1 hnd
  have hall : ∀ z ∈ lvs ts, 0 ≤ z ∧ z < (w.length : Int) := fun z hz => by
    obtain ⟨i, hi, rfl⟩ := List.mem_map.1 (lv.mem_iff.1 hz)
    have := List.mem_range.1 hi
    omega
  have hz : ∀ z ∈ x.2 ++ y.2, 0 ≤ z ∧ z < (w.length : Int) := fun z hz => hall z (plv.mem_iff.2 (List.mem_append_left _ hz))
  have hinc : ∀ j, (inc o (x.2 ++ y.2)).getD j 0 = o.getD j 0 + if (j : Int) ∈ x.2 ++ y.2 then 1 else 0 := fun j => inc_at _ o j n1 (fun z h => by rw [ol]; exact hz z h)
  have hsum : sumN wt (trs ts) = x.1.1 + (y.1.1 + sumN wt (trs ((ts.eraseIdx a).eraseIdx b))) := by
    rw [sumN_perm wt (show (trs ts).Perm (x.1 :: y.1 :: trs ((ts.eraseIdx a).eraseIdx b)) from p.map _)]; rfl
  have hlen := p.length_eq
  simp only [List.length_cons] at hlen
  refine ⟨⟨run0, ?_, ?_, fun t ht => ?_, ?_, by rw [inc_len, ol], fun t ht z hzt => ?_, ?_, by simp; omega⟩, by omega, hz, ?_⟩
  · refine run'.perm ?_
    unfold trs
    rw [List.map_append]
    exact (List.perm_append_singleton _ _).symm
  · unfold trs
    rw [List.map_append]
    have hd2 := (List.pairwise_cons.1 (List.pairwise_cons.1 (dis.perm (show (trs ts).Perm (x.1 :: y.1 :: trs ((ts.eraseIdx a).eraseIdx b)) from p.map _))).2).2
    refine List.pairwise_append.2 ⟨hd2, List.pairwise_singleton _ _, fun t ht u hu => ?_⟩
    simp only [List.map_cons, List.map_nil, List.mem_singleton] at hu
    subst hu
    obtain ⟨t', ht', rfl⟩ := List.mem_map.1 ht
    have := low t' (hrest t' ht')
    simp only
    omega
  · rcases List.mem_append.1 ht with ht | ht
    · have := low t (hrest t ht); omega
    · rw [List.mem_singleton] at ht; subst ht; simp only; omega
  · have e : lvs ((ts.eraseIdx a).eraseIdx b ++ [((x.1.1 + y.1.1, K), x.2 ++ y.2)]) = lvs ((ts.eraseIdx a).eraseIdx b) ++ (x.2 ++ y.2) := by unfold lvs; simp
    rw [e]
    exact (List.perm_append_comm.trans plv.symm).trans lv
  · have ezn : ∀ z : Int, z ∈ lvs ts → ((z.toNat : Nat) : Int) = z := fun z hz => by have := hall z hz; omega
    rw [hinc]
    rcases List.mem_append.1 ht with ht | ht
    · have hzl : z ∈ lvs ((ts.eraseIdx a).eraseIdx b) := List.mem_flatMap.2 ⟨t, ht, hzt⟩
      have hzall : z ∈ lvs ts := plv.mem_iff.2 (List.mem_append_right _ hzl)
      have hno : z ∉ x.2 ++ y.2 := fun h => n3 z h z hzl rfl
      rw [ezn z hzall, if_neg hno, Int.add_zero]
      exact od t (hrest t ht) z hzt
    · rw [List.mem_singleton] at ht
      subst ht
      simp only at hzt ⊢
      have hzall : z ∈ lvs ts := plv.mem_iff.2 (List.mem_append_left _ hzt)
      rw [ezn z hzall, if_pos hzt]
      rcases List.mem_append.1 hzt with h | h
      · have := od x hxm z h
        rw [dx] at this
        omega
      · have := od y hyt z h
        rw [dy] at this
        omega
  · unfold trs
    rw [List.map_append, sumN_append, ← tot, hsum]
    simp only [List.map_cons, List.map_nil, sumN, wt]
    unfold trs
    omega
  · have := (plv.symm.trans lv).length_eq
    rw [List.length_append] at this
    simp only [List.length_map, List.length_range] at this
    omega
theorem DS.end_ {w : List Int} {d : Nat → Nat} {ts : List T3} {o : List Int} {K : Nat} (h : DS w d ts o K) (h1 : ts.length = 1) : DepP w o := by
  obtain ⟨t, rfl⟩ := List.length_eq_one_iff.1 h1
  have h0 := h.run.end_
  refine ⟨d, h.run0, ?_⟩
  apply List.ext_getElem
  · simp [h.ol]
  · intro i h2 h3
    have hi : i < w.length := by rw [← h.ol]; exact h2
    have hm : (i : Int) ∈ lvs [t] := h.mem.2 ⟨by omega, by omega⟩
    obtain ⟨t', ht', hx⟩ := List.mem_flatMap.1 hm
    rw [List.mem_singleton] at ht'
    subst ht'
    have := h.od t' (List.mem_singleton.2 rfl) _ hx
    rw [h0, Int.toNat_natCast, List.getD_eq_getElem?_getD, List.getElem?_eq_getElem h2] at this
    simp only [Option.getD_some] at this
    rw [List.getElem_map, List.getElem_range]
    omega
/-- Each symbol by itself. -/
def sgl (w : List Int) (k : Nat) : List T3 := (List.range k).map fun i => (((w.getD i 0).toNat, i), [(i : Int)])
theorem sgl_succ (w : List Int) (k : Nat) : sgl w (k + 1) = sgl w k ++ [(((w.getD k 0).toNat, k), [(k : Int)])] := by
  unfold sgl; rw [List.range_succ, List.map_append]; rfl
theorem sgl_len (w : List Int) (k : Nat) : (sgl w k).length = k := by simp [sgl]
theorem DS.start {w : List Int} (h1 : 1 ≤ w.length) : ∃ d, DS w d (sgl w w.length) (List.replicate w.length 0) w.length := by
  obtain ⟨d, hd⟩ := Run.exists (w.length - 1) w.length (ini w) (by rw [ini_len]; omega) (ini_dis w) (fun t ht => (ini_mem ht).1)
  have e : trs (sgl w w.length) = ini w := by unfold trs sgl ini; rw [List.map_map]; rfl
  refine ⟨d, ⟨hd, by rw [e]; exact hd, by rw [e]; exact ini_dis w, fun t ht => ?_, ?_, by simp, fun t ht x hx => ?_, by rw [e], by rw [sgl_len]; omega⟩⟩
  · obtain ⟨i, hi, rfl⟩ := List.mem_map.1 ht
    exact List.mem_range.1 hi
  · have e2 : ∀ k, lvs (sgl w k) = (List.range k).map (fun i : Nat => (i : Int)) := by
      intro k
      induction k with
      | zero => rfl
      | succ k ih =>
        rw [sgl_succ, List.range_succ, List.map_append, ← ih]
        unfold lvs
        simp
    rw [e2]
  · obtain ⟨i, hi, rfl⟩ := List.mem_map.1 ht
    simp only [List.mem_singleton] at hx
    subst hx
    have hi' := List.mem_range.1 hi
    rw [Int.toNat_natCast, List.getD_eq_getElem?_getD, List.getElem?_replicate, if_pos hi']
    simp
end HufM
end Go.Proofs.YtehmmogdboaofaaGreatDoor
namespace Go.Proofs.YtehmmogdboaofaaGreatDoor
open Go.RowKit HufM
set_option linter.unusedVariables false
def vlen : Value → Nat
  | .slice _ n _ => n
  | _ => 0
theorem one_int (W : World) (c : Int) : OwnI (W.alloc (.cells #[.int .i64 c] 3)) W.heap.size (.slice (some ⟨W.heap.size, 0, none⟩) 1 1) [c] :=
  ⟨rfl, Or.inr ⟨W.heap.size, 1, _, rfl, Nat.le_refl _, heap_alloc_new W _, Nat.le_refl _, by simp [maxLen], rfl, rfl⟩⟩
set_option maxRecDepth 100000 in
set_option maxHeartbeats 4000000 in
theorem rDepths_loc (v : Value) (zs : List Int) (w : World) (hv : IsInts w v zs) (h1 : 1 ≤ zs.length) (hz : zs.length ≤ 300) (hw : ∀ z ∈ zs, 0 ≤ z ∧ z ≤ 1099511627777) :
    Calls Tryz.prog 103 #[v] w fun e w' => ∃ (r : Value) (ds : List Int), e = .returned r ∧ IsInts w' r ds ∧ DepP zs ds ∧ Below w.heap.size w w' ∧ (∀ k, r.ownBlock = some k → w.heap.size ≤ k) := by
  have HV := Lib.hid hv
  have HW := Lib.hid hw
  obtain ⟨a, cap, rfl, _⟩ := hv
  obtain ⟨n, hn⟩ : ∃ n, zs.length = n := ⟨_, rfl⟩
  have HN := Lib.hid hn
  rw [hn] at h1 hz ⊢
  clear hw hn
  go_enter Tryz.func103, Tryz.ntmps103
  go_wp2_with fail
  go_loopw [4, 20] (fun vl vi wr => ∃ (k : Nat) (l : Value), vi = .int .i64 k ∧ k ≤ n ∧ l = vl ∧ OwnT 0 wr w.heap.size l (sgl zs k) ∧ Below w.heap.size w wr) (fun _ vi _ => n - (intOf vi).toNat)
  case atStart => exact ⟨0, _, rfl, by omega, rfl, OwnT.nil w _, Below.refl _ _⟩
  case round =>
    obtain ⟨k, l, rfl, hk, rfl, hO, hB⟩ := hrel
    have HO := Lib.hid hO
    have HB := Lib.hid hB
    obtain ⟨oa, oc, rfl⟩ := hO.slice
    rw [sgl_len] at HO ⊢
    clear hO hB
    by_cases hlk : k < n
    · have hki : (k : Int) < (n : Int) := by omega
      obtain ⟨b1, o1, k1, he1, c1⟩ := HV.out.cell (show k < zs.length by rw [HN.out]; exact hlk)
      rw [HN.out] at he1
      simp only [Value.slice.injEq] at he1
      obtain ⟨rfl, _, rfl⟩ := he1
      have c1 := (HB.out.cell (cell_lt c1)).trans c1
      have hx2 := HW.out _ (getD_mem (show k < zs.length by rw [HN.out]; exact hlk))
      have hs := sgl_succ zs k
      obtain ⟨X, hX⟩ : ∃ X : Nat, zs.getD k 0 = (X : Int) := ⟨(zs.getD k 0).toNat, by omega⟩
      rw [hX] at c1 hx2 hs
      rw [Int.toNat_natCast] at hs
      have HS := Lib.hid hs
      have W0 : Hid (Below wr.heap.size wr (wr.alloc (.cells #[.int .i64 (k : Int)] 3))) := Lib.hid ((Below.refl _ wr).alloc (Nat.le_refl _) _)
      have HO2 : Hid (OwnT 0 (wr.alloc (.cells #[.int .i64 (k : Int)] 3)) w.heap.size (.slice oa k oc) (sgl zs k)) := Lib.hid (HO.out.below W0.out)
      have HU2 : Hid (OwnI (wr.alloc (.cells #[.int .i64 (k : Int)] 3)) 0 (.slice (some ⟨wr.heap.size, 0, none⟩) 1 1) [(k : Int)]) := Lib.hid ((one_int wr k).lower (Nat.zero_le _))
      have hpos : 0 < w.heap.size := by have := cell_lt ((HV.out.cell (show k < zs.length by rw [HN.out]; exact hlk)).choose_spec.choose_spec.choose_spec.2); omega
      have HB2 := HB.out.size
      clear hs hX
      have hbase : Hid (w.heap.size ≤ (wr.alloc (.cells #[.int .i64 (k : Int)] 3)).heap.size) := Lib.hid (by
        have : (wr.alloc (.cells #[.int .i64 (k : Int)] 3)).heap.size = wr.heap.size + 1 := by simp
        omega)
      have hux : Hid ((Value.slice (some ⟨wr.heap.size, 0, none⟩) 1 1).ownBlock ≠ some 0) := Lib.hid (fun e => by simp only [Value.ownBlock, Option.some.injEq] at e; omega)
      have hgs : Hid ((wr.alloc (.cells #[.int .i64 (k : Int)] 3)).heap.size = wr.heap.size + 1) := Lib.hid (by simp)
      have hll : Hid ((sgl zs k).length + 1 ≤ 1000000) := Lib.hid (by rw [sgl_len]; omega)
      go_wp2_with (at_builtin; go_loud (refine push_tree (wr.alloc (.cells #[.int .i64 (k : Int)] 3)) rfl _ _ rfl w.heap.size (wr.heap.size + 1) hgs.out (.slice oa k oc) (sgl zs k) ((X, k), [(k : Int)]) (.slice (some ⟨wr.heap.size, 0, none⟩) 1 1) HO2.out HU2.out hux.out rfl rfl hll.out hbase.out ?_))
      intro v' w' hown hb
      have HOWN := Lib.hid hown
      have HBB : Hid (Below w.heap.size w w') := Lib.hid ((HB.out.alloc HB.out.size _).trans hb)
      clear hown hb
      go_wp2_with fail
      go_roundw
      case rel => exact ⟨k + 1, _, by go_num, by omega, rfl, by rw [HS.out]; exact HOWN.out, HBB.out⟩
      case measure => simp [intOf]; omega
    · have hki : ¬ (k : Int) < (n : Int) := by omega
      obtain rfl : n = k := by omega
      obtain ⟨g, hg⟩ : ∃ g, wr.heap.size = g := ⟨_, rfl⟩
      have hmk := make_ints n (by omega) wr
      have HR0 := Lib.hid (RowI.made wr n)
      have W0 : Hid (Below wr.heap.size wr (wr.alloc (.cells (madeCells #[Value.int .i64 0] n) 3))) := Lib.hid ((Below.refl _ wr).alloc (Nat.le_refl _) _)
      have HO2 : Hid (OwnT g (wr.alloc (.cells (madeCells #[Value.int .i64 0] n) 3)) w.heap.size (.slice oa n oc) (sgl zs n)) := Lib.hid ((HO.out.new (by omega)).below W0.out)
      have HB2 : Hid (Below w.heap.size w (wr.alloc (.cells (madeCells #[Value.int .i64 0] n) 3))) := Lib.hid (HB.out.alloc HB.out.size _)
      have hgw : Hid (w.heap.size ≤ g) := Lib.hid (by rw [← hg]; exact HB.out.size)
      rw [hg] at hmk HR0
      obtain ⟨d, hds⟩ := DS.start (w := zs) (by rw [HN.out]; exact h1)
      rw [HN.out] at hds
      have HDS := Lib.hid hds
      have hT : Hid (sumN wt (ini zs) ≤ 1099511627777 * 300) := Lib.hid (by
        have := sumN_le (f := wt) (l := ini zs) (c := 1099511627777) (fun t ht => by
          obtain ⟨h3, h4⟩ := ini_mem ht
          have h5 := (HW.out (zs.getD t.2 0) (getD_mem h3)).2
          show t.1 ≤ _
          omega)
        rw [ini_len, HN.out] at this
        exact Nat.le_trans this (Nat.mul_le_mul_left _ hz))
      clear hg hds
      go_wp2_with fail
      generalize wr.alloc (.cells (madeCells #[Value.int .i64 0] n) 3) = w2 at *
      clear hmk
      go_wp2_with fail
      go_loopw [4, 8, 9, 10, 11, 12, 13] (fun vl vx _ _ _ _ _ wr => ∃ (ts : List T3) (o : List Int) (K : Nat) (l : Value) (base : Nat), l = vl ∧ vx = .int .i64 K ∧ OwnT g wr base l ts ∧ DS zs d ts o K ∧ RowI wr g o ∧ 1 ≤ ts.length ∧ Below w.heap.size w wr) (fun vl _ _ _ _ _ _ _ => vlen vl)
      case atStart => exact ⟨_, _, n, _, _, rfl, rfl, HO2.out, HDS.out, HR0.out, by rw [sgl_len]; exact h1, HB2.out⟩
      case round =>
        obtain ⟨ts, o, K, l, base, rfl, rfl, hO, hD, hR, hl1, hB⟩ := hrel
        obtain ⟨la, lc, rfl⟩ := hO.slice
        obtain ⟨m, hm⟩ : ∃ m, ts.length = m := ⟨_, rfl⟩
        have HO := Lib.hid hO
        have HD := Lib.hid hD
        have HR := Lib.hid hR
        have HB := Lib.hid hB
        have HM := Lib.hid hm
        have hcnt := hD.cnt
        rw [HN.out, hm] at hcnt
        rw [hm] at HO hl1 ⊢
        clear hO hD hR hB hm
        by_cases hm2 : 1 < m
        · have hm2i : (1 : Int) < (m : Int) := by omega
          go_wp2_with fail
          refine (tleast_any _ ts _ base HO.out (by rw [HM.out]; omega) (by rw [HM.out]; omega)).mono ?_
          rintro e w3 ⟨ia, rfl, hia, hna, hb3⟩
          rw [HM.out] at hia
          obtain ⟨x, hx⟩ : ∃ x, ts[ia]? = some x := ⟨_, List.getElem?_eq_getElem (by rw [HM.out]; exact hia)⟩
          have HO3 := Lib.hid (HO.out.below hb3)
          have HR3 := Lib.hid (HR.out.below hb3)
          have HB3 := Lib.hid (HB.out.trans (hb3.mono HB.out.size))
          obtain ⟨gx, cx, ux, he, hgx, x0, x1, x2, hox, hoxx⟩ := HO3.out.at hx
          rw [HM.out] at he
          simp only [Value.slice.injEq] at he
          obtain ⟨rfl, _, rfl⟩ := he
          obtain ⟨xa, xc, rfl⟩ := hox.slice
          have HX := Lib.hid hx
          have HNA := Lib.hid hna
          have HOX := Lib.hid hox
          have hiai : (ia : Int) < (m : Int) := by omega
          have hia3 : ia * 3 < 3000 := by omega
          clear hx hna hb3 hox
          obtain ⟨w4, hw4⟩ : ∃ w4, w3.alloc (.cells #[.int .i64 (x.1.1 : Int), .int .i64 (x.1.2 : Int), .slice xa x.2.length xc] 144) = w4 := ⟨_, rfl⟩
          have b34 : Below w3.heap.size w3 w4 := by rw [← hw4]; exact (Below.refl _ w3).alloc (Nat.le_refl _) _
          have hX4 : Hid (w4.heap[w3.heap.size]? = some (.cells #[.int .i64 (x.1.1 : Int), .int .i64 (x.1.2 : Int), .slice xa x.2.length xc] 144 (0, 0))) := Lib.hid (by rw [← hw4]; exact heap_alloc_new w3 _)
          have HO4 := Lib.hid (HO3.out.below b34)
          have HR4 := Lib.hid (HR3.out.below b34)
          have HB4 := Lib.hid (HB3.out.trans (b34.mono HB3.out.size))
          have HOX4 := Lib.hid (HOX.out.below b34)
          obtain ⟨px, hpx⟩ : ∃ px, w3.heap.size = px := ⟨_, rfl⟩
          rw [hpx] at hX4
          have hpx4 : Hid (px < w4.heap.size) := Lib.hid (Array.getElem?_eq_some_iff.1 hX4.out).1
          have HPX := Lib.hid hpx
          clear b34
          go_wp2_with fail
          clear hw4 hpx
          refine (twithout_any _ ts ia w4 base HO4.out (by rw [HM.out]; exact hia) (by rw [HM.out]; omega)).mono ?_
          rintro e w5 ⟨r5, rfl, ho5, hb5⟩
          have hl5 : (ts.eraseIdx ia).length = m - 1 := by rw [List.length_eraseIdx_of_lt (by rw [HM.out]; exact hia), HM.out]
          obtain ⟨l5a, l5c, rfl⟩ := ho5.slice
          have HL5 := Lib.hid hl5
          rw [hl5] at ho5 ⊢
          obtain ⟨m5, hm5⟩ : ∃ m5, m - 1 = m5 := ⟨_, rfl⟩
          rw [hm5] at ho5 HL5 ⊢
          have hm51 : 1 ≤ m5 := by omega
          have hm52 : m5 + 1 = m := by omega
          have HM5 := Lib.hid hm52
          have hm5b : m5 ≤ 1000 := by omega
          have HO5 := Lib.hid ho5
          have HR5 := Lib.hid (HR4.out.below hb5)
          have HB5 := Lib.hid (HB4.out.trans (hb5.mono HB4.out.size))
          have HOX5 := Lib.hid (HOX4.out.below hb5)
          have hX5 : Hid (w5.heap[px]? = some (.cells #[.int .i64 (x.1.1 : Int), .int .i64 (x.1.2 : Int), .slice xa x.2.length xc] 144 (0, 0))) := Lib.hid ((hb5.block px hpx4.out).trans hX4.out)
          clear ho5 hb5 hl5 hm5 hm52 x0 x1 x2
          go_wp2_with fail
          refine (tleast_any _ (ts.eraseIdx ia) _ _ HO5.out (by rw [HL5.out]; omega) (by rw [HL5.out]; omega)).mono ?_
          rintro e w6 ⟨ib, rfl, hib, hnb, hb6⟩
          rw [HL5.out] at hib
          obtain ⟨y, hy⟩ : ∃ y, (ts.eraseIdx ia)[ib]? = some y := ⟨_, List.getElem?_eq_getElem (by rw [HL5.out]; exact hib)⟩
          have HO6 := Lib.hid (HO5.out.below hb6)
          have HR6 := Lib.hid (HR5.out.below hb6)
          have HB6 := Lib.hid (HB5.out.trans (hb6.mono HB5.out.size))
          have HOX6 := Lib.hid (HOX5.out.below hb6)
          have hX6 : Hid (w6.heap[px]? = some (.cells #[.int .i64 (x.1.1 : Int), .int .i64 (x.1.2 : Int), .slice xa x.2.length xc] 144 (0, 0))) := Lib.hid ((hb6.block px ((Array.getElem?_eq_some_iff.1 hX5.out).1)).trans hX5.out)
          obtain ⟨gy, cy, uy, he, hgy, y0, y1, y2, hoy, hoyx⟩ := HO6.out.at hy
          rw [HL5.out] at he
          simp only [Value.slice.injEq] at he
          obtain ⟨rfl, _, rfl⟩ := he
          obtain ⟨ya, yc, rfl⟩ := hoy.slice
          have HY := Lib.hid hy
          have HNB := Lib.hid hnb
          have HOY := Lib.hid hoy
          have hibi : (ib : Int) < (m5 : Int) := by omega
          have hib3 : ib * 3 < 3000 := by omega
          clear hy hnb hb6 hoy
          obtain ⟨w7, hw7⟩ : ∃ w7, w6.alloc (.cells #[.int .i64 (y.1.1 : Int), .int .i64 (y.1.2 : Int), .slice ya y.2.length yc] 144) = w7 := ⟨_, rfl⟩
          have b67 : Below w6.heap.size w6 w7 := by rw [← hw7]; exact (Below.refl _ w6).alloc (Nat.le_refl _) _
          have hY7 : Hid (w7.heap[w6.heap.size]? = some (.cells #[.int .i64 (y.1.1 : Int), .int .i64 (y.1.2 : Int), .slice ya y.2.length yc] 144 (0, 0))) := Lib.hid (by rw [← hw7]; exact heap_alloc_new w6 _)
          have HO7 := Lib.hid (HO6.out.below b67)
          have HR7 := Lib.hid (HR6.out.below b67)
          have HB7 := Lib.hid (HB6.out.trans (b67.mono HB6.out.size))
          have HOX7 := Lib.hid (HOX6.out.below b67)
          have HOY7 := Lib.hid (HOY.out.below b67)
          have hX7 : Hid (w7.heap[px]? = some (.cells #[.int .i64 (x.1.1 : Int), .int .i64 (x.1.2 : Int), .slice xa x.2.length xc] 144 (0, 0))) := Lib.hid ((b67.block px ((Array.getElem?_eq_some_iff.1 hX6.out).1)).trans hX6.out)
          obtain ⟨py, hpy⟩ : ∃ py, w6.heap.size = py := ⟨_, rfl⟩
          rw [hpy] at hY7
          have HPY := Lib.hid hpy
          clear b67
          go_wp2_with fail
          clear hw7 hpy
          refine (twithout_any _ (ts.eraseIdx ia) ib w7 _ HO7.out (by rw [HL5.out]; exact hib) (by rw [HL5.out]; omega)).mono ?_
          rintro e w8 ⟨r8, rfl, ho8, hb8⟩
          have hl8 : ((ts.eraseIdx ia).eraseIdx ib).length = m5 - 1 := by rw [List.length_eraseIdx_of_lt (by rw [HL5.out]; exact hib), HL5.out]
          obtain ⟨l8a, l8c, rfl⟩ := ho8.slice
          have HL8 := Lib.hid hl8
          rw [hl8] at ho8 ⊢
          obtain ⟨m8, hm8⟩ : ∃ m8, m5 - 1 = m8 := ⟨_, rfl⟩
          rw [hm8] at ho8 HL8 ⊢
          have hm82 : m8 + 1 = m5 := by omega
          have HM8 := Lib.hid hm82
          have hm8b : m8 ≤ 1000 := by omega
          have hg7 : Hid (g < w7.heap.size) := Lib.hid HR7.out.lt
          have HO8 := Lib.hid ho8
          have HR8 := Lib.hid (HR7.out.below hb8)
          have HB8 := Lib.hid (HB7.out.trans (hb8.mono HB7.out.size))
          have HOX8 := Lib.hid (HOX7.out.below hb8)
          have HOY8 := Lib.hid (HOY7.out.below hb8)
          have hX8 : Hid (w8.heap[px]? = some (.cells #[.int .i64 (x.1.1 : Int), .int .i64 (x.1.2 : Int), .slice xa x.2.length xc] 144 (0, 0))) := Lib.hid ((hb8.block px ((Array.getElem?_eq_some_iff.1 hX7.out).1)).trans hX7.out)
          have hY8 : Hid (w8.heap[py]? = some (.cells #[.int .i64 (y.1.1 : Int), .int .i64 (y.1.2 : Int), .slice ya y.2.length yc] 144 (0, 0))) := Lib.hid ((hb8.block py ((Array.getElem?_eq_some_iff.1 hY7.out).1)).trans hY7.out)
          have hsz8 : Hid (w7.heap.size ≤ w8.heap.size) := Lib.hid hb8.size
          obtain ⟨hDS2, hsum, hzr, hzl⟩ := HD.out.step (by rw [HM.out]; exact hia) HX.out HNA.out (by rw [HL5.out]; exact hib) HY.out HNB.out
          have x2 : w8.cell? ⟨px, 2, none⟩ = some (.slice xa x.2.length xc) := by rw [cell_of_row _ _ _ _ _ _ hX8.out]; rfl
          have y2' : w8.cell? ⟨py, 2, none⟩ = some (.slice ya y.2.length yc) := by rw [cell_of_row _ _ _ _ _ _ hY8.out]; rfl
          have HDS2 := Lib.hid hDS2
          have HZR := Lib.hid hzr
          rw [List.length_append, HN.out] at hzl
          have hsumb : x.1.1 + y.1.1 ≤ 400000000000000 := by have := hT.out; omega
          clear ho8 hb8 hl8 hm8 hm82 y0 y1 y2 hDS2 hzr hsum
          go_wp2_with (at_builtin; go_loud (refine push_own w8 rfl _ _ rfl w8.heap.size (.slice none 0 0) [] 0 (.slice xa x.2.length xc) x.2 (OwnI.nil w8 _) HOX8.out rfl rfl (by simp; omega) (Nat.le_refl _) ?_))
          intro v9 w9 hown9 hb9
          have HOWN9 : Hid (OwnI w9 w8.heap.size v9 x.2) := Lib.hid hown9
          obtain ⟨a9, c9, rfl⟩ := hown9.slice
          have hOX9 := HOY8.out.below hb9
          have hY9 : w9.heap[py]? = some (.cells #[.int .i64 (y.1.1 : Int), .int .i64 (y.1.2 : Int), .slice ya y.2.length yc] 144 (0, 0)) := (hb9.block py ((Array.getElem?_eq_some_iff.1 hY8.out).1)).trans hY8.out
          have y2 : w9.cell? ⟨py, 2, none⟩ = some (.slice ya y.2.length yc) := by rw [cell_of_row _ _ _ _ _ _ hY9]; rfl
          have HOY9 := Lib.hid hOX9
          have HB89 := Lib.hid hb9
          have hs89 := hb9.size
          clear hown9 hb9 hOX9 hY9 y2' x2
          go_wp2_with (at_builtin; go_loud (refine push_own w9 rfl _ _ rfl w8.heap.size (.slice a9 x.2.length c9) x.2 0 (.slice ya y.2.length yc) y.2 HOWN9.out HOY9.out rfl rfl (by omega) hs89 ?_))
          intro v10 w10 hown10 hb10
          have b810 : Below w8.heap.size w8 w10 := HB89.out.trans hb10
          obtain ⟨L, hL⟩ : ∃ L, x.2 ++ y.2 = L := ⟨_, rfl⟩
          rw [hL] at hown10 HDS2 HZR
          have hLn : L.length ≤ n := by rw [← hL, List.length_append]; exact hzl
          have HLL := Lib.hid hL
          have HOWN10 : Hid (OwnI w10 w8.heap.size v10 L) := Lib.hid hown10
          obtain ⟨a10, c10, rfl⟩ := hown10.slice
          have HO10 := Lib.hid (HO8.out.below b810)
          have HR10 := Lib.hid (HR8.out.below b810)
          have HB10 : Hid (Below w.heap.size w w10) := Lib.hid (HB8.out.trans (b810.mono HB8.out.size))
          have hX10 : Hid (w10.heap[px]? = some (.cells #[.int .i64 (x.1.1 : Int), .int .i64 (x.1.2 : Int), .slice xa x.2.length xc] 144 (0, 0))) := Lib.hid ((b810.block px ((Array.getElem?_eq_some_iff.1 hX8.out).1)).trans hX8.out)
          have hY10 : Hid (w10.heap[py]? = some (.cells #[.int .i64 (y.1.1 : Int), .int .i64 (y.1.2 : Int), .slice ya y.2.length yc] 144 (0, 0))) := Lib.hid ((b810.block py ((Array.getElem?_eq_some_iff.1 hY8.out).1)).trans hY8.out)
          have hg8 : Hid (g < w8.heap.size) := Lib.hid HR8.out.lt
          have hs810 : Hid (w8.heap.size ≤ w10.heap.size) := Lib.hid b810.size
          have hpxg : Hid (px ≠ g) := Lib.hid (fun e => by
            have h1 := hX10.out
            have h2 := HR10.out
            subst e
            unfold RowI at h2
            rw [h1] at h2
            simp at h2)
          have hpyg : Hid (py ≠ g) := Lib.hid (fun e => by
            have h1 := hY10.out
            have h2 := HR10.out
            subst e
            unfold RowI at h2
            rw [h1] at h2
            simp at h2)
          clear hown10 hb10 b810 hL y2 hs89 hzl
          go_wp2_with fail
          go_loopw [68] (fun vi wr => ∃ k : Nat, vi = .int .i64 k ∧ k ≤ L.length ∧ RowI wr g (inc o (L.take k)) ∧ Touch (· = g) w10 wr) (fun vi _ => L.length - (intOf vi).toNat)
          case atStart => exact ⟨0, rfl, by omega, HR10.out, Touch.refl _ _⟩
          case round =>
            obtain ⟨k, rfl, hk, hR, hT⟩ := hrel
            have HRK := Lib.hid hR
            have HTK := Lib.hid hT
            have HLK : Hid (OwnI wr w8.heap.size (.slice a10 L.length c10) L) := Lib.hid (HOWN10.out.same (fun j hj => hT.block j (World.ownsRow.lt HOWN10.out j hj).2 (fun e => by
              have e' : j = g := e
              have := (World.ownsRow.lt HOWN10.out j hj).1
              have := hg8.out
              omega)))
            clear hR hT
            by_cases hlk : k < L.length
            · have hki : (k : Int) < (L.length : Int) := by omega
              obtain ⟨b1, o1, k1, he1, c1⟩ := HLK.out.ints.cell hlk
              simp only [Value.slice.injEq] at he1
              obtain ⟨rfl, _, rfl⟩ := he1
              have hzk := HZR.out _ (getD_mem hlk)
              rw [HN.out] at hzk
              have hit := inc_take o L hlk
              obtain ⟨z, hz2⟩ : ∃ z : Nat, L.getD k 0 = (z : Int) := ⟨(L.getD k 0).toNat, by omega⟩
              rw [hz2] at c1 hzk hit
              rw [Int.toNat_natCast] at hit
              have hzn : z < n := by omega
              have hzni : (z : Int) < (n : Int) := by omega
              have hol : (inc o (L.take k)).length = n := by rw [inc_len, HD.out.ol, HN.out]
              obtain ⟨c2, f2, hset⟩ := RowI.cell HRK.out (i := z) (by rw [hol]; exact hzn)
              have hnear := inc_near (L.take k) o z
              have hnear2 := HD.out.near (i := z) (by rw [HN.out]; exact hzn)
              rw [List.length_take] at hnear
              rw [HN.out, HM.out] at hnear2
              obtain ⟨V, hV⟩ : ∃ V, (inc o (L.take k)).getD z 0 = V := ⟨_, rfl⟩
              rw [hV] at c2 hit hnear
              have hVb : V ≤ 2000 := by omega
              have hVb2 : -2000 ≤ V := by omega
              have HNEXT : Hid (RowI (wr.setCell ⟨g, z, none⟩ (.int .i64 (V + 1))) g (inc o (L.take (k + 1)))) := Lib.hid (by rw [hit]; exact hset (V + 1))
              have HTN : Hid (Touch (· = g) w10 (wr.setCell ⟨g, z, none⟩ (.int .i64 (V + 1)))) := Lib.hid (touch_cell HTK.out)
              clear hz2 hit hset hnear hnear2 hV hol
              go_wp2_with fail
              go_roundw
              case rel => exact ⟨k + 1, by go_num, by omega, HNEXT.out, HTN.out⟩
              case measure => simp [intOf]; omega
            · have hki : ¬ (k : Int) < (L.length : Int) := by omega
              have hRL : Hid (RowI wr g (inc o L)) := Lib.hid (by have := HRK.out; rw [List.take_of_length_le (by omega)] at this; exact this)
              have HOL : Hid (OwnT g wr w7.heap.size (.slice l8a m8 l8c) ((ts.eraseIdx ia).eraseIdx ib)) := Lib.hid (HO10.out.set HR10.out HTK.out)
              have hXL : wr.heap[px]? = some (.cells #[.int .i64 (x.1.1 : Int), .int .i64 (x.1.2 : Int), .slice xa x.2.length xc] 144 (0, 0)) := (HTK.out.block px ((Array.getElem?_eq_some_iff.1 hX10.out).1) hpxg.out).trans hX10.out
              have hYL : wr.heap[py]? = some (.cells #[.int .i64 (y.1.1 : Int), .int .i64 (y.1.2 : Int), .slice ya y.2.length yc] 144 (0, 0)) := (HTK.out.block py ((Array.getElem?_eq_some_iff.1 hY10.out).1) hpyg.out).trans hY10.out
              have q1 : wr.cell? ⟨px, 0, none⟩ = some (.int .i64 (x.1.1 : Int)) := by rw [cell_of_row _ _ _ _ _ _ hXL]; rfl
              have q2 : wr.cell? ⟨py, 0, none⟩ = some (.int .i64 (y.1.1 : Int)) := by rw [cell_of_row _ _ _ _ _ _ hYL]; rfl
              obtain ⟨S, hS⟩ : ∃ S, x.1.1 + y.1.1 = S := ⟨_, rfl⟩
              have hSI : (x.1.1 : Int) + (y.1.1 : Int) = (S : Int) := by omega
              have hSb : S ≤ 400000000000000 := by omega
              have HDS3 : Hid (DS zs d ((ts.eraseIdx ia).eraseIdx ib ++ [((S, K), L)]) (inc o L) (K + 1)) := Lib.hid (by rw [← hS]; exact HDS2.out)
              have hux : Hid ((Value.slice a10 L.length c10).ownBlock ≠ some g) := Lib.hid (fun e => by
                have := (World.ownsRow.lt HOWN10.out g e).1
                have := hg8.out
                omega)
              have HUL : Hid (OwnI wr 0 (.slice a10 L.length c10) L) := Lib.hid (HLK.out.lower (Nat.zero_le _))
              have hbase : Hid (w7.heap.size ≤ wr.heap.size) := Lib.hid (by have := HTK.out.size; have := hs810.out; have := hsz8.out; omega)
              have HBL : Hid (Below w.heap.size w wr) := Lib.hid (HB10.out.trans (HTK.out.below (B := w.heap.size) HB10.out.size (fun i hi => by have e : i = g := hi; have := hgw.out; omega)))
              have hll : Hid (((ts.eraseIdx ia).eraseIdx ib).length + 1 ≤ 1000000) := Lib.hid (by rw [HL8.out]; omega)
              have HSS := Lib.hid hS
              have hw7w : Hid (w.heap.size ≤ w7.heap.size) := Lib.hid (by have := hgw.out; have := hg7.out; omega)
              clear hXL hYL hS
              go_wp2_with (at_builtin; go_loud (refine push_tree wr rfl _ _ rfl w7.heap.size wr.heap.size rfl (.slice l8a m8 l8c) ((ts.eraseIdx ia).eraseIdx ib) ((S, K), L) (.slice a10 L.length c10) HOL.out HUL.out hux.out rfl rfl hll.out hbase.out ?_))
              intro v12 w12 hown12 hb12
              have HOWN12 := Lib.hid hown12
              have HR12 : Hid (RowI w12 g (inc o L)) := Lib.hid ((hb12.block g hg7.out).trans hRL.out)
              have HB12 : Hid (Below w.heap.size w w12) := Lib.hid (HBL.out.trans (hb12.mono hw7w.out))
              have hv12 : Hid (vlen v12 = m8 + 1) := Lib.hid (by
                obtain ⟨a12, c12, rfl⟩ := hown12.slice
                show ((ts.eraseIdx ia).eraseIdx ib ++ [((S, K), L)]).length = m8 + 1
                rw [List.length_append, HL8.out]; rfl)
              clear hown12 hb12
              go_wp2_with fail
              go_roundw
              case rel => exact ⟨_, _, K + 1, _, w7.heap.size, rfl, by go_num, HOWN12.out, HDS3.out, HR12.out, by simp, HB12.out⟩
              case measure =>
                rw [hv12.out]
                show m8 + 1 < m
                have := HM8.out
                have := HM5.out
                omega
        · have hm2i : ¬ (1 : Int) < (m : Int) := by omega
          have hdep : Hid (DepP zs o) := Lib.hid (HD.out.end_ (by rw [HM.out]; omega))
          have hIo : Hid (IsInts wr (.slice (some ⟨g, 0, none⟩) n n) o) := Lib.hid (HR.out.ints n n (by rw [HD.out.ol, HN.out]))
          go_wp2_with fail
          go_ret
          have hloc : ∀ k, (Value.slice (some ⟨g, 0, none⟩) n n).ownBlock = some k → w.heap.size ≤ k := fun k hk => by
            simp only [Value.ownBlock, Option.some.injEq] at hk
            have := hgw.out
            omega
          first
            | exact ⟨_, o, rfl, hIo.out, hdep.out, HB.out, hloc⟩
            | exact ⟨_, rfl, o, hIo.out, hdep.out, HB.out, hloc⟩
theorem rDepths_any (v : Value) (zs : List Int) (w : World) (hv : IsInts w v zs) (h1 : 1 ≤ zs.length) (hz : zs.length ≤ 300) (hw : ∀ z ∈ zs, 0 ≤ z ∧ z ≤ 1099511627777) :
    Calls Tryz.prog 103 #[v] w fun e w' => ∃ (r : Value) (ds : List Int), e = .returned r ∧ IsInts w' r ds ∧ DepP zs ds ∧ Below w.heap.size w w' := by
  refine (rDepths_loc v zs w hv h1 hz hw).mono ?_
  rintro e w' ⟨r, ds, h1, h2, h3, h4, _⟩
  exact ⟨r, ds, h1, h2, h3, h4⟩
end Go.Proofs.YtehmmogdboaofaaGreatDoor
namespace Go.Proofs.YtehmmogdboaofaaGreatDoor
open Go.RowKit HufM
set_option linter.unusedVariables false
set_option maxRecDepth 100000 in
set_option maxHeartbeats 2000000 in
theorem rHalved_any (v : Value) (zs : List Int) (w : World) (hv : IsInts w v zs) (hz : zs.length ≤ 1000000) (hb : ∀ z ∈ zs, z ≤ 9223372036854775807) :
    Calls Tryz.prog 105 #[v] w fun e w' => ∃ r, e = .returned r ∧ IsInts w' r (hvs zs) ∧ Below w.heap.size w w' := by
  have HV := Lib.hid hv
  have HBD := Lib.hid hb
  obtain ⟨a, cap, rfl, _⟩ := hv
  obtain ⟨N, hN⟩ : ∃ N, zs.length = N := ⟨_, rfl⟩
  have HN := Lib.hid hN
  rw [hN] at hz ⊢
  clear hb hN
  go_enter Tryz.func105, Tryz.ntmps105
  go_wp2_with fail
  go_loopw [3, 5, 8] (fun vo _ vi wr => ∃ (k : Nat) (o : Value), vi = .int .i64 k ∧ k ≤ N ∧ o = vo ∧ OwnI wr w.heap.size o (hvs (zs.take k)) ∧ Below w.heap.size w wr) (fun _ _ vi _ => N - (intOf vi).toNat)
  case atStart => exact ⟨0, _, rfl, by omega, rfl, OwnI.nil _ _, Below.refl _ _⟩
  case round =>
    obtain ⟨k, o, rfl, hk, rfl, hO, hB⟩ := hrel
    have HO := Lib.hid hO
    have HB := Lib.hid hB
    have HBS := hB.size
    obtain ⟨oa, oc, rfl⟩ := hO.slice
    have hlen : (hvs (zs.take k)).length = k := by rw [hvs_len, List.length_take, HN.out]; omega
    rw [hlen] at HO ⊢
    by_cases hlk : k < N
    · have hki : (k : Int) < (N : Int) := by omega
      have hlz : k < zs.length := by rw [HN.out]; exact hlk
      obtain ⟨b1, o1, k1, he1, c1⟩ := HV.out.cell hlz
      rw [HN.out] at he1
      simp only [Value.slice.injEq] at he1
      obtain ⟨rfl, _, rfl⟩ := he1
      have c1 := (HB.out.cell (cell_lt c1)).trans c1
      obtain ⟨x, hx⟩ : ∃ x, zs.getD k 0 = x := ⟨_, rfl⟩
      rw [hx] at c1
      have hxb : x ≤ 9223372036854775807 := by rw [← hx]; exact HBD.out _ (getD_mem hlz)
      have h3 : Hid (hvs (zs.take (k + 1)) = hvs (zs.take k) ++ [hv x]) := Lib.hid (by
        unfold hvs
        rw [List.take_add_one, List.map_append, List.getElem?_eq_getElem hlz]
        have hx2 : zs[k] = x := by rw [← hx, List.getD_eq_getElem?_getD, List.getElem?_eq_getElem hlz]; rfl
        simp only [Option.toList_some, List.map_cons, List.map_nil, hx2])
      have HLEN := Lib.hid hlen
      clear hO hB hx hlen hlz
      by_cases hx0 : x < 0
      · have hz0 : Hid (hv x = 1) := Lib.hid (by unfold hv; rw [if_pos hx0]; rfl)
        have hq : IntKind.i64.wrap (0 / 2) = 0 := by decide
        go_wp2_with (at_builtin; go_loud (refine push_int wr rfl _ _ rfl w.heap.size (.slice oa k oc) (hvs (zs.take k)) 1 HO.out rfl rfl (by rw [HLEN.out]; omega) HBS ?_))
        intro v' w' hown hb
        have HOWN := Lib.hid hown
        have HBB := Lib.hid (HB.out.trans hb)
        clear hown hb
        go_wp2_with fail
        go_roundw
        case rel => exact ⟨k + 1, _, by go_num, by omega, rfl, by rw [h3.out, hz0.out]; exact HOWN.out, HBB.out⟩
        case measure => simp [intOf]; omega
      · have hz0 : Hid (hv x = x / 2 + 1) := Lib.hid (by unfold hv; rw [if_neg hx0])
        have hx1 : 0 ≤ x := by omega
        have hq : IntKind.i64.wrap (x / 2) = x / 2 := IntWalk.i64_in _ (by omega)
        go_wp2_with (at_builtin; go_loud (refine push_int wr rfl _ _ rfl w.heap.size (.slice oa k oc) (hvs (zs.take k)) (x / 2 + 1) HO.out rfl rfl (by rw [HLEN.out]; omega) HBS ?_))
        intro v' w' hown hb
        have HOWN := Lib.hid hown
        have HBB := Lib.hid (HB.out.trans hb)
        clear hown hb
        go_wp2_with fail
        go_roundw
        case rel => exact ⟨k + 1, _, by go_num, by omega, rfl, by rw [h3.out, hz0.out]; exact HOWN.out, HBB.out⟩
        case measure => simp [intOf]; omega
    · have hki : ¬ (k : Int) < (N : Int) := by omega
      obtain rfl : N = k := by omega
      have e : hvs (zs.take N) = hvs zs := by rw [List.take_of_length_le (Nat.le_of_eq HN.out)]
      rw [e] at HO
      clear e hO hB hlen
      go_wp2_with fail
      go_ret
      exact ⟨_, rfl, HO.out.ints, HB.out⟩
set_option maxRecDepth 100000 in
set_option maxHeartbeats 2000000 in
theorem rOf9_loc (v : Value) (zs rs : List Int) (m0 : Nat) (w : World) (hv : IsInts w v zs) (h3 : 3 ≤ zs.length) (hz : zs.length ≤ 258) (hw : Within 0 1099511627776 zs) (hm0 : m0 ≤ 40) (hof : OfR m0 (ups zs) rs) :
    Calls Tryz.prog 76 #[v] w fun e w' => ∃ r, e = .returned r ∧ IsInts w' r rs ∧ Below w.heap.size w w' ∧ (∀ k, r.ownBlock = some k → w.heap.size ≤ k) := by
  have HV := Lib.hid hv
  have HW := Lib.hid hw
  have HOF := Lib.hid hof
  obtain ⟨a, cap, rfl, _⟩ := hv
  obtain ⟨N, hN⟩ : ∃ N, zs.length = N := ⟨_, rfl⟩
  have HN := Lib.hid hN
  rw [hN] at hz h3 ⊢
  clear hw hof hN
  go_enter Tryz.func76, Tryz.ntmps76
  go_wp2_with fail
  go_loopw [3, 5, 9] (fun vo _ vi wr => ∃ (k : Nat) (o : Value), vi = .int .i64 k ∧ k ≤ N ∧ o = vo ∧ OwnI wr w.heap.size o (ups (zs.take k)) ∧ Below w.heap.size w wr) (fun _ _ vi _ => N - (intOf vi).toNat)
  case atStart => exact ⟨0, _, rfl, by omega, rfl, OwnI.nil _ _, Below.refl _ _⟩
  case round =>
    obtain ⟨k, o, rfl, hk, rfl, hO, hB⟩ := hrel
    have HO := Lib.hid hO
    have HB := Lib.hid hB
    have HBS := hB.size
    obtain ⟨oa, oc, rfl⟩ := hO.slice
    have hlen : (ups (zs.take k)).length = k := by rw [ups_len, List.length_take, HN.out]; omega
    rw [hlen] at HO ⊢
    by_cases hlk : k < N
    · have hki : (k : Int) < (N : Int) := by omega
      have hlz : k < zs.length := by rw [HN.out]; exact hlk
      obtain ⟨b1, o1, k1, he1, c1⟩ := HV.out.cell hlz
      rw [HN.out] at he1
      simp only [Value.slice.injEq] at he1
      obtain ⟨rfl, _, rfl⟩ := he1
      have c1 := (HB.out.cell (cell_lt c1)).trans c1
      obtain ⟨x, hx⟩ : ∃ x, zs.getD k 0 = x := ⟨_, rfl⟩
      rw [hx] at c1
      have hx2 := HW.out _ (getD_mem hlz)
      rw [hx] at hx2
      have h3 : Hid (ups (zs.take (k + 1)) = ups (zs.take k) ++ [if x < 1 then 1 else x]) := Lib.hid (by
        unfold ups
        rw [List.take_add_one, List.map_append, List.getElem?_eq_getElem hlz]
        have hx2 : zs[k] = x := by rw [← hx, List.getD_eq_getElem?_getD, List.getElem?_eq_getElem hlz]; rfl
        simp only [Option.toList_some, List.map_cons, List.map_nil, hx2])
      have HLEN := Lib.hid hlen
      clear hO hB hx hlen hlz
      by_cases hx0 : x = 0
      · have hz0 : Hid ((if x < 1 then 1 else x) = 1) := Lib.hid (if_pos (by omega))
        have hxe : (x == 0) = true := by rw [beq_iff_eq]; exact hx0
        clear hx0
        go_wp2_with (at_builtin; go_loud (refine push_int wr rfl _ _ rfl w.heap.size (.slice oa k oc) (ups (zs.take k)) 1 HO.out rfl rfl (by rw [HLEN.out]; omega) HBS ?_))
        intro v' w' hown hb
        have HOWN := Lib.hid hown
        have HBB := Lib.hid (HB.out.trans hb)
        clear hown hb
        go_wp2_with fail
        go_roundw
        case rel => exact ⟨k + 1, _, by go_num, by omega, rfl, by rw [h3.out, hz0.out]; exact HOWN.out, HBB.out⟩
        case measure => simp [intOf]; omega
      · have hz0 : Hid ((if x < 1 then 1 else x) = x) := Lib.hid (if_neg (by omega))
        have hxe : (x == 0) = false := by rw [beq_eq_false_iff_ne]; exact hx0
        clear hx0
        go_wp2_with (at_builtin; go_loud (refine push_int wr rfl _ _ rfl w.heap.size (.slice oa k oc) (ups (zs.take k)) x HO.out rfl rfl (by rw [HLEN.out]; omega) HBS ?_))
        intro v' w' hown hb
        have HOWN := Lib.hid hown
        have HBB := Lib.hid (HB.out.trans hb)
        clear hown hb
        go_wp2_with fail
        go_roundw
        case rel => exact ⟨k + 1, _, by go_num, by omega, rfl, by rw [h3.out, hz0.out]; exact HOWN.out, HBB.out⟩
        case measure => simp [intOf]; omega
    · have hki : ¬ (k : Int) < (N : Int) := by omega
      obtain rfl : N = k := by omega
      have e : ups (zs.take N) = ups zs := by rw [List.take_of_length_le (Nat.le_of_eq HN.out)]
      rw [e] at HO
      have hul : Hid ((ups zs).length = N) := Lib.hid (by rw [ups_len, HN.out])
      have hub : Hid (∀ z ∈ ups zs, 0 ≤ z ∧ z ≤ 1099511627776) := Lib.hid (fun z hz => by
        obtain ⟨x, hx, rfl⟩ := List.mem_map.1 hz
        have := HW.out x hx
        split <;> omega)
      clear e hO hB hlen
      go_wp2_with fail
      go_loopg [3, 6, 20] m0 (fun gk vw _ vi wr => ∃ (ws : List Int) (k : Nat), vi = .int .i64 k ∧ k + gk ≤ 40 ∧ IsInts wr vw ws ∧ ws.length = N ∧ (∀ z ∈ ws, 0 ≤ z ∧ z ≤ 1099511627776) ∧ OfR gk ws rs ∧ Below w.heap.size w wr)
      case atStart => exact ⟨ups zs, 0, rfl, by omega, HO.out.ints, hul.out, hub.out, HOF.out, HB.out⟩
      case round =>
        obtain ⟨ws, k, rfl, hkg, hws, hwl, hwb, hor, hB4⟩ := hrel
        have HWS := Lib.hid hws
        have HWL := Lib.hid hwl
        have HWB := Lib.hid hwb
        have HOR := Lib.hid hor
        have HB4 := Lib.hid hB4
        obtain ⟨a1, cap1, rfl, _⟩ := hws
        rw [hwl] at HWS ⊢
        have hk100 : (k : Int) < 100 := by omega
        clear hwl hwb hor hB4
        go_wp2_with fail
        refine (rDepths_loc _ ws wr HWS.out (by rw [HWL.out]; omega) (by rw [HWL.out]; omega) (fun z hz => by have := HWB.out z hz; omega)).mono ?_
        rintro e w5 ⟨r5, ds, rfl, hi5, hd5, hb5, ho5⟩
        have HO5 : Hid (∀ k, r5.ownBlock = some k → w.heap.size ≤ k) := Lib.hid (fun k hk => Nat.le_trans HB4.out.size (ho5 k hk))
        clear ho5
        have HI5 := Lib.hid hi5
        have HD5 := Lib.hid hd5
        have HB5 := Lib.hid (HB4.out.trans (hb5.mono HB4.out.size))
        have HW5 := Lib.hid (HWS.out.below hb5)
        have hdl : ds.length = N := by rw [hd5.len, HWL.out]
        have hdb : ∀ z ∈ ds, 1 ≤ z := fun z hz => (hd5.bound (by rw [HWL.out]; omega) z hz).1
        obtain ⟨a5, cap5, rfl, _⟩ := hi5
        by_cases hgt : ∀ y ∈ ds, y ≤ 20
        · have HM := Lib.hid (may_any _ ds 1 20 true w5 HI5.out ⟨fun _ => fun z hz => ⟨hdb z hz, hgt z hz⟩, fun _ => rfl⟩ (by omega))
          have hrs : Hid (rs = ds) := Lib.hid (by
            cases HOR.out with
            | now _ _ k1 k2 => exact k1.same HD5.out
            | later n _ ys _ k1 k2 k3 => exact absurd (by rw [← HD5.out.same k1]; exact hgt) k2)
          rw [hdl] at HI5 HM HO5 ⊢
          clear hd5 hb5 hdl hdb hgt
          go_wp2_with fail
          refine HM.out.mono ?_
          rintro e w6 ⟨rfl, rfl⟩
          go_wp2_with fail
          go_ret
          exact ⟨_, rfl, by rw [hrs.out]; exact HI5.out, HB5.out, HO5.out⟩
        · have HM := Lib.hid (may_any _ ds 1 20 false w5 HI5.out ⟨fun h => (by cases h), fun h => absurd (fun z hz => (h z hz).2) hgt⟩ (by omega))
          obtain ⟨j, hj, hor2⟩ : ∃ j, gk = j + 1 ∧ OfR j (hvs ws) rs := by
            cases HOR.out with
            | now _ _ k1 k2 => exact absurd (by rw [HD5.out.same k1]; exact k2) hgt
            | later n _ ys _ k1 k2 k3 => exact ⟨n, rfl, k3⟩
          have HOR2 := Lib.hid hor2
          have HJ := Lib.hid hj
          rw [hdl] at HI5 HM ⊢
          clear hd5 hb5 hdl hdb hgt hor2 hj
          go_wp2_with fail
          refine HM.out.mono ?_
          rintro e w6 ⟨rfl, rfl⟩
          go_wp2_with fail
          refine (rHalved_any _ ws w6 HW5.out (by rw [HWL.out]; omega) (fun z hz => by have := HWB.out z hz; omega)).mono ?_
          rintro e w7 ⟨r7, rfl, hi7, hb7⟩
          have HI7 := Lib.hid hi7
          have HB7 := Lib.hid (HB5.out.trans (hb7.mono HB5.out.size))
          clear hi7 hb7
          go_wp2_with fail
          go_roundg j
          case rel => exact ⟨hvs ws, k + 1, by go_num, by have := HJ.out; omega, HI7.out, by rw [hvs_len, HWL.out], hvs_within (fun z hz => by have := HWB.out z hz; omega), HOR2.out, HB7.out⟩
          case measure => have := HJ.out; omega
theorem rOf9_any (v : Value) (zs rs : List Int) (m0 : Nat) (w : World) (hv : IsInts w v zs) (h3 : 3 ≤ zs.length) (hz : zs.length ≤ 258) (hw : Within 0 1099511627776 zs) (hm0 : m0 ≤ 40) (hof : OfR m0 (ups zs) rs) :
    Calls Tryz.prog 76 #[v] w fun e w' => ∃ r, e = .returned r ∧ IsInts w' r rs ∧ Below w.heap.size w w' := by
  refine (rOf9_loc v zs rs m0 w hv h3 hz hw hm0 hof).mono ?_
  rintro e w' ⟨r, h1, h2, h3, _⟩
  exact ⟨r, h1, h2, h3⟩
end Go.Proofs.YtehmmogdboaofaaGreatDoor
namespace Go.Proofs.YtehmmogdboaofaaGreatDoor
open Go.RowKit TabM FreqM HufM
set_option linter.unusedVariables false
theorem rw_grps (zs : List Int) (q i : Nat) (h : i < q) : rw_ (grps zs q) i = grp zs i := by
  unfold rw_
  rw [List.getD_eq_getElem?_getD, List.getElem?_eq_getElem (by rw [grps_len]; exact h), grps_get]
  rfl
theorem picks_get (zs : List Int) (rows : List (List Int)) (q i : Nat) (h : i < q) : (picksM zs rows q).getD i 0 = (pickM (grp zs i) rows : Int) := by
  rw [List.getD_eq_getElem?_getD, List.getElem?_eq_getElem (by rw [picksM_len]; exact h)]
  simp [picksM]
/-- What the document's Of has behind i rounds. -/
def RfI (H C BG bG : Nat) (w wr : World) (zs : List Int) (N i : Nat) (vL vP vG : Value) : Prop :=
  wr.heap[H]? = some (.cells #[.slice none 0 0, .slice none 0 0] 78 (0, 0)) ∧ wr.heap[C]? = some (.cells #[vL, vP] 78 (0, 0)) ∧ IsRR wr vL (rnd zs N i) ∧ Below H w wr ∧
  (1 ≤ i → Kept (C + 1) wr vL vP (rnd zs N i) (picksM zs (rnd zs N (i - 1)) (ng zs.length))) ∧ OwnRI wr BG bG vG (grps zs (ng zs.length)) ∧ H < C ∧ C < BG
set_option maxRecDepth 100000 in
set_option maxHeartbeats 16000000 in
theorem rOf12_any (a : Option Addr) (len c : Nat) (zs : List Int) (N : Nat) (w : World) (hI : IsInts w (.slice a len c) zs) (hlen : zs.length = len) (hz : len ≤ 1000)
    (hsy : Syms zs (N : Int)) (h1 : 1 ≤ len) (h3 : 3 ≤ N) (h258 : N ≤ 258) :
    Calls Tryz.prog 45 #[.slice a len c, .int .i64 (N : Int)] w fun e w' => ∃ (vL vP : Value), e = .returned (.agg #[vL, vP]) ∧ IsRR w' vL (rnd zs N 4) ∧ IsInts w' vP (picksM zs (rnd zs N 3) (ng zs.length)) ∧ Below w.heap.size w w' := by
  have h0 := heap_alloc_new w (.cells #[.slice none 0 0, .slice none 0 0] 78)
  have hB1 := (Below.refl w.heap.size w).alloc (Nat.le_refl _) (.cells #[.slice none 0 0, .slice none 0 0] 78)
  have hI1 := hI.below hB1
  have HCN := Lib.hid (rCounts_any _ zs N _ hI1 (by omega) (by omega))
  have HB1 := Lib.hid hB1
  have HSY := Lib.hid hsy
  have hi := info_rch
  have hu := Tryz.underlying78
  have HLEN := Lib.hid hlen
  have HCC : Hid (Nums (counts zs N) ∧ (counts zs N).length = N) := Lib.hid ⟨fun x hx => by have := counts_nn zs N x hx; omega, counts_len zs N⟩
  have HRO : Hid (∀ i, TabOk N (rnd zs N i)) := Lib.hid (fun i => rnd_ok h3 h258 (by omega) i)
  have HRL : Hid (∀ i, (rnd zs N i).length = nTab (len : Int)) := Lib.hid (fun i => by rw [rnd_len, hlen])
  have htb := nTab_bd (len : Int)
  obtain ⟨T, hT⟩ : ∃ T, nTab (len : Int) = T := ⟨_, rfl⟩
  rw [hT] at HRL htb
  obtain ⟨hT2, hT6⟩ := htb
  have HTT := Lib.hid hT
  have hng : ng len ≤ 20 := by unfold ng; omega
  obtain ⟨Q, hQ⟩ : ∃ Q, ng len = Q := ⟨_, rfl⟩
  have HQ : Hid (ng zs.length = Q) := Lib.hid (by rw [hlen, hQ])
  have HQ2 : Hid (∀ m, m < Q → 50 * m < len) := Lib.hid (fun m hm => by rw [← hQ] at hm; unfold ng at hm; omega)
  rw [hQ] at hng
  have HTK : Hid (∀ p q rows, (took zs rows p q).length ≤ 1000) := Lib.hid (fun p q rows => by have := took_len2 zs rows p q; omega)
  have HCO : Hid (∀ p q rows, OfOk (counts (took zs rows p q) N)) := Lib.hid (fun p q rows => cnt_ok h3 h258 (by have := took_len2 zs rows p q; omega))
  have HRM : Hid (∀ rows p, p < rows.length → (roundM zs N rows).take (p + 1) = (roundM zs N rows).take p ++ [lensF (counts (took zs rows p Q) N)]) := Lib.hid (fun rows p hp => by
    rw [List.take_succ_eq_append_getElem (by rw [roundM_len]; omega)]
    unfold roundM
    simp only [List.getElem_map, List.getElem_range]
    rw [hlen, hQ])
  have hs1 : (w.alloc (.cells #[.slice none 0 0, .slice none 0 0] 78)).heap.size = w.heap.size + 1 := by simp
  have HS1 := Lib.hid hs1
  have HI0 := Lib.hid hI
  clear hB1 hI1 hs1 hlen hsy hQ hI hT
  go_enter Tryz.func45, Tryz.ntmps45
  go_wp2_with fail
  generalize hw1 : w.alloc (.cells #[.slice none 0 0, .slice none 0 0] 78) = w1 at *
  clear hw1
  refine HCN.out.mono ?_
  rintro e w2 ⟨u, rfl, hI2, hB2⟩
  have hg2 : w2.heap[w.heap.size]? = some (.cells #[.slice none 0 0, .slice none 0 0] 78 (0, 0)) := (hB2.block _ (by rw [HS1.out]; omega)).trans h0
  have HG2 := Lib.hid hg2
  have HB2 : Hid (Below w.heap.size w w2) := Lib.hid (HB1.out.trans (hB2.mono HB1.out.size))
  have HF := Lib.hid (rFirst_any u (counts zs N) (len : Int) w2 hI2 HCC.out.1 (by rw [HCC.out.2]; exact h258) (by omega) (by omega))
  obtain ⟨au, cu, rfl, _⟩ := hI2
  rw [HCC.out.2] at HF ⊢
  clear hB2 h0 HCN hg2 HB1
  go_wp2_with fail
  refine HF.out.mono ?_
  rintro e w4 ⟨vL0, rfl, hR4, hB4⟩
  have hR4' := hR4
  obtain ⟨aL, cL, rfl, _⟩ := hR4'
  have hR5 : IsRR w4 (.slice aL (firstM (counts zs N) (len : Int)).length cL) (rnd zs N 0) := by
    unfold rnd
    rw [HLEN.out]
    exact hR4
  have hT : (firstM (counts zs N) (len : Int)).length = T := by rw [firstM, firstK_len]; exact HTT.out
  rw [hT] at hR5 ⊢
  obtain ⟨C, hC⟩ : ∃ C, w4.heap.size = C := ⟨_, rfl⟩
  obtain ⟨H, hH⟩ : ∃ H, w.heap.size = H := ⟨_, rfl⟩
  have hHC : H < C := by
    have h5 := (Array.getElem?_eq_some_iff.1 HG2.out).1
    have h6 := hB4.size
    omega
  have hB14 : Below w.heap.size w (w4.alloc (.cells #[.slice aL T cL, .slice none 0 0] 78)) := (HB2.out.trans (hB4.mono HB2.out.size)).alloc (by have := HB2.out.size; have := hB4.size; omega) _
  have HGR := Lib.hid (rGroups_loc (.slice a len c) zs _ (HI0.out.below hB14) (by rw [HLEN.out]; omega))
  rw [HQ.out] at HGR
  have hs5 : (w4.alloc (.cells #[.slice aL T cL, .slice none 0 0] 78)).heap.size = C + 1 := by rw [← hC]; simp
  have HS : Hid ((w4.alloc (.cells #[.slice aL T cL, .slice none 0 0] 78)).heap[H]? = some (.cells #[.slice none 0 0, .slice none 0 0] 78 (0, 0)) ∧ (w4.alloc (.cells #[.slice aL T cL, .slice none 0 0] 78)).heap[C]? = some (.cells #[.slice aL T cL, .slice none 0 0] 78 (0, 0)) ∧ IsRR (w4.alloc (.cells #[.slice aL T cL, .slice none 0 0] 78)) (.slice aL T cL) (rnd zs N 0) ∧ Below H w (w4.alloc (.cells #[.slice aL T cL, .slice none 0 0] 78))) := Lib.hid (by
    have h5 := (Array.getElem?_eq_some_iff.1 HG2.out).1
    refine ⟨?_, ?_, hR5.below ((Below.refl _ _).alloc (Nat.le_refl _) _), ?_⟩
    · rw [← hH]
      exact (alloc_old (by omega)).trans ((hB4.block _ h5).trans HG2.out)
    · rw [← hC]
      exact heap_alloc_new w4 _
    · rw [← hH]
      exact hB14)
  have HHH := Lib.hid hH
  have HCX := Lib.hid hC
  have HS5 := Lib.hid hs5
  clear hR4 hR5 hB4 hT hC hH HG2 HB2 HF hB14 hs5
  go_wp2_with fail
  rw [HCX.out]
  generalize w4.alloc (.cells #[.slice aL T cL, .slice none 0 0] 78) = w5 at *
  refine HGR.out.mono ?_
  rintro e w6 ⟨vG, bG, rfl, hG6, hB6⟩
  have HG0 : Hid (RfI H C w5.heap.size bG w w6 zs N 0 (.slice aL T cL) (.slice none 0 0) vG) := Lib.hid (by
    obtain ⟨k1, k2, k3, k4⟩ := HS.out
    exact ⟨(hB6.block _ (by rw [HS5.out]; omega)).trans k1, (hB6.block _ (by rw [HS5.out]; omega)).trans k2, k3.below hB6, k4.trans (hB6.mono (by rw [HS5.out]; omega)), fun h => by omega, by rw [HQ.out]; exact hG6, hHC, by rw [HS5.out]; omega⟩)
  obtain ⟨aG, cG, rfl⟩ := hG6.slice
  rw [grps_len] at HG0 ⊢
  generalize w5.heap.size = BG at *
  clear hG6 hB6 HS HGR HS5
  go_wp2_with fail
  try rw [HHH.out]
  go_loopw [24] (fun vi wr => ∃ (i : Nat) (vL vP : Value), vi = .int .i64 (i : Int) ∧ i ≤ 4 ∧ RfI H C BG bG w wr zs N i vL vP (.slice aG Q cG)) (fun vi _ => 4 - (intOf vi).toNat)
  case atStart => exact ⟨0, _, _, rfl, by omega, HG0.out⟩
  case round =>
    clear HG0
    obtain ⟨i, vL, vP, rfl, hi4, hO⟩ := hrel
    have HO := Lib.hid hO
    obtain ⟨k1, k2, k3, k4, k5, k6, k7, k8⟩ := hO
    have hCl := (Array.getElem?_eq_some_iff.1 k2).1
    by_cases hlt : i < 4
    · have hii : (i : Int) < 4 := by omega
      obtain ⟨wa, rfl⟩ : ∃ wa : World, wa = wr := ⟨_, rfl⟩
      obtain ⟨aL2, cL2, rfl, _⟩ := id k3
      rw [HRL.out] at HO k2 k3
      have HOKR := Lib.hid (HRO.out i)
      have HNXR : Hid (rnd zs N (i + 1) = roundM zs N (rnd zs N i)) := Lib.hid rfl
      have HLR := Lib.hid (HRL.out i)
      obtain ⟨rows, hrows⟩ : ∃ rows, rnd zs N i = rows := ⟨_, rfl⟩
      have HROWS := Lib.hid hrows
      rw [hrows] at HOKR HNXR HLR k3
      have HX : Hid (∀ W, Below wa.heap.size wa W → W.cell? ⟨C, 0, none⟩ = some (.slice aL2 T cL2) ∧ IsRR W (.slice aL2 T cL2) rows ∧ IsRR W (.slice aG Q cG) (grps zs Q)) := Lib.hid (fun W hW => by
        refine ⟨?_, k3.below hW, ?_⟩
        · rw [cell_of_row _ _ _ _ _ _ ((hW.block C hCl).trans k2)]; rfl
        · have h5 := (k6.rr).below hW
          rw [HQ.out] at h5
          exact h5)
      have hrm : (roundM zs N rows).length = T := by rw [roundM_len, HLR.out]
      have HRML := Lib.hid hrm
      have HRMR := Lib.hid (fun p hp => HRM.out rows p hp)
      rw [HLR.out] at HRMR
      have HRT := Lib.hid (HX.out wa (Below.refl _ _)).1
      clear k1 k2 k3 k4 k5 k6 hrows hrm
      go_wp2_with fail
      go_loopw [7, 28] (fun vp vj wr => ∃ (j : Nat) (u : Value), vj = .int .i64 (j : Int) ∧ u = vp ∧ j ≤ Q ∧ OwnI wr wa.heap.size u (picksM zs rows j) ∧ Below wa.heap.size wa wr) (fun _ vj _ => Q - (intOf vj).toNat)
      case atStart => exact ⟨0, _, rfl, rfl, by omega, OwnI.nil _ _, Below.refl _ _⟩
      case round =>
        obtain ⟨j, u, rfl, rfl, hj, hU, hB⟩ := hrel
        have HU := Lib.hid hU
        have HB := Lib.hid hB
        clear hU hB
        obtain ⟨r0, hRR, hGG⟩ := HX.out wr HB.out
        have HRR := Lib.hid hRR
        have HGG := Lib.hid hGG
        clear hRR hGG
        by_cases hjQ : j < Q
        · have hji : (j : Int) < (Q : Int) := by omega
          obtain ⟨b, off, cap, ug, he, c1, hIg⟩ := HGG.out.at_ (show j < (grps zs Q).length by rw [grps_len]; exact hjQ)
          rw [rw_grps zs Q j hjQ] at hIg
          rw [grps_len] at he
          simp only [Value.slice.injEq] at he
          obtain ⟨rfl, he2, rfl⟩ := he
          clear he2
          have HPK := Lib.hid (rpick_any ug (.slice aL2 T cL2) (grp zs j) rows N wr hIg HRR.out (grp_syms HSY.out j) HOKR.out (by have := grp_len zs j; omega) h258)
          have HPS : Hid (picksM zs rows (j + 1) = picksM zs rows j ++ [(pickM (grp zs j) rows : Int)]) := Lib.hid (picksM_succ zs rows j)
          have HPL := Lib.hid (picksM_len zs rows j)
          obtain ⟨P, hP⟩ : ∃ P, pickM (grp zs j) rows = P := ⟨_, rfl⟩
          rw [hP] at HPK HPS
          obtain ⟨ag, cg, hug, _⟩ := hIg
          obtain ⟨n1, hn1⟩ : ∃ n, (grp zs j).length = n := ⟨_, rfl⟩
          rw [hn1] at hug
          subst hug
          clear hP hn1
          go_wp2_with fail
          refine HPK.out.mono ?_
          rintro e w7 ⟨rfl, hB7⟩
          have HU7 := Lib.hid (HU.out.below hB7)
          have HB7 : Hid (Below wa.heap.size wa w7) := Lib.hid (HB.out.trans (hB7.mono HB.out.size))
          have hs7 : wa.heap.size ≤ w7.heap.size := HB7.out.size
          clear hB7 HU HB
          obtain ⟨au, cu, rfl⟩ := HU7.out.slice
          rw [HPL.out] at HU7 ⊢
          go_wp2_with (at_builtin; go_loud (refine push_int w7 rfl _ _ rfl wa.heap.size _ (picksM zs rows j) (P : Int) HU7.out rfl rfl (by rw [HPL.out]; omega) hs7 ?_))
          intro v8 w8 hO8 hB8
          have HO8 : Hid (OwnI w8 wa.heap.size v8 (picksM zs rows (j + 1))) := Lib.hid (by rw [HPS.out]; exact hO8)
          have HB8 := Lib.hid (HB7.out.trans hB8)
          clear hO8 hB8
          go_wp2_with fail
          go_roundw
          case rel => exact ⟨j + 1, _, by go_num, rfl, by omega, HO8.out, HB8.out⟩
          case measure => simp [intOf]; omega
        · obtain rfl : j = Q := by omega
          have hji : ¬ (j : Int) < (j : Int) := by omega
          obtain ⟨aP, cP, rfl⟩ := HU.out.slice
          rw [picksM_len] at HU ⊢
          obtain ⟨wb, rfl⟩ : ∃ wb : World, wb = wr := ⟨_, rfl⟩
          have HAB := Lib.hid HB.out
          have HUB := Lib.hid HU.out
          clear HU HB HRR HGG
          go_wp2_with fail
          go_loopw [10, 43] (fun vt vp wr => ∃ (p bn : Nat) (u : Value), vp = .int .i64 (p : Int) ∧ u = vt ∧ p ≤ T ∧ OwnRI wr wb.heap.size bn u ((roundM zs N rows).take p) ∧ Below wb.heap.size wb wr) (fun _ vp _ => T - (intOf vp).toNat)
          case atStart => exact ⟨0, wb.heap.size, _, rfl, rfl, by omega, OwnRI.nil _ _ (Nat.le_refl _), Below.refl _ _⟩
          case round =>
            obtain ⟨p, bn, u, rfl, rfl, hp, hR, hB⟩ := hrel
            have HR := Lib.hid hR
            have HB := Lib.hid hB
            have hbn : bn ≤ wr.heap.size := hR.2.1
            clear hR hB
            by_cases hpT : p < T
            · have hpi : (p : Int) < (T : Int) := by omega
              have HRS := Lib.hid (HRMR.out p hpT)
              have HCOP := Lib.hid (HCO.out p j rows)
              have HTKP := Lib.hid (fun q => HTK.out p q rows)
              obtain ⟨wc, rfl⟩ : ∃ wc : World, wc = wr := ⟨_, rfl⟩
              go_wp2_with fail
              go_loopw [12, 48] (fun va vm wr => ∃ (m : Nat) (u2 : Value), vm = .int .i64 (m : Int) ∧ u2 = va ∧ m ≤ j ∧ OwnI wr wc.heap.size u2 (took zs rows p m) ∧ Below wc.heap.size wc wr) (fun _ vm _ => j - (intOf vm).toNat)
              case atStart => exact ⟨0, _, rfl, rfl, by omega, OwnI.nil _ _, Below.refl _ _⟩
              case round =>
                obtain ⟨m, u2, rfl, rfl, hm, hA, hBC⟩ := hrel
                have HA := Lib.hid hA
                have HBC := Lib.hid hBC
                clear hA hBC
                have HBB : Hid (Below wb.heap.size wb wr) := Lib.hid (HB.out.trans (HBC.out.mono HB.out.size))
                have HBA : Hid (Below wa.heap.size wa wr) := Lib.hid (HAB.out.trans (HBB.out.mono HAB.out.size))
                obtain ⟨r1, _, hGG⟩ := HX.out wr HBA.out
                have HGG := Lib.hid hGG
                clear hGG
                by_cases hmQ : m < j
                · have hmi : (m : Int) < (j : Int) := by omega
                  obtain ⟨b, off, cap, ug, he, c1, hIg⟩ := HGG.out.at_ (show m < (grps zs j).length by rw [grps_len]; exact hmQ)
                  rw [rw_grps zs j m hmQ] at hIg
                  rw [grps_len] at he
                  simp only [Value.slice.injEq] at he
                  obtain ⟨rfl, he2, rfl⟩ := he
                  clear he2
                  have HPI : Hid (IsInts wr (.slice aP j cP) (picksM zs rows j)) := Lib.hid (HUB.out.ints.below HBB.out)
                  obtain ⟨b1, o1, k1, he1, c2⟩ := HPI.out.cell (show m < (picksM zs rows j).length by rw [picksM_len]; exact hmQ)
                  rw [picksM_len] at he1
                  rw [picks_get zs rows j m hmQ] at c2
                  simp only [Value.slice.injEq] at he1
                  obtain ⟨rfl, he1b, rfl⟩ := he1
                  clear he1b
                  have hgl : 50 * m < len := HQ2.out m hmQ
                  have hgn := grp_len zs m
                  rw [HLEN.out] at hgn
                  have HGI := Lib.hid hIg
                  obtain ⟨b3, o3, k3, he3, _⟩ := hIg.cell (k := 0) (by omega)
                  subst he3
                  have HTS : Hid (took zs rows p (m + 1) = took zs rows p m ++ (if pickM (grp zs m) rows = p then grp zs m else [])) := Lib.hid rfl
                  obtain ⟨P, hP⟩ : ∃ P, pickM (grp zs m) rows = P := ⟨_, rfl⟩
                  rw [hP] at c2 HTS
                  obtain ⟨n1, hn1⟩ : ∃ n, (grp zs m).length = n := ⟨_, rfl⟩
                  rw [hn1] at c1 HGI hgn
                  have HTL : Hid ((took zs rows p m).length + (grp zs m).length ≤ 17592186044416) := Lib.hid (by have := HTKP.out m; omega)
                  have hsc : wc.heap.size ≤ wr.heap.size := HBC.out.size
                  have hn50 : n1 ≤ 50 := by omega
                  clear hP hn1 hIg hgl hgn r1
                  obtain ⟨aU, cU, rfl⟩ := HA.out.slice
                  obtain ⟨L2, hL2⟩ : ∃ L, (took zs rows p m).length = L := ⟨_, rfl⟩
                  rw [hL2] at HA ⊢
                  clear hL2
                  by_cases hPp : P = p
                  · have hPb : ((P : Int) == (p : Int)) = true := by rw [beq_iff_eq]; omega
                    have HTS2 : Hid (took zs rows p (m + 1) = took zs rows p m ++ grp zs m) := Lib.hid (by rw [HTS.out, if_pos hPp])
                    clear HTS hPp
                    go_wp2_with (at_builtin; go_loud (refine push_src wr rfl _ _ rfl wc.heap.size _ (took zs rows p m) b3 o3 n1 k3 (grp zs m) HA.out HGI.out rfl rfl HTL.out hsc ?_))
                    intro v8 w8 hO8 hB8
                    have HO8 : Hid (OwnI w8 wc.heap.size v8 (took zs rows p (m + 1))) := Lib.hid (by rw [HTS2.out]; exact hO8)
                    have HB8 := Lib.hid (HBC.out.trans hB8)
                    clear hO8 hB8
                    go_wp2_with fail
                    go_roundw
                    case rel => exact ⟨m + 1, _, by go_num, rfl, by omega, HO8.out, HB8.out⟩
                    case measure => simp [intOf]; omega
                  · have hPb : ((P : Int) == (p : Int)) = false := by rw [beq_eq_false_iff_ne]; omega
                    have HO8 : Hid (OwnI wr wc.heap.size (.slice aU L2 cU) (took zs rows p (m + 1))) := Lib.hid (by rw [HTS.out, if_neg hPp, List.append_nil]; exact HA.out)
                    clear HTS hPp
                    go_wp2_with fail
                    go_roundw
                    case rel => exact ⟨m + 1, _, by go_num, rfl, by omega, HO8.out, HBC.out⟩
                    case measure => simp [intOf]; omega
                · obtain rfl : m = j := by omega
                  have hmi : ¬ (m : Int) < (m : Int) := by omega
                  have HRC := Lib.hid (rCounts_any u2 (took zs rows p m) N wr HA.out.ints (by have := HTKP.out m; omega) (by omega))
                  have HR2 := Lib.hid (HR.out.below (HBC.out.mono hbn))
                  obtain ⟨n0, hn0, hof⟩ := lensF_spec HCOP.out
                  have HOF := Lib.hid hof
                  have hlw := (lensF_whole HCOP.out).1
                  rw [counts_len] at hlw
                  have HLW := Lib.hid hlw
                  have HCB : Hid (Within 0 1099511627776 (counts (took zs rows p m) N) ∧ (counts (took zs rows p m) N).length = N) := Lib.hid ⟨HCOP.out.2.2, counts_len _ _⟩
                  obtain ⟨aU, cU, rfl⟩ := HA.out.slice
                  obtain ⟨L2, hL2⟩ : ∃ L, (took zs rows p m).length = L := ⟨_, rfl⟩
                  rw [hL2] at HRC ⊢
                  have hbs : bn ≤ wr.heap.size := Nat.le_trans hbn HBC.out.size
                  have hrl : ((roundM zs N rows).take p).length = p := by rw [List.length_take, HRML.out]; omega
                  have HRLL := Lib.hid hrl
                  obtain ⟨aR, cR, rfl⟩ := HR2.out.slice
                  rw [hrl] at HR2 ⊢
                  clear hL2 hof hlw r1 HA HGG hrl
                  go_wp2_with fail
                  refine HRC.out.mono ?_
                  rintro e w8 ⟨uc, rfl, hI8, hB8⟩
                  have HO9 := Lib.hid (rOf9_loc uc (counts (took zs rows p m) N) (lensF (counts (took zs rows p m) N)) n0 w8 hI8 (by rw [HCB.out.2]; exact h3) (by rw [HCB.out.2]; exact h258) HCB.out.1 hn0 HOF.out)
                  obtain ⟨ac, cc, rfl, _⟩ := hI8
                  rw [HCB.out.2] at HO9 ⊢
                  have HB8 := Lib.hid hB8
                  have hs8 : wr.heap.size ≤ w8.heap.size := hB8.size
                  clear hB8 HRC
                  go_wp2_with fail
                  refine HO9.out.mono ?_
                  rintro e w9 ⟨r, rfl, hI9, hB9, hr9⟩
                  have hs9 : w8.heap.size ≤ w9.heap.size := hB9.size
                  have HI9 := Lib.hid hI9
                  have HUL : Hid (∀ k, r.ownBlock = some k → bn ≤ k ∧ k < w9.heap.size) := Lib.hid (fun k hk => by
                    have h5 := hr9 k hk
                    refine ⟨by omega, ?_⟩
                    obtain ⟨b5, o5, c5, he5, hc5⟩ := hI9.cell (k := 0) (by rw [HLW.out]; omega)
                    rw [he5] at hk
                    cases hk
                    exact cell_lt hc5)
                  have HB9 : Hid (Below wr.heap.size wr w9) := Lib.hid (HB8.out.trans (hB9.mono hs8))
                  have HR9 := Lib.hid (HR2.out.below (HB9.out.mono hbs))
                  have HBB9 := Lib.hid (HBB.out.trans (HB9.out.mono HBB.out.size))
                  obtain ⟨a9, c9, rfl, _⟩ := hI9
                  rw [HLW.out] at HI9 HUL ⊢
                  clear hB9 hr9 HO9 HR2
                  go_wp2_with (at_builtin; go_loud (refine push_rowI w9 rfl _ _ rfl wb.heap.size bn _ ((roundM zs N rows).take p) _ (lensF (counts (took zs rows p m) N)) HR9.out HI9.out HUL.out rfl rfl (by rw [HRLL.out]; omega) ?_))
                  intro v3 w3 hR3 hB3 _ _
                  rw [← HRS.out] at hR3
                  have HR3 := Lib.hid hR3
                  have HB3 : Hid (Below wb.heap.size wb w3) := Lib.hid (HBB9.out.trans hB3)
                  clear hR3 hB3
                  go_wp2_with fail
                  go_roundw
                  case rel => exact ⟨p + 1, w3.heap.size, _, by go_num, rfl, by omega, HR3.out, HB3.out⟩
                  case measure => simp [intOf]; omega
            · obtain rfl : p = T := by omega
              have hpi : ¬ (p : Int) < (p : Int) := by omega
              have HRA : Hid (OwnRI wr wb.heap.size bn u (roundM zs N rows)) := Lib.hid (by have h := HR.out; rw [List.take_of_length_le (by rw [HRML.out]; exact Nat.le_refl _)] at h; exact h)
              have HUA := Lib.hid (HUB.out.below HB.out)
              have HBA : Hid (Below wa.heap.size wa wr) := Lib.hid (HAB.out.trans (HB.out.mono HAB.out.size))
              obtain ⟨aR, cR, rfl⟩ := HRA.out.slice
              rw [HRML.out] at HRA ⊢
              obtain ⟨k1, k2, k3, k4, k5, k6, k7, k8⟩ := HO.out
              have hg6 := (HBA.out.block C hCl).trans k2
              have hHl := (Array.getElem?_eq_some_iff.1 k1).1
              have HNX : Hid (RfI H C BG bG w (wr.setRow C #[.slice aR p cR, .slice aP j cP]) zs N (i + 1) (.slice aR p cR) (.slice aP j cP) (.slice aG j cG)) := Lib.hid (by
                have hke : Kept (C + 1) (wr.setRow C #[.slice aR p cR, .slice aP j cP]) (.slice aR p cR) (.slice aP j cP) (rnd zs N (i + 1)) (picksM zs (rnd zs N i) (ng zs.length)) := fun W hW hs => by
                  rw [setRow_size] at hW hs
                  have hsame : ∀ k, C + 1 ≤ k → k < wr.heap.size → W.heap[k]? = wr.heap[k]? := fun k h1 h2 => (hW k h1 h2).trans (setRow_other wr C k _ (by omega))
                  rw [HNXR.out, HROWS.out, HQ.out]
                  have hab := HAB.out.size
                  refine ⟨(HRA.out.same (fun k h1 h2 => hsame k (by omega) (by omega)) hs).rr, (HUA.out.same (fun k hk => ?_)).ints⟩
                  have h5 := HUA.out.lt k hk
                  exact hsame k (by omega) (by omega)
                have hgk : OwnRI (wr.setRow C #[.slice aR p cR, .slice aP j cP]) BG bG (.slice aG j cG) (grps zs (ng zs.length)) := by
                  have h5 := k6.below (HBA.out.mono k6.2.1)
                  exact h5.same (fun k h1 h2 => setRow_other wr C k _ (by omega)) (by rw [setRow_size]; exact Nat.le_refl _)
                exact ⟨(setRow_other wr C H _ (by omega)).trans ((HBA.out.block H hHl).trans k1), setRow_heap wr C _ _ _ (0, 0) hg6, hke.now.1, below_setRow (k4.trans (HBA.out.mono (by omega))) (by omega) _, fun _ => hke, hgk, k7, k8⟩)
              clear k1 k2 k3 k4 k5 k6
              go_wp2_with (refine wpList_store_row rfl 78 _ _ rfl C #[.slice aR p cR, .slice aP j cP] rfl rfl 78 _ hg6 hi rfl (ch_all _ _ _ _ _ _) ?_)
              go_roundw
              case rel => exact ⟨i + 1, _, _, by go_num, by omega, HNX.out⟩
              case measure => simp [intOf]; omega
    · obtain rfl : i = 4 := by omega
      have k9 := k5 (by omega)
      obtain ⟨hR4, hP4⟩ := k9.now
      obtain ⟨aL6, cL6, rfl, _⟩ := hR4
      obtain ⟨aP6, cP6, rfl, _⟩ := hP4
      obtain ⟨M1, hM1⟩ : ∃ M, (rnd zs N 4).length = M := ⟨_, rfl⟩
      obtain ⟨M2, hM2⟩ : ∃ M, (picksM zs (rnd zs N (4 - 1)) (ng zs.length)).length = M := ⟨_, rfl⟩
      rw [hM1, hM2] at k2 k9
      have HF : Hid (IsRR (wr.setRow H #[.slice aL6 M1 cL6, .slice aP6 M2 cP6]) (.slice aL6 M1 cL6) (rnd zs N 4) ∧ IsInts (wr.setRow H #[.slice aL6 M1 cL6, .slice aP6 M2 cP6]) (.slice aP6 M2 cP6) (picksM zs (rnd zs N 3) (ng zs.length))) := Lib.hid (k9 _ (fun k hk _ => setRow_other wr H k _ (by omega)) (by rw [setRow_size]; exact Nat.le_refl _))
      have HBB : Hid (Below H w (wr.setRow H #[.slice aL6 M1 cL6, .slice aP6 M2 cP6])) := Lib.hid (below_setRow k4 (Nat.le_refl _) _)
      clear k3 k4 k5 k6 k9 hM1 hM2 HO
      go_wp2_with (first | (refine wpList_load_row rfl 78 _ rfl C rfl 78 #[.slice aL6 M1 cL6, .slice aP6 M2 cP6] (0, 0) _ k2 hu rfl hi ?_) | (refine wpList_store_row rfl 78 _ _ rfl H #[.slice aL6 M1 cL6, .slice aP6 M2 cP6] rfl rfl 78 _ k1 hi rfl (ch_all _ _ _ _ _ _) ?_))
      exact bodyPost_ret (v := .agg #[.slice aL6 M1 cL6, .slice aP6 M2 cP6]) (results_cell_row rfl _ _ H 78 _ (0, 0) _ rfl (setRow_heap _ _ _ _ _ _ k1) hu rfl hi) rfl ⟨_, _, rfl, HF.out.1, HF.out.2, by rw [HHH.out]; exact HBB.out⟩
end Go.Proofs.YtehmmogdboaofaaGreatDoor
namespace Go.Proofs.YtehmmogdboaofaaGreatDoor
open Go.RowKit BitM HufM CanM CodM TabM FreqM
set_option linter.unusedVariables false
/-! ### A row of rows of texts -/
def rowV (N b : Nat) : Value := .slice (some ⟨b, 0, none⟩) N N
def SCodes (w : World) (base N : Nat) (v : Value) (gs : List (List Int)) : Prop :=
  ∃ bs : List Nat, w.ownsRow base 82 1 v bs.length (bs.map (rowV N)) ∧ bs.length = gs.length ∧ base ≤ w.heap.size ∧ ∀ i, i < gs.length → RowS w (bs.getD i 0) N (fun j => txt (code (gs.getD i []) j)) ∧ base ≤ bs.getD i 0 ∧ v.ownBlock ≠ some (bs.getD i 0)
theorem SCodes.nil (w : World) (base N : Nat) (h : base ≤ w.heap.size) : SCodes w base N (.slice none 0 0) [] := ⟨[], World.ownsRow_nil _ _ _ _, rfl, h, fun i hi => absurd hi (Nat.not_lt_zero _)⟩
theorem SCodes.below {w w' : World} {base N : Nat} {v : Value} {gs : List (List Int)} (h : SCodes w base N v gs) (hb : Below w.heap.size w w') : SCodes w' base N v gs := by
  obtain ⟨bs, h1, h2, h3, h4⟩ := h
  exact ⟨bs, ownsRow_other h1 (fun k hk => hb.block k (World.ownsRow.lt h1 k hk).2), h2, Nat.le_trans h3 hb.size, fun i hi => ⟨(h4 i hi).1.below hb, (h4 i hi).2⟩⟩
theorem SCodes.slice {w : World} {base N : Nat} {v : Value} {gs : List (List Int)} (h : SCodes w base N v gs) : ∃ a cap, v = .slice a gs.length cap := by
  obtain ⟨bs, h1, h2, _⟩ := h
  obtain ⟨a, c, e⟩ := slice_of_own h1
  exact ⟨a, c, by rw [e, h2]⟩
theorem SCodes.at_ {w : World} {base N : Nat} {v : Value} {gs : List (List Int)} (h : SCodes w base N v gs) {i : Nat} (hi : i < gs.length) : ∃ g cap b, v = .slice (some ⟨g, 0, none⟩) gs.length cap ∧ w.cell? ⟨g, i, none⟩ = some (.slice (some ⟨b, 0, none⟩) N N) ∧ RowS w b N (fun j => txt (code (gs.getD i []) j)) := by
  obtain ⟨bs, h1, h2, h3, h4⟩ := h
  have hib : i < bs.length := by omega
  rcases h1.2 with ⟨rfl, h0⟩ | ⟨g, cap, cur, rfl, _, hg, _⟩
  · omega
  · have h5 := World.ownsRow.cells h1 (g := g) rfl i (rowV N (bs.getD i 0)) (by rw [List.getElem?_map, List.getElem?_eq_getElem hib, List.getD_eq_getElem?_getD, List.getElem?_eq_getElem hib]; rfl)
    rw [Addr.add_lit, Nat.zero_add] at h5
    exact ⟨g, cap, bs.getD i 0, by rw [h2], h5, (h4 i hi).1⟩
theorem info_ss : (Tryz.prog.info? 82).map (fun i => (i.zero, i.size, i.bytes)) = some (some (.slice none 0 0), 1, 24) := by kernel_rfl
set_option maxHeartbeats 400000 in
theorem push_ss {ops : Array Oper} {rest : List Oper} {o : Oper} {a : Act} {Q : Exit → Act → World → Prop} (W : World) (hgd : o.guard = none) (s x : Operand)
    (ho : o.op = .call { callee := .builtin .append, args := #[s, x], argTypes := #[80, 80] })
    (base N : Nat) (v : Value) (gs : List (List Int)) (ls : List Int) (cb : Nat) (hown : SCodes W base N v gs) (hrow : RowS W cb N (fun j => txt (code ls j))) (hcb : base ≤ cb) (hcv : v.ownBlock ≠ some cb) (hs : a.eval s = v) (hx : a.eval x = .slice (some ⟨W.heap.size, 0, none⟩) 1 1)
    (hlen : gs.length + 1 ≤ 1000000)
    (h : ∀ v' w', SCodes w' base N v' (gs ++ [ls]) → Below base W w' → wpList Tryz.prog ops Q rest (a.put o.dst v') w') :
    wpList Tryz.prog ops Q (o :: rest) a (W.alloc (.cells #[.slice (some ⟨cb, 0, none⟩) N N] 82)) := by
  obtain ⟨bs, h1, h2, h3, h4⟩ := hown
  obtain ⟨i0, hi, hz0, hz1, hz2⟩ := info_parts info_ss
  refine wpList_append_own2 hgd s x 80 ho base 82 i0 (.slice none 0 0) 1 24 Tryz.underlying80 hi hz0 hz1 hz2 rfl (by decide) v bs.length (bs.map (rowV N)) (World.ownsRow.alloc h1 _) hs ⟨W.heap.size, 0, none⟩ 1 1 [rowV N cb] hx rfl ?_ ?_ ?_ ?_ ?_ ?_
  · exact news_new _ _ _ _ rfl
  · intro u hu; simp at hu; subst hu; rfl
  · unfold maxLen; omega
  · omega
  · simp; omega
  · intro v' w' hown' hg hv
    have hBW : Below base W w' := Below.grown ((Below.refl base W).alloc h3 _) hg (by simp; omega) (fun j hj => (World.ownsRow.lt h1 j hj).1)
    have keep : ∀ k, k < W.heap.size → v.ownBlock ≠ some k → w'.heap[k]? = W.heap[k]? := fun k hk hne => (hg.block k (by simp; omega) (fun e => hne e.symm)).trans (alloc_old hk)
    have hvv : ∀ k, v'.ownBlock = some k → v.ownBlock = some k ∨ W.heap.size ≤ k := fun k hk => (hv k hk).imp id (fun h => by simp at h; omega)
    have hT : Touch (fun j => v.ownBlock = some j) W w' := ⟨hBW.os, hBW.tape, hBW.output, hBW.size, fun j hj hn => keep j hj hn⟩
    refine h v' w' ⟨bs ++ [cb], ?_, by rw [List.length_append, List.length_append, h2]; rfl, Nat.le_trans h3 hBW.size, fun i hi2 => ?_⟩ hBW
    · rw [List.length_append, List.map_append]
      exact hown'
    · rw [List.length_append] at hi2
      have hi3 : i < gs.length + 1 := hi2
      by_cases h5 : i < gs.length
      · rw [getD_app_l bs cb 0 (by omega), getD_app_l gs ls [] h5]
        obtain ⟨a1, a2, a3⟩ := h4 i h5
        exact ⟨a1.other hT a3, a2, fun e => by
          rcases hvv _ e with e2 | e2
          · exact a3 e2
          · have := a1.lt; omega⟩
      · rw [getD_app_r bs cb 0 (by omega), getD_app_r gs ls [] (by omega)]
        exact ⟨hrow.other hT hcv, hcb, fun e => by
          rcases hvv _ e with e2 | e2
          · exact hcv e2
          · have := hrow.lt; omega⟩
theorem SCodes.old {w : World} {base N : Nat} {v : Value} {gs : List (List Int)} (h : SCodes w base N v gs) : ∀ k, v.ownBlock = some k → k < w.heap.size := fun k hk => by
  obtain ⟨bs, h1, _⟩ := h
  exact (World.ownsRow.lt h1 k hk).2
/-! ### Bits -/
theorem info_ch12 : (Tryz.prog.info? 78).map (·.size) = some 2 := by kernel_rfl
set_option maxRecDepth 100000 in
set_option maxHeartbeats 8000000 in
theorem rbits14_any (a : Option Addr) (len c : Nat) (zs : List Int) (N : Nat) (w : World) (hI : IsInts w (.slice a len c) zs) (hlen : zs.length = len) (hz : len ≤ 1000) (hm : May14 zs (N : Int)) :
    Calls Tryz.prog 16 #[.slice a len c, .int .i64 (N : Int)] w fun e w' => e = .returned (.string (txt (allC (rnd zs N 4) (pks zs N) zs))) ∧ Below w.heap.size w w' := by
  have h3 : 3 ≤ N := by have := hm.1; omega
  have h258 : N ≤ 258 := by have := hm.2.1; omega
  have hz2 : zs.length ≤ 1000 := by omega
  have HC := Lib.hid (rOf12_any a len c zs N w hI hlen hz hm.2.2.2.1 (by have := hm.2.2.1; omega) h3 h258)
  have HPK := Lib.hid (hm.pk hz2)
  have HWH := Lib.hid (hm.whs hz2)
  have HTB := Lib.hid (hm.tbs hz2)
  have HSY : Hid (Syms zs (N : Int)) := Lib.hid hm.2.2.2.1
  have hT6 : (rnd zs N 4).length ≤ 6 := HPK.out.2.1
  have hpl : (pks zs N).length ≤ 32767 := HPK.out.2.2.2.1
  have hpb : (PkM.allB (pks zs N) (rnd zs N 4).length).length ≤ 200000 := by
    rw [PkM.allB_length, ← PkM.encK_all _ _ (Nat.le_refl _)]
    have := PkM.encK_len (pks zs N) hT6 (fun x hx => pks_lt x hx) _ (Nat.le_refl _)
    omega
  rw [pks_toI] at HC
  have HI := Lib.hid hI
  have HLEN := Lib.hid hlen
  clear hI hm
  generalize rnd zs N 4 = gs at *
  generalize hps : pks zs N = ps at *
  clear hps
  have HSL : Hid (∀ i, i ≤ len → (symB gs ps zs i).length ≤ 20000) := Lib.hid (fun i hi => by
    have := (symT_ge HTB.out (zs.take i) 0 (fun x hx => HSY.out x (List.mem_of_mem_take hx)) (by rw [List.length_take]; omega)).2
    rw [List.length_take] at this
    unfold symB
    omega)
  have HGL : Hid (∀ k, (gsB (gs.take k)).length ≤ 60600) := Lib.hid (fun k => by
    have := gsB_len h3 h258 (gs.take k) (fun g hg => HWH.out g (List.mem_of_mem_take hg))
    rw [List.length_take] at this
    omega)
  have HGB : Hid (∀ k, k < gs.length → gsB (gs.take (k + 1)) = gsB (gs.take k) ++ DelM.allB (rw_ gs k) ∧ DelM.May (rw_ gs k) ∧ (rw_ gs k).length = N ∧ WholeP (rw_ gs k) ∧ gs.take (k + 1) = gs.take k ++ [rw_ gs k]) := Lib.hid (fun k hk => by
    have hmem : rw_ gs k ∈ gs := by unfold rw_; rw [List.getD_eq_getElem?_getD, List.getElem?_eq_getElem hk]; exact List.getElem_mem hk
    obtain ⟨k1, k2⟩ := HWH.out _ hmem
    refine ⟨gsB_succ gs hk, ⟨by omega, by omega, k2.1⟩, k1, k2, ?_⟩
    rw [List.take_succ_eq_append_getElem hk]
    unfold rw_
    rw [List.getD_eq_getElem?_getD, List.getElem?_eq_getElem hk]
    rfl)
  go_enter Tryz.func16, Tryz.ntmps16
  go_wp2_with fail
  refine HC.out.mono ?_
  rintro e w1 ⟨vL, vP, rfl, hL, hP, hb⟩
  have hB2 := (Below.refl w1.heap.size w1).alloc (Nat.le_refl _) (.cells #[vL, vP] 78)
  have HB2 := Lib.hid hB2
  have HL := Lib.hid (hL.below hB2)
  have HP := Lib.hid (hP.below hB2)
  have HBW := Lib.hid (hb.alloc hb.size (.cells #[vL, vP] 78))
  have HBX := Lib.hid (heap_alloc_new w1 (.cells #[vL, vP] 78))
  obtain ⟨aL, cL, rfl, _⟩ := hL
  obtain ⟨aP, cP, rfl, _⟩ := hP
  obtain ⟨T, hT⟩ : ∃ T, gs.length = T := ⟨_, rfl⟩
  obtain ⟨M, hM⟩ : ∃ M, (PkM.toI ps).length = M := ⟨_, rfl⟩
  have HT := Lib.hid hT
  have HM := Lib.hid hM
  rw [hT, hM] at HBX HL HP HBW HB2
  rw [hT] at hT6 hpb
  obtain ⟨B, hBB⟩ : ∃ B, w1.heap.size = B := ⟨_, rfl⟩
  rw [hBB] at HBX HB2
  rw [hT, hM]
  have hsz2 : (w1.alloc (.cells #[.slice aL T cL, .slice aP M cP] 78)).heap.size = B + 1 := by simp [hBB]
  have HSZ2 := Lib.hid hsz2
  have HPB := Lib.hid (rbits13_any (.slice aP M cP) ps T (w1.alloc (.cells #[.slice aL T cL, .slice aP M cP] 78)) HP.out (by rw [← HT.out]; exact HPK.out))
  have c0 : (w1.alloc (.cells #[.slice aL T cL, .slice aP M cP] 78)).cell? ⟨B, 0, none⟩ = some (.slice aL T cL) := by rw [cell_of_row _ _ _ _ _ _ HBX.out]; rfl
  have c1 : (w1.alloc (.cells #[.slice aL T cL, .slice aP M cP] 78)).cell? ⟨B, 1, none⟩ = some (.slice aP M cP) := by rw [cell_of_row _ _ _ _ _ _ HBX.out]; rfl
  have hi := info_ch12
  clear hsz2 hb hB2 HC hM
  go_wp2_with fail
  refine HPB.out.mono ?_
  rintro e w3 ⟨rfl, nq, rfl⟩
  have c0 := c0
  generalize w1.alloc (.cells #[.slice aL T cL, .slice aP M cP] 78) = w2 at *
  clear HPB
  obtain ⟨q1, hq1⟩ : ∃ q1, PkM.allB ps T = q1 := ⟨_, rfl⟩
  have HQ1 := Lib.hid hq1
  rw [hq1] at hpb ⊢
  clear hq1
  have d0 : (w2.drewN nq).cell? ⟨B, 0, none⟩ = some (.slice aL T cL) := c0
  go_wp2_with fail
  go_loopw [6, 7, 24] (fun vo vc vk wr => ∃ (k : Nat), vk = .int .i64 (k : Int) ∧ k ≤ T ∧ vo = .string (txt (q1 ++ gsB (gs.take k))) ∧ SCodes wr (B + 1) N vc (gs.take k) ∧ Below (B + 1) w2 wr) (fun _ _ vk _ => T - (intOf vk).toNat)
  case atStart => exact ⟨0, rfl, by omega, by simp [gsB], SCodes.nil _ _ _ (by have := HSZ2.out; simp; omega), ⟨rfl, rfl, rfl, Nat.le_refl _, fun _ _ => rfl⟩⟩
  case round =>
    clear c0 c1 d0
    obtain ⟨k, rfl, hk, rfl, hsc, hbr⟩ := hrel
    by_cases hkT : k < T
    · have hki : (k : Int) < (T : Int) := by omega
      obtain ⟨hg3, hmay, hN, hwp, htk⟩ := HGB.out k (by rw [hT]; exact hkT)
      have hbr2 : Below w2.heap.size w2 wr := by rw [HSZ2.out]; exact hbr
      obtain ⟨b2, o2, cap2, u, he2, d2, hu⟩ := (HL.out.below hbr2).at_ (show k < gs.length by rw [hT]; exact hkT)
      rw [hT] at he2
      simp only [Value.slice.injEq] at he2
      obtain ⟨rfl, he2b, rfl⟩ := he2
      have HRB := Lib.hid (rbits11_any u (rw_ gs k) wr hu hmay)
      have HCO := Lib.hid (codes_any u (rw_ gs k) wr hu (by omega) hwp)
      rw [hN] at HCO
      have HSC := Lib.hid hsc
      have HBR := Lib.hid hbr
      have HG3 := Lib.hid hg3
      have HTK := Lib.hid htk
      obtain ⟨aC, cC, eC⟩ := hsc.slice
      have htl : (gs.take k).length = k := by rw [List.length_take]; omega
      rw [htl] at eC
      subst eC
      have hs2 : B + 1 ≤ wr.heap.size := by have := hbr.size; have := HSZ2.out; omega
      obtain ⟨S1, hS1⟩ : ∃ S, txt (q1 ++ gsB (gs.take k)) = S := ⟨_, rfl⟩
      obtain ⟨S2, hS2⟩ : ∃ S, txt (DelM.allB (rw_ gs k)) = S := ⟨_, rfl⟩
      have HSS : Hid (S1 ++ S2 = txt (q1 ++ gsB (gs.take (k + 1)))) := Lib.hid (by rw [← hS1, ← hS2, HG3.out, ← List.append_assoc, txt_append])
      have hs1z : S1.size ≤ 300000 := by rw [← hS1, txt_size, List.length_append]; have := HGL.out k; omega
      have hs2z : S2.size ≤ 60600 := by
        have h := HGL.out (k + 1)
        rw [HG3.out, List.length_append] at h
        rw [← hS2, txt_size]
        omega
      rw [hS2] at HRB
      rw [hS1]
      clear hS1 hS2
      have hkl : (gs.take k).length + 1 ≤ 1000000 := by rw [List.length_take]; omega
      clear hg3 hmay hN hwp htk hbr2 he2b hu hsc hbr
      go_wp2_with fail
      refine HRB.out.mono ?_
      rintro e w4 ⟨rfl, rfl⟩
      go_wp2_with fail
      refine HCO.out.mono ?_
      rintro e w5 ⟨rfl, hrs, hb5⟩
      have HRS := Lib.hid hrs
      have HB5 := Lib.hid hb5
      have HSC5 := Lib.hid (HSC.out.below hb5)
      obtain ⟨cb, hcb⟩ : ∃ cb, w4.heap.size = cb := ⟨_, rfl⟩
      have HCBB := Lib.hid hcb
      rw [hcb] at HRS hs2 ⊢
      have hcv : Hid ((Value.slice aC k cC).ownBlock ≠ some cb) := Lib.hid (fun e => by have := HSC.out.old cb e; omega)
      clear hrs hb5 hcb
      go_wp2_with (at_builtin; refine push_ss w5 rfl _ _ rfl (B + 1) N _ (gs.take k) (rw_ gs k) cb HSC5.out HRS.out hs2 hcv.out rfl rfl hkl ?_)
      intro v6 w6 hsc6 hb6
      have HF : Hid (SCodes w6 (B + 1) N v6 (gs.take (k + 1)) ∧ Below (B + 1) w2 w6) := Lib.hid ⟨by rw [HTK.out]; exact hsc6, (HBR.out.trans (HB5.out.mono (by rw [HCBB.out]; exact hs2))).trans hb6⟩
      clear hsc6 hb6
      go_wp2_with fail
      go_roundw
      case rel => exact ⟨k + 1, by go_num, by omega, by rw [HSS.out], HF.out.1, HF.out.2⟩
      case measure => simp [intOf]; omega
    · obtain rfl : k = T := by omega
      have hki : ¬ (k : Int) < (k : Int) := by omega
      have htk : gs.take k = gs := by rw [← hT, List.take_length]
      rw [htk] at hsc ⊢
      have HSC := Lib.hid hsc
      have HBR := Lib.hid hbr
      obtain ⟨q2, hq2⟩ : ∃ q2, q1 ++ gsB gs = q2 := ⟨_, rfl⟩
      have HQ2 := Lib.hid hq2
      rw [hq2]
      obtain ⟨w5, rfl⟩ : ∃ wz : World, wz = wr := ⟨_, rfl⟩
      clear htk hsc hbr hq2
      go_wp2_with fail
      go_loopw [6, 40] (fun vo vk wr => ∃ (i : Nat), vk = .int .i64 (i : Int) ∧ i ≤ len ∧ vo = .string (txt (q2 ++ symB gs ps zs i)) ∧ Below w5.heap.size w5 wr) (fun _ vk _ => len - (intOf vk).toNat)
      case atStart => exact ⟨0, rfl, by omega, by simp [symB, symT], ⟨rfl, rfl, rfl, Nat.le_refl _, fun _ _ => rfl⟩⟩
      case round =>
        obtain ⟨i, rfl, hil, rfl, hbr⟩ := hrel
        have HBRR := Lib.hid hbr
        have hB2r : Below w2.heap.size w2 wr := by
          rw [HSZ2.out]
          exact HBR.out.trans (hbr.mono (by have := HBR.out.size; have := HSZ2.out; omega))
        have HBF : Hid (Below w.heap.size w wr) := Lib.hid (HBW.out.trans (hB2r.mono HBW.out.size))
        by_cases hilt : i < len
        · have hii : (i : Int) < (len : Int) := by omega
          obtain ⟨b1, o1, k1, he1, d1⟩ := (HI.out.below HBF.out).cell (show i < zs.length by rw [HLEN.out]; exact hilt)
          rw [HLEN.out] at he1
          simp only [Value.slice.injEq] at he1
          obtain ⟨rfl, he1b, rfl⟩ := he1
          have hsy := HSY.out _ (FreqM.getD_mem zs i (by rw [HLEN.out]; exact hilt))
          have hiH : Hid (i < zs.length) := Lib.hid (by rw [HLEN.out]; exact hilt)
          obtain ⟨z, hz⟩ : ∃ z : Nat, zs.getD i 0 = (z : Int) := ⟨(zs.getD i 0).toNat, by omega⟩
          rw [hz] at d1 hsy
          have HZ := Lib.hid hz
          have c1 : wr.cell? ⟨B, 1, none⟩ = some (.slice aP M cP) := by
            rw [cell_of_row _ _ _ _ _ _ ((hB2r.block B (by rw [HSZ2.out]; omega)).trans HBX.out)]; rfl
          obtain ⟨htb1, htb2, htb3⟩ := HTB.out i hiH.out
          obtain ⟨b3, o3, k3, he3, d3⟩ := (HP.out.below hB2r).cell (show i / 50 < (PkM.toI ps).length by rw [PkM.toI_length]; exact htb1)
          rw [HM.out] at he3
          simp only [Value.slice.injEq] at he3
          obtain ⟨rfl, he3b, rfl⟩ := he3
          rw [PkM.toI_getD] at d3
          obtain ⟨P, hP⟩ : ∃ P, ps.getD (i / 50) 0 = P := ⟨_, rfl⟩
          rw [hP] at d3
          have hPlt : P < gs.length := by
            rw [← hP, List.getD_eq_getElem?_getD, List.getElem?_eq_getElem htb1]
            exact HPK.out.2.2.2.2 _ (List.getElem_mem htb1)
          obtain ⟨cg, cC, cb, eC, d4, hrs⟩ := (HSC.out.below hbr).at_ hPlt
          subst eC
          rw [hT]
          obtain ⟨G, hG⟩ : ∃ G, i / 50 = G := ⟨_, rfl⟩
          rw [hG] at d3
          have htbi : CodM.tb gs ps i = gs.getD P [] := by unfold CodM.tb; rw [hP]
          rw [← htbi] at hrs
          have hzN : z < N := by omega
          have d5 := (hrs.cell hzN).1
          have hgi0 : (0 : Int) ≤ (i : Int) / 50 := by omega
          have hgi2 : ((i : Int) / 50).toNat = G := by omega
          have hgi1 : (i : Int) / 50 < (M : Int) := by
            have := HM.out
            rw [PkM.toI_length] at this
            omega
          have hPi : (P : Int) < (k : Int) := by rw [hT] at hPlt; omega
          have hzi : (z : Int) < (N : Int) := by omega
          have HNX : Hid (txt (q2 ++ symB gs ps zs i) ++ txt (code (CodM.tb gs ps i) z) = txt (q2 ++ symB gs ps zs (i + 1))) := Lib.hid (by
            rw [txt_append, symB_succ gs ps zs hiH.out, HZ.out, Int.toNat_natCast, List.append_assoc])
          obtain ⟨S1, hS1⟩ : ∃ S, txt (q2 ++ symB gs ps zs i) = S := ⟨_, rfl⟩
          obtain ⟨S2, hS2⟩ : ∃ S, txt (code (CodM.tb gs ps i) z) = S := ⟨_, rfl⟩
          have hs1z : S1.size ≤ 400000 := by
            have h1 := HSL.out i hil
            have h2 := HGL.out gs.length
            rw [List.take_length] at h2
            rw [← hS1, txt_size, List.length_append, ← HQ2.out, List.length_append]
            omega
          have hs2z : S2.size ≤ 20000 := by
            have h1 := HSL.out (i + 1) (by omega)
            rw [symB_succ gs ps zs hiH.out, HZ.out, Int.toNat_natCast, List.length_append] at h1
            rw [← hS2, txt_size]
            omega
          rw [hS2] at d5
          rw [hS1, hS2] at HNX
          rw [hS1]
          clear hbr hB2r he1b htb1 htb2 htb3 he3b hP hPlt hrs hsy hz htbi hS1 hS2
          go_wp2_with fail
          go_roundw
          case rel => exact ⟨i + 1, by go_num, by omega, by rw [HNX.out], HBRR.out⟩
          case measure => simp [intOf]; omega
        · obtain rfl : i = len := by omega
          have hii : ¬ (i : Int) < (i : Int) := by omega
          have e : Hid (allC gs ps zs = q2 ++ symB gs ps zs i) := Lib.hid (by
            unfold allC
            rw [← HQ2.out, ← HQ1.out, HT.out, HLEN.out])
          clear hbr hB2r
          go_wp2_with fail
          go_ret
          exact ⟨by rw [e.out]; rfl, HBF.out⟩
end Go.Proofs.YtehmmogdboaofaaGreatDoor
namespace Go.Proofs.YtehmmogdboaofaaGreatDoor
open Go.RowKit BitM HufM CanM CodM TabM FreqM
set_option linter.unusedVariables false
/-- Two numbers boxed. -/
def PairU (w : World) (B : Nat) (X Y : Nat) : Prop := w.cell? ⟨B, 0, none⟩ = some (.int .u32 (X : Int)) ∧ w.cell? ⟨B, 1, none⟩ = some (.int .u32 (Y : Int))
theorem PairU.below {w w' : World} {B X Y C : Nat} (h : PairU w B X Y) (hb : Below C w w') (hB : B < C) : PairU w' B X Y :=
  ⟨(World.cell?_of_block (w := w) (a := ⟨B, 0, none⟩) (hb.block B hB)).trans h.1, (World.cell?_of_block (w := w) (a := ⟨B, 1, none⟩) (hb.block B hB)).trans h.2⟩
theorem PairU.boxed (w : World) (X Y : Nat) : PairU (w.alloc (.cells #[.int .u32 (X : Int), .int .u32 (Y : Int)] 24)) w.heap.size X Y :=
  ⟨by rw [cell_of_row _ _ 0 _ _ _ (heap_alloc_new _ _)]; rfl, by rw [cell_of_row _ _ 1 _ _ _ (heap_alloc_new _ _)]; rfl⟩
theorem box_sz (w : World) (o : Obj) : (w.alloc o).heap.size = w.heap.size + 1 := by show (w.heap.push _).size = _; simp
def SzP (n : Int) : Prop := 40 < n ∧ n ≤ 258
set_option maxRecDepth 100000 in
set_option maxHeartbeats 4000000 in
theorem codeWrites.far (l : Option Addr) (llen lcap : Nat) (n : Int) (X Y : Nat) (w : World) (hB : Bnds w) (h : 260 < llen ∨ SzP n ∨ ¬ Fits X ((Y % 9 : Nat) : Int)) (hX : X < 4294967296) (hY : Y < 4294967296) :
    Calls Tryz.prog 3 #[.slice l llen lcap, .int .i64 n, .agg #[.int .u32 (X : Int), .int .u32 (Y : Int)]] w fun e w' => e = .returned (.bool true) ∧ Below w.heap.size w w' := by
  have HBN := Lib.hid hB
  have H2 := Lib.hid (fun W (h : Bnds W) => codTwo_any W h)
  obtain ⟨c0, c1⟩ := PairU.boxed w X Y
  have HB0 : Hid (Below w.heap.size w (w.alloc (.cells #[.int .u32 (X : Int), .int .u32 (Y : Int)] 24))) := Lib.hid ((Below.refl _ _).alloc (Nat.le_refl _) _)
  have e1 : ((Y : Int).tmod 9) = ((Y % 9 : Nat) : Int) := by rw [Int.tmod_eq_emod_of_nonneg (by omega)]; omega
  have e2 : IntKind.u32.wrap ((Y % 9 : Nat) : Int) = ((Y % 9 : Nat) : Int) := by simp [IntKind.wrap, IntKind.bits, IntKind.signed]; omega
  have hn9 : Y % 9 < 9 := Nat.mod_lt _ (by omega)
  clear hB
  by_cases h1 : 260 < llen
  · have h1i : (260 : Int) < (llen : Int) := by omega
    clear h e1 e2
    go_enter Tryz.func3, Tryz.ntmps3
    go_wp2_with fail
    refine (H2.out _ (HBN.out.below HB0.out)).mono ?_
    rintro e w9 ⟨rfl, hb9⟩
    have HB9 := Lib.hid (HB0.out.trans (hb9.mono HB0.out.size))
    clear hb9
    go_wp2_with fail
    go_ret
    exact ⟨rfl, HB9.out⟩
  have h1i : ¬ (260 : Int) < (llen : Int) := by omega
  by_cases h2 : SzP n
  · obtain ⟨h2a, h2b⟩ := h2
    clear h e1 e2
    go_enter Tryz.func3, Tryz.ntmps3
    go_wp2_with fail
    refine (H2.out _ (HBN.out.below HB0.out)).mono ?_
    rintro e w9 ⟨rfl, hb9⟩
    have HB9 := Lib.hid (HB0.out.trans (hb9.mono HB0.out.size))
    clear hb9
    go_wp2_with fail
    go_ret
    exact ⟨rfl, HB9.out⟩
  have HF := Lib.hid (fun W => fits_not X ((Y % 9 : Nat) : Int) W ((h.resolve_left h1).resolve_left h2) hX)
  obtain ⟨m, hm⟩ : ∃ m, Y % 9 = m := ⟨_, rfl⟩
  rw [hm] at HF e1 e2 hn9
  by_cases h3 : 40 < n
  · have h4 : ¬ n ≤ 258 := fun e => h2 ⟨h3, e⟩
    clear h h2 hm
    go_enter Tryz.func3, Tryz.ntmps3
    go_wp2_with fail
    refine (HF.out _).mono ?_
    rintro e w1 ⟨rfl, rfl⟩
    go_wp2_with fail
    refine (H2.out _ (HBN.out.below HB0.out)).mono ?_
    rintro e w9 ⟨rfl, hb9⟩
    have HB9 := Lib.hid (HB0.out.trans (hb9.mono HB0.out.size))
    clear hb9
    go_wp2_with fail
    go_ret
    exact ⟨rfl, HB9.out⟩
  · clear h h2 hm
    go_enter Tryz.func3, Tryz.ntmps3
    go_wp2_with fail
    refine (HF.out _).mono ?_
    rintro e w1 ⟨rfl, rfl⟩
    go_wp2_with fail
    refine (H2.out _ (HBN.out.below HB0.out)).mono ?_
    rintro e w9 ⟨rfl, hb9⟩
    have HB9 := Lib.hid (HB0.out.trans (hb9.mono HB0.out.size))
    clear hb9
    go_wp2_with fail
    go_ret
    exact ⟨rfl, HB9.out⟩
set_option maxRecDepth 100000 in
set_option maxHeartbeats 4000000 in
theorem codeWrites.bad (l : Option Addr) (llen lcap : Nat) (zs : List Int) (t : Int) (X Y : Nat) (w : World) (hB : Bnds w) (hI : IsInts w (.slice l llen lcap) zs) (hlen : zs.length = llen) (h : llen ≤ 260) (hs : ¬ SzP t) (ht : -9223372036854775808 ≤ t ∧ t ≤ 9223372036854775807) (hf : X < 2 ^ (Y % 9)) (hX : X < 4294967296) (hY : Y < 4294967296) (hmay : ¬ May14 zs t) :
    Calls Tryz.prog 3 #[.slice l llen lcap, .int .i64 t, .agg #[.int .u32 (X : Int), .int .u32 (Y : Int)]] w fun e w' => e = .returned (.bool true) ∧ Below w.heap.size w w' := by
  have HBN := Lib.hid hB
  have H2 := Lib.hid (fun W (h : Bnds W) => codTwo_any W h)
  have HPR := Lib.hid (PairU.boxed w X Y)
  obtain ⟨c0, c1⟩ := HPR.out
  have HBX := (Below.refl w.heap.size w).alloc (Nat.le_refl _) (.cells #[.int .u32 (X : Int), .int .u32 (Y : Int)] 24)
  have HB0 := Lib.hid HBX
  have HSZ := Lib.hid (box_sz w (.cells #[.int .u32 (X : Int), .int .u32 (Y : Int)] 24))
  have HI := Lib.hid (hI.below HBX)
  have hn9 : Y % 9 < 9 := Nat.mod_lt _ (by omega)
  have e1 : ((Y : Int).tmod 9) = ((Y % 9 : Nat) : Int) := by rw [Int.tmod_eq_emod_of_nonneg (by omega)]; omega
  have e2 : IntKind.u32.wrap ((Y % 9 : Nat) : Int) = ((Y % 9 : Nat) : Int) := by simp [IntKind.wrap, IntKind.bits, IntKind.signed]; omega
  obtain ⟨n, hn⟩ : ∃ n, Y % 9 = n := ⟨_, rfl⟩
  rw [hn] at e1 e2 hn9 hf
  have HF := Lib.hid (fun W => fits_yes X n W (by omega) hf hX)
  have HFF := Lib.hid hf
  have HLE : Hid (zs.length ≤ 260) := Lib.hid (by omega)
  have HWB := Lib.hid (fun g W (hW : IsInts W (.slice l llen lcap) zs) => cwrite_bad g _ zs t W hW (by omega) hmay ht)
  have HBB := Lib.hid (fun W (hW : IsInts W (.slice l llen lcap) zs) => cbits_bad _ zs t W hW (by omega) hmay ht)
  have HMM := Lib.hid (fun W (hW : IsInts W (.slice l llen lcap) zs) => rmay14_any _ zs t false W hW ⟨fun e => (by cases e), fun e => absurd e hmay⟩ (by omega))
  have hfl : ([] ++ field X n).length = n := by rw [List.nil_append, field_length]
  have HFL := Lib.hid hfl
  have h1i : ¬ (260 : Int) < (llen : Int) := by omega
  clear hI hlen hmay hfl hn HBX hf hB h
  by_cases h40 : 40 < t
  all_goals
    first
    | (have h40b : ¬ t ≤ 258 := fun e => hs ⟨h40, e⟩; clear hs)
    | clear hs
    go_enter Tryz.func3, Tryz.ntmps3
    go_wp2_with fail
    generalize hw0 : w.alloc (.cells #[.int .u32 (X : Int), .int .u32 (Y : Int)] 24) = w0 at *
    clear hw0
    refine (HF.out _).mono ?_
    rintro e w1 ⟨rfl, rfl⟩
    go_wp2_with fail
    refine (newWriter_any w0).mono ?_
    rintro e w2 ⟨rfl, hw2, hb2⟩
    have HW2 := Lib.hid hw2
    have HB02 := Lib.hid hb2
    obtain ⟨d0, d1⟩ := HPR.out.below hb2 (by have := HSZ.out; omega)
    have HGE : Hid (w.heap.size ≤ w0.heap.size) := Lib.hid (by have := HSZ.out; omega)
    clear hw2 hb2 c0 c1
    go_wp2_with fail
    refine (put_any w0.heap.size _ [] 0 X n w2 HW2.out (by omega) HFF.out (by simp)).mono ?_
    rintro e w3 ⟨rfl, v3, hw3, ht3, _⟩
    have HW3 := Lib.hid hw3
    have HB03 := Lib.hid (HB02.out.trans (ht3.below HB02.out.size (fun i hi => (HW2.out.lt i hi).2)))
    have HI3 := Lib.hid (HI.out.below HB03.out)
    clear hw3 ht3 d0 d1
    go_wp2_with fail
    refine (HWB.out _ w3 HI3.out).mono ?_
    rintro e w4 ⟨rfl, hb4⟩
    have HB04 := Lib.hid (HB03.out.trans (hb4.mono HB03.out.size))
    have HW4 := Lib.hid (HW3.out.other (Touch.ofBelow (S := fun _ => False) hb4) (fun _ _ h => h))
    have HI4 := Lib.hid (HI.out.below HB04.out)
    clear hb4
    go_wp2_with fail
    refine (HBB.out w4 HI4.out).mono ?_
    rintro e w5 ⟨rfl, hb5⟩
    have HB05 := Lib.hid (HB04.out.trans (hb5.mono HB04.out.size))
    have HW5 := Lib.hid (HW4.out.other (Touch.ofBelow (S := fun _ => False) hb5) (fun _ _ h => h))
    have HI5 := Lib.hid (HI.out.below HB05.out)
    clear hb5
    go_wp2_with fail
    refine (HMM.out w5 HI5.out).mono ?_
    rintro e w6 ⟨rfl, hb6⟩
    have HB06 := Lib.hid (HB05.out.trans (hb6.mono HB05.out.size))
    have HW6 := Lib.hid (HW5.out.other (Touch.ofBelow (S := fun _ => False) hb6) (fun _ _ h => h))
    clear hb6
    go_wp2_with fail
    refine (wlen_any _ _ _ _ _ HW6.out).mono ?_
    rintro e w7 ⟨rfl, rfl⟩
    rw [HFL.out]
    go_wp2_with fail
    refine (H2.out _ (HBN.out.below (HB0.out.trans (HB06.out.mono HGE.out)))).mono ?_
    rintro e w9 ⟨rfl, hb9⟩
    have HB9 := Lib.hid (HB0.out.trans ((HB06.out.trans (hb9.mono HB06.out.size)).mono HGE.out))
    clear hb9
    go_wp2_with fail
    go_ret
    exact ⟨rfl, HB9.out⟩
set_option maxRecDepth 100000 in
set_option maxHeartbeats 8000000 in
theorem codeWrites.good (l : Option Addr) (llen lcap : Nat) (zs : List Int) (t X Y : Nat) (w : World) (hB : Bnds w) (hI : IsInts w (.slice l llen lcap) zs) (hlen : zs.length = llen) (hc : llen ≤ lcap) (hc2 : lcap ≤ 9223372036854775807) (h : llen ≤ 260) (hs : t ≤ 40) (hf : X < 2 ^ (Y % 9)) (hX : X < 4294967296) (hY : Y < 4294967296) (hmay : May14 zs (t : Int)) :
    Calls Tryz.prog 3 #[.slice l llen lcap, .int .i64 (t : Int), .agg #[.int .u32 (X : Int), .int .u32 (Y : Int)]] w fun e w' => e = .returned (.bool true) ∧ Below w.heap.size w w' := by
  have HBN := Lib.hid hB
  have H2 := Lib.hid (fun W (h : Bnds W) => codTwo_any W h)
  have HPR := Lib.hid (PairU.boxed w X Y)
  obtain ⟨c0, c1⟩ := HPR.out
  have HBX := (Below.refl w.heap.size w).alloc (Nat.le_refl _) (.cells #[.int .u32 (X : Int), .int .u32 (Y : Int)] 24)
  have HB0 := Lib.hid HBX
  have HSZ := Lib.hid (box_sz w (.cells #[.int .u32 (X : Int), .int .u32 (Y : Int)] 24))
  have HIB : Hid (∀ k, (Value.slice l llen lcap).ownBlock = some k → k < w.heap.size) := Lib.hid (fun k hk => by
    obtain ⟨a2, c2, e2, hcell⟩ := hI
    simp only [Value.slice.injEq] at e2
    obtain ⟨rfl, _, rfl⟩ := e2
    obtain ⟨b3, o3, rfl, h4⟩ := hcell 0 (zs[0]'(by have := hmay.2.2.1; omega)) (List.getElem?_eq_getElem _)
    have : k = b3 := (Option.some.inj hk).symm
    subst this
    exact cell_lt h4)
  have HI := Lib.hid (hI.below HBX)
  have hn9 : Y % 9 < 9 := Nat.mod_lt _ (by omega)
  have e1 : ((Y : Int).tmod 9) = ((Y % 9 : Nat) : Int) := by rw [Int.tmod_eq_emod_of_nonneg (by omega)]; omega
  have e2 : IntKind.u32.wrap ((Y % 9 : Nat) : Int) = ((Y % 9 : Nat) : Int) := by simp [IntKind.wrap, IntKind.bits, IntKind.signed]; omega
  obtain ⟨n, hn⟩ : ∃ n, Y % 9 = n := ⟨_, rfl⟩
  rw [hn] at e1 e2 hn9 hf
  have HF := Lib.hid (fun W => fits_yes X n W (by omega) hf hX)
  have HFT := Lib.hid (fun W => fieldTxt_any X n W (by omega) hX)
  have HFF := Lib.hid hf
  have h1i : ¬ (260 : Int) < (llen : Int) := by omega
  have h40 : ¬ (40 : Int) < (t : Int) := by omega
  have hal : Hid ((allC (rnd zs t 4) (pks zs t) zs).length ≤ 300000) := Lib.hid (hmay.len (by omega))
  have HWR := Lib.hid (fun (g : Nat) (v : Value) (q : List Bool) (W : World) (h1 : IsWriter W g v q 0) (h2 : IsInts W (.slice l llen lcap) zs) (h3 : Bnds W) (h4 : ∀ k, (Value.slice l llen lcap).ownBlock = some k → ¬ foot g v k) (h5 : q.length ≤ 1000000) => cwrite_any g v q 0 l llen lcap zs t W h1 h2 hlen (by omega) hc hc2 h3 hmay h4 h5)
  have HDB := Lib.hid (fun W (hv : IsInts W (.slice l llen lcap) zs) (h3 : Bnds W) => cbits_any l llen lcap zs t W hv hlen (by omega) hc hc2 h3 hmay)
  have HRB := Lib.hid (fun W (hv : IsInts W (.slice l llen lcap) zs) => rbits14_any l llen lcap zs t W hv hlen (by omega) hmay)
  have HMM := Lib.hid (fun W (hW : IsInts W (.slice l llen lcap) zs) => rmay14_any _ zs (t : Int) true W hW ⟨fun _ => hmay, fun _ => rfl⟩ (by omega))
  obtain ⟨AL, hAL⟩ : ∃ AL, allC (rnd zs t 4) (pks zs t) zs = AL := ⟨_, rfl⟩
  rw [hAL] at hal HWR HDB HRB
  obtain ⟨Q, hQ⟩ : ∃ Q, field X n ++ AL = Q := ⟨_, rfl⟩
  have HQ := Lib.hid hQ
  have HQL : Hid (Q.length ≤ 400000) := Lib.hid (by rw [← hQ, List.length_append, field_length]; have := hal.out; omega)
  have HPK := Lib.hid (fun W => pack_any Q W (by have := HQL.out; omega))
  have hs1 : (txt (field X n)).size ≤ 40 := by rw [txt_size, field_length]; omega
  have hs2 : (txt AL).size ≤ 300000 := by rw [txt_size]; exact hal.out
  have HTT : Hid (txt (field X n) ++ txt AL = txt Q) := Lib.hid (by rw [txt_append, hQ])
  have hlb : (AL.length : Int) = ((txt AL).size : Int) := by rw [txt_size]
  rw [hlb] at HDB
  clear hI hlen hmay hlb hQ h hn HBX hf hB hAL hs
  generalize hS1 : txt (field X n) = S1 at *
  generalize hS2 : txt AL = S2 at *
  clear hS1 hS2
  have hcat : ∀ W, (Op.stringOp .add S1 S2).run Tryz.prog W = .ok (.string (S1 ++ S2)) W := fun W => by
    rw [run_string_add_if, if_neg (by omega)]
  go_enter Tryz.func3, Tryz.ntmps3
  go_wp2_with fail
  generalize hw0 : w.alloc (.cells #[.int .u32 (X : Int), .int .u32 (Y : Int)] 24) = w0 at *
  clear hw0
  refine (HF.out _).mono ?_
  rintro e w1 ⟨rfl, rfl⟩
  go_wp2_with fail
  refine (newWriter_any w0).mono ?_
  rintro e w2 ⟨rfl, hw2, hb2⟩
  have HW2 := Lib.hid hw2
  have HB02 := Lib.hid hb2
  obtain ⟨d0, d1⟩ := HPR.out.below hb2 (by have := HSZ.out; omega)
  have HGE : Hid (w.heap.size < w0.heap.size) := Lib.hid (by have := HSZ.out; omega)
  have HBNW : Hid (∀ W, Below w0.heap.size w0 W → Bnds W) := Lib.hid (fun W hb => HBN.out.below (HB0.out.trans (hb.mono (Nat.le_of_lt HGE.out))))
  clear hw2 hb2 c0 c1
  go_wp2_with fail
  refine (put_any w0.heap.size _ [] 0 X n w2 HW2.out (by omega) HFF.out (by simp)).mono ?_
  rintro e w3 ⟨rfl, v3, hw3, ht3, _⟩
  have HW3 := Lib.hid hw3
  have HB3 := Lib.hid (HB02.out.trans (ht3.below HB02.out.size (fun i hi => (HW2.out.lt i hi).2)))
  clear hw3 ht3 d0 d1
  go_wp2_with fail
  refine (HWR.out _ v3 _ w3 HW3.out (HI.out.below HB3.out) (HBNW.out _ HB3.out) (fun k hk hf => by
    have h1 := HIB.out k hk
    have h2 := (HW3.out.lt k hf).2
    have h3 := HGE.out
    omega) (by rw [List.nil_append, field_length]; omega)).mono ?_
  rintro e w4 ⟨rfl, v4, hw4, ht4, _⟩
  rw [List.nil_append, HQ.out] at hw4
  have HW4 := Lib.hid hw4
  have HB4 := Lib.hid (HB3.out.trans (ht4.below HB3.out.size (fun i hi => (HW3.out.lt i hi).2)))
  clear hw4 ht4
  go_wp2_with fail
  refine (HDB.out w4 (HI.out.below HB4.out) (HBNW.out _ HB4.out)).mono ?_
  rintro e w5 ⟨rfl, hb5⟩
  have HW5 : Hid (IsWriter w5 w0.heap.size v4 Q 0) := Lib.hid (HW4.out.other (Touch.ofBelow (S := fun _ => False) hb5) (fun _ _ h => h))
  have HB5 : Hid (Below w0.heap.size w0 w5) := Lib.hid (HB4.out.trans (hb5.mono HB4.out.size))
  clear hb5
  go_wp2_with fail
  refine (HMM.out _ (HI.out.below HB5.out)).mono ?_
  rintro e w6 ⟨rfl, hb6⟩
  have HW6 : Hid (IsWriter w6 w0.heap.size v4 Q 0) := Lib.hid (HW5.out.other (Touch.ofBelow (S := fun _ => False) hb6) (fun _ _ h => h))
  have HB6 : Hid (Below w0.heap.size w0 w6) := Lib.hid (HB5.out.trans (hb6.mono HB5.out.size))
  clear hb6
  go_wp2_with fail
  refine (HRB.out _ (HI.out.below HB6.out)).mono ?_
  rintro e w7 ⟨rfl, hb7⟩
  have HW7 : Hid (IsWriter w7 w0.heap.size v4 Q 0) := Lib.hid (HW6.out.other (Touch.ofBelow (S := fun _ => False) hb7) (fun _ _ h => h))
  have HB7 : Hid (Below w0.heap.size w0 w7) := Lib.hid (HB6.out.trans (hb7.mono HB6.out.size))
  clear hb7
  go_wp2_with fail
  refine (wpad_any _ v4 Q 0 _ HW7.out (by have := HQL.out; omega)).mono ?_
  rintro e w8 ⟨rfl, v8, h8a, h8b, h8c⟩
  have HW8 : Hid (IsWriter (w8.drewN 1) w0.heap.size v8 (Q ++ padding Q) 0) := Lib.hid (h8a.other (touch_drewN (fun _ => False) _ 1) (fun _ _ h => h))
  have HB8 : Hid (Below w0.heap.size w0 (w8.drewN 1)) := Lib.hid ((HB7.out.trans (h8b.below HB7.out.size (fun i hi => (HW7.out.lt i hi).2))).trans ⟨rfl, rfl, rfl, Nat.le_refl _, fun _ _ => rfl⟩)
  have HPR8 : Hid (∀ W, Below w0.heap.size w0 W → W.cell? ⟨w.heap.size, 0, none⟩ = some (.int .u32 (X : Int))) := Lib.hid (fun W hb => (HPR.out.below hb HGE.out).1)
  have k8 := HPR8.out _ HB8.out
  clear h8a h8b h8c
  have k80 : w8.cell? ⟨w.heap.size, 0, none⟩ = some (.int .u32 (X : Int)) := k8
  obtain ⟨T, hT⟩ : ∃ T : ByteArray, (⟨(byts (Q ++ padding Q)).toArray⟩ : ByteArray) = T := ⟨_, rfl⟩
  have HT := Lib.hid hT
  rw [hT] at HPK
  clear hT hs1 e1 e2 h1i
  go_wp2_with fail
  go_region_held3 (fun W => W.cell? ⟨w.heap.size, 0, none⟩ = some (.int .u32 (X : Int))) (go_keep)
    (first
      | (go_at_call 18; refine (wtake_any _ v8 _ 0 _ HW8.out).mono ?_; rintro e w9 ⟨rfl, _, h9b⟩; have HB9 := Lib.hid (HB8.out.trans (h9b.below HB8.out.size (fun i hi => (HW8.out.lt i hi).2))); have k9 := HPR8.out _ HB9.out; rw [List.drop_zero, HT.out]; clear h9b)
      | (go_at_call 20; refine (HFT.out _).mono ?_; rintro e w10 ⟨rfl, rfl⟩)
      | (go_at_call 19; rw [HTT.out]; refine (HPK.out _).mono ?_; rintro e w11 ⟨rfl, hb11⟩; have HB11 := Lib.hid (HB9.out.trans (hb11.mono HB9.out.size)); have k11 := HPR8.out _ HB11.out; clear hb11)
      | (go_at_call 9; refine (H2.out _ (HBNW.out _ HB11.out)).mono ?_; rintro e w12 ⟨rfl, hb12⟩; have HB12 := Lib.hid (HB11.out.trans (hb12.mono HB11.out.size)); have k12 := HPR8.out _ HB12.out; clear hb12))
  all_goals go_wp2_with fail
  all_goals go_ret
  all_goals exact ⟨rfl, HB0.out.trans (HB12.out.mono (Nat.le_of_lt HGE.out))⟩
theorem codeWrites.walk (l : Option Addr) (llen lcap : Nat) (lz : List Int) (t : Int) (q0 q1 : Int) (w : World) (hB : Bnds w) (hl : IsRow .i64 w l llen lcap lz) (ht : (Lit.int .i64 t).wf = true) (hq : (Lit.int .u32 q0).wf = true ∧ (Lit.int .u32 q1).wf = true) :
    Calls Tryz.prog 3 #[.slice l llen lcap, .int .i64 t, .agg #[.int .u32 q0, .int .u32 q1]] w fun e w' => e = .returned (.bool true) ∧ Below w.heap.size w w' := by
  obtain ⟨hI, hlen⟩ := ints_in hl
  obtain ⟨hl1, hl2⟩ := isRow_len hl
  generalize List.take llen lz = zs at *
  obtain ⟨hq0, hq1⟩ := hq
  simp only [Lit.wf, Bool.and_eq_true, decide_eq_true_eq] at hq0 hq1 ht
  have hv0 : 0 ≤ q0 ∧ q0 ≤ 4294967295 := hq0
  have hv1 : 0 ≤ q1 ∧ q1 ≤ 4294967295 := hq1
  have htt : -9223372036854775808 ≤ t ∧ t ≤ 9223372036854775807 := ht
  clear hq0 hq1 ht
  obtain ⟨X, rfl⟩ : ∃ X : Nat, q0 = (X : Int) := ⟨q0.toNat, by omega⟩
  obtain ⟨Y, rfl⟩ : ∃ Y : Nat, q1 = (Y : Int) := ⟨q1.toNat, by omega⟩
  by_cases hfar : 260 < llen ∨ SzP t ∨ ¬ Fits X ((Y % 9 : Nat) : Int)
  · exact codeWrites.far l llen lcap t X Y w hB hfar (by omega) (by omega)
  · have hfit : Fits X ((Y % 9 : Nat) : Int) := Classical.not_not.1 (fun h => hfar (Or.inr (Or.inr h)))
    have hr : llen ≤ 260 := by
      have : ¬ 260 < llen := fun h => hfar (Or.inl h)
      omega
    have hsz : ¬ SzP t := fun h => hfar (Or.inr (Or.inl h))
    obtain ⟨m, hm, _, hf⟩ := hfit
    have hm2 : Y % 9 = m := by omega
    rw [← hm2] at hf
    by_cases hmay : May14 zs t
    · have h1 := hmay.1
      have h2 := hmay.2.1
      obtain ⟨N, rfl⟩ : ∃ N : Nat, t = (N : Int) := ⟨t.toNat, by omega⟩
      exact codeWrites.good l llen lcap zs N X Y w hB hI hlen (by omega) (by omega) hr (Classical.byContradiction fun e => hsz ⟨by omega, h2⟩) hf (by omega) (by omega) hmay
    · exact codeWrites.bad l llen lcap zs t X Y w hB hI hlen hr hsz htt hf (by omega) (by omega) hmay
end Go.Proofs.YtehmmogdboaofaaGreatDoor
namespace Go.Proofs.YtehmmogdboaofaaGreatDoor
open Go.ChangeShapes Go.WideShapes Go.RowKit
theorem int_cell {H : Type} {enc : TypeId × Value → H} {P : Program} {w : World} {base : Nat} {sp : Nat → Bool} {held : Bool} {fuel : Nat} {t : TypeId} {k : IntKind} {cs : List Value} {y : DataW H × List MemPlace} {n : Int}
    (ht : P.underlying t = some (.int k)) (h : DataW.trod enc P w base sp held fuel t cs = some y) (hy : y.1 = .lit (.int k n)) : cs = [.int k n] := by
  obtain ⟨m, rfl, e, _⟩ := DataW.trod_int ht h
  rw [e] at hy
  simp at hy
  rw [hy]
/-- A table of whole numbers: its cells, all of them. -/
theorem table_all {H : Type} {enc : TypeId × Value → H} {P : Program} {w : World} {base : Nat} {sp : Nat → Bool} {held : Bool} {fuel n : Nat} {t e : TypeId} {k : IntKind} {cs : List Value} {ps : List MemPlace} {ns : List Int}
    (ht : P.underlying t = some (.array n e)) (he : P.underlying e = some (.int k)) (hc : P.cellsOf e = 1) (hct : P.cellsOf t = ns.length)
    (h : DataW.trod enc P w base sp held fuel t cs = some (.agg (ns.map fun x => .lit (.int k x)), ps)) : cs = ns.map fun x => .int k x := by
  obtain ⟨xs, m, hx0, hx, hl, hn, hel⟩ := DataW.trod_array ht h
  simp only [Prod.mk.injEq, DataW.agg.injEq] at hx
  have hlen : xs.length = ns.length := by
    have := congrArg List.length hx.1
    simpa using this.symm
  apply List.ext_getElem?
  intro j
  by_cases hj : j < ns.length
  · have h1 := hel j (by omega)
    have hxj : xs[j]? = some (xs[j]'(by omega)) := List.getElem?_eq_getElem _
    rw [hxj, hc] at h1
    have hnj : ns[j]? = some ns[j] := List.getElem?_eq_getElem hj
    have h2 := int_cell (n := ns[j]) he h1 (by
      have := congrArg (fun l => l[j]?) hx.1
      simp only [List.getElem?_map, hnj, hxj, Option.map_some, Option.some.injEq] at this
      exact this.symm)
    have h3 := congrArg (fun l => l[0]?) h2
    rw [List.getElem?_map, hnj]
    simpa using h3
  · rw [List.getElem?_eq_none (by omega), List.getElem?_eq_none (by simp; omega)]
theorem bounds_of_laid {W : World} (h : laidMetH Tryz.prog [("baler/tables.bounds", Rows.laid_baler_tables_bounds)] W) : Bnds W := by
  rw [MakeChecks.laidMetH_plain _ _ _ (by kernel_rfl)] at h
  obtain ⟨ps, ⟨g0, t0, cs0, f0, p0, q0, hg0, ht0, hv0, hd0, _, _⟩, _, _⟩ := h
  have e0 : some g0 = some 0 := hg0.symm.trans (by kernel_rfl)
  obtain rfl : g0 = 0 := Option.some.inj e0
  have e1 : some t0 = some 151 := ht0.symm.trans (by kernel_rfl)
  obtain rfl : t0 = 151 := Option.some.inj e1
  have hc := table_all (ns := [200, 600, 1200, 2400]) Tryz.underlying151 Tryz.underlying3 (by kernel_rfl) (by kernel_rfl) hd0
  simp only [World.var?, hg0, Option.bind_some] at hv0
  split at hv0
  · rename_i cs t fr hh
    have hcs : cs = bndCells := by
      have : cs = cs0 := by simpa using hv0
      rw [this]
      apply Array.toList_inj.1
      exact hc
    exact ⟨t, fr, by rw [← hcs]; exact hh⟩
  · cases hv0
end Go.Proofs.YtehmmogdboaofaaGreatDoor
