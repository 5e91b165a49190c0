/-
  LAYER 8's STATEMENTS: rows of rows (balerref08.Groups); FreqGroups.
-/
import Derived.Test.YtmlcdfimcabgkaaDoorFreqLawA
import Derived.Test.YtmlcdfimcabgkaaDoorRowsRR
import Derived.Deep.Cut
namespace Go.Proofs.YtmlcdfimcabgkaaDoor
open Go.RowKit FreqM
set_option linter.unusedVariables false
/-- How far Groups has come behind k symbols: q groups are whole, now is what is open. -/
def GrS (zs : List Int) (k q : Nat) (now : List Int) : Prop := (k < zs.length ∧ 50 * q ≤ k ∧ k < 50 * q + 50 ∧ now = (zs.take k).drop (50 * q)) ∨ (k = zs.length ∧ q = ng zs.length)
theorem now_next (zs : List Int) (k q : Nat) (h : k < zs.length) (hq : 50 * q ≤ k) : (zs.take k).drop (50 * q) ++ [zs.getD k 0] = (zs.take (k + 1)).drop (50 * q) := by
  rw [List.take_succ_eq_append_getElem h, List.drop_append_of_le_length (by rw [List.length_take]; omega), List.getD_eq_getElem?_getD, List.getElem?_eq_getElem h]
  rfl
theorem now_full (zs : List Int) (k q : Nat) (h : k < zs.length) (hf : k + 1 = 50 * q + 50 ∨ k + 1 = zs.length) (hk : k < 50 * q + 50) : (zs.take (k + 1)).drop (50 * q) = grp zs q := by
  unfold grp
  rw [List.drop_take]
  rcases hf with h1 | h1
  · rw [show k + 1 - 50 * q = 50 by omega]
  · rw [List.take_of_length_le (by rw [List.length_drop]; omega), List.take_of_length_le (by rw [List.length_drop]; omega)]
set_option maxRecDepth 100000 in
set_option maxHeartbeats 4000000 in
theorem rGroups_any (v0 : Value) (zs : List Int) (w : World) (hv : IsInts w v0 zs) (hz : zs.length ≤ 1000) :
    Calls Tryd.prog 24 #[v0] w fun e w' => ∃ r, e = .returned r ∧ IsRR w' r (grps zs (ng zs.length)) ∧ Below w.heap.size w w' := by
  have HV := Lib.hid hv
  obtain ⟨a, cap, rfl, _⟩ := hv
  go_enter Tryd.func24, Tryd.ntmps24
  go_wp2_with fail
  go_loopw [3, 4, 9] (fun o n i wr => ∃ (k q bn : Nat) (now : List Int) (v u : Value), k ≤ zs.length ∧ i = .int .i64 k ∧ v = o ∧ u = n ∧ GrS zs k q now ∧ OwnRR wr w.heap.size bn v (grps zs q) ∧ OwnI wr bn u now ∧ Below w.heap.size w wr) (fun _ _ i _ => zs.length - (intOf i).toNat)
  case atStart =>
    refine ⟨0, 0, w.heap.size, [], .slice none 0 0, .slice none 0 0, by omega, rfl, rfl, rfl, ?_, OwnRR.nil _ _ (Nat.le_refl _), OwnI.nil _ _, Below.refl _ _⟩
    by_cases h : zs.length = 0
    · exact Or.inr ⟨h.symm, by rw [h]; rfl⟩
    · exact Or.inl ⟨by omega, by omega, by omega, by simp⟩
  case round =>
    obtain ⟨k, q, bn, now, v, u, hk, rfl, rfl, rfl, hG, hR, hU, hB⟩ := hrel
    have HR := Lib.hid hR
    have HU := Lib.hid hU
    have HB := Lib.hid hB
    have hbn := hR.2.1
    have hBbn := hR.1
    clear hR hU hB
    by_cases hlk : k < zs.length
    · have hki : (k : Int) < (zs.length : Int) := by omega
      obtain ⟨_, hq1, hq2, rfl⟩ := hG.resolve_right (fun h => by omega)
      have HV2 := Lib.hid (HV.out.below HB.out)
      obtain ⟨b1, o1, k1, he1, c1⟩ := HV2.out.cell hlk
      simp only [Value.slice.injEq] at he1
      obtain ⟨rfl, _, rfl⟩ := he1
      have HNX := Lib.hid (now_next zs k q hlk hq1)
      have HFU := Lib.hid (now_full zs k q hlk)
      have HGO : Hid (¬ k + 1 = 50 * q + 50 → ¬ k + 1 = zs.length → GrS zs (k + 1) q ((zs.take (k + 1)).drop (50 * q))) := Lib.hid (fun h1 h2 => Or.inl ⟨by omega, by omega, by omega, rfl⟩)
      have hnl : ((zs.take k).drop (50 * q)).length = k - 50 * q := by rw [List.length_drop, List.length_take]; omega
      have hnl2 : ((zs.take (k + 1)).drop (50 * q)).length = k + 1 - 50 * q := by rw [List.length_drop, List.length_take]; omega
      have hln : ((zs.take k).drop (50 * q)).length + 1 ≤ 17592186044416 := by omega
      have hna : ((zs.take (k + 1)).drop (50 * q)).length + 50 * q ≤ k + 1 := by omega
      have hnb : k + 1 ≤ ((zs.take (k + 1)).drop (50 * q)).length + 50 * q := by omega
      clear hnl hnl2 hG
      generalize zs.getD k 0 = x at *
      generalize (zs.take k).drop (50 * q) = now at *
      go_upto_region 7 with (at_builtin; go_loud (refine push_int wr rfl _ _ rfl bn _ now x HU.out rfl rfl hln hbn ?_))
      intro u2 w2 hO2 hB2
      rw [HNX.out] at hO2
      have HU2 := Lib.hid hO2
      have HR2 := Lib.hid (HR.out.below hB2)
      have HB2 := Lib.hid (HB.out.trans (hB2.mono hBbn))
      have hbn2 : bn ≤ w2.heap.size := Nat.le_trans hbn hB2.size
      have hBw2 : w.heap.size ≤ w2.heap.size := HB2.out.size
      clear hO2 hB2 HR HU HB HNX hln
      generalize (zs.take (k + 1)).drop (50 * q) = now2 at *
      obtain ⟨au, cu, rfl⟩ := HU2.out.slice
      generalize now2.length = N at *
      have hgl : (grps zs q).length + 1 ≤ 1099511627776 := by rw [grps_len]; omega
      have hwk : IntKind.i64.wrap ((k : Int) + 1) = (k : Int) + 1 := IntWalk.i64_in _ (by omega)
      by_cases hA : k + 1 = 50 * q + 50
      · have hN50 : ((N : Int) == 50) = true := by rw [beq_iff_eq]; omega
        have hN50' : N = 50 := by omega
        have e1 := HFU.out (Or.inl hA) hq2
        subst e1
        have HGS : Hid (GrS zs (k + 1) (q + 1) []) := Lib.hid (by
          by_cases h : k + 1 < zs.length
          · exact Or.inl ⟨h, by omega, by omega, by rw [List.drop_eq_nil_of_le (by rw [List.length_take]; omega)]⟩
          · exact Or.inr ⟨by omega, by unfold ng; omega⟩)
        subst hN50'
        go_wp2_with (at_builtin; go_loud (refine push_row w2 rfl _ _ rfl w.heap.size bn _ (grps zs q) _ (grp zs q) HR2.out HU2.out rfl rfl hgl ?_))
        intro v3 w3 hR3 hB3
        rw [← grps_succ] at hR3
        have HR3 := Lib.hid hR3
        have HB3 := Lib.hid (HB2.out.trans hB3)
        clear hR3 hB3
        go_wp2_with fail
        go_roundw
        case rel => exact ⟨k + 1, q + 1, w3.heap.size, [], v3, _, by omega, by go_num, rfl, rfl, HGS.out, HR3.out, OwnI.nil _ _, HB3.out⟩
        case measure => simp [intOf]; omega
      · have hN50 : ((N : Int) == 50) = false := by rw [beq_eq_false_iff_ne]; omega
        by_cases hC : k + 1 = zs.length
        · have hCI : ((k : Int) + 1 == (zs.length : Int)) = true := by rw [beq_iff_eq]; omega
          have e1 := HFU.out (Or.inr hC) hq2
          subst e1
          have HGS : Hid (GrS zs (k + 1) (q + 1) []) := Lib.hid (Or.inr ⟨hC, by unfold ng; omega⟩)
          go_wp2_with (at_builtin; go_loud (refine push_row w2 rfl _ _ rfl w.heap.size bn _ (grps zs q) _ (grp zs q) HR2.out HU2.out rfl rfl hgl ?_))
          intro v3 w3 hR3 hB3
          rw [← grps_succ] at hR3
          have HR3 := Lib.hid hR3
          have HB3 := Lib.hid (HB2.out.trans hB3)
          clear hR3 hB3
          go_wp2_with fail
          go_roundw
          case rel => exact ⟨k + 1, q + 1, w3.heap.size, [], v3, _, by omega, by go_num, rfl, rfl, HGS.out, HR3.out, OwnI.nil _ _, HB3.out⟩
          case measure => simp [intOf]; omega
        · have hCI : ((k : Int) + 1 == (zs.length : Int)) = false := by rw [beq_eq_false_iff_ne]; omega
          have HGS := Lib.hid (HGO.out hA hC)
          clear HGO HFU
          go_wp2_with fail
          go_roundw
          case rel => exact ⟨k + 1, q, bn, now2, v, _, by omega, by go_num, rfl, rfl, HGS.out, HR2.out, HU2.out, HB2.out⟩
          case measure => simp [intOf]; omega
    · obtain rfl : k = zs.length := by omega
      have hq : q = ng zs.length := by
        rcases hG with ⟨h, _⟩ | ⟨_, h⟩
        · omega
        · exact h
      subst hq
      go_wp2_with fail
      go_ret
      exact ⟨_, rfl, HR.out.rr, HB.out⟩
theorem wf_i64 {n : Int} (h : (Lit.int .i64 n).wf = true) : -9223372036854775808 ≤ n ∧ n ≤ 9223372036854775807 := by
  simp [Lit.wf, IntKind.min, IntKind.max, IntKind.signed, IntKind.bits] at h
  omega
end Go.Proofs.YtmlcdfimcabgkaaDoor
