/-
  LAYER 9 (lens), THE DOCUMENT's ANSWER (balerref09): halves, lengths.
-/
import Derived.Test.YtmlcdfimcabgkaaDoorLenRefB
import Derived.Test.YtmlcdfimcabgkaaDoorLenH
namespace Go.Proofs.YtmlcdfimcabgkaaDoor
open Go.RowKit HufM
set_option linter.unusedVariables false
set_option maxRecDepth 100000 in
set_option maxHeartbeats 2000000 in
theorem rHalved_any (v : Value) (zs : List Int) (w : World) (hv : IsInts w v zs) (hz : zs.length ≤ 1000000) (hb : ∀ z ∈ zs, z ≤ 9223372036854775807) :
    Calls Tryd.prog 51 #[v] w fun e w' => ∃ r, e = .returned r ∧ IsInts w' r (hvs zs) ∧ Below w.heap.size w w' := by
  have HV := Lib.hid hv
  have HBD := Lib.hid hb
  obtain ⟨a, cap, rfl, _⟩ := hv
  obtain ⟨N, hN⟩ : ∃ N, zs.length = N := ⟨_, rfl⟩
  have HN := Lib.hid hN
  rw [hN] at hz ⊢
  clear hb hN
  go_enter Tryd.func51, Tryd.ntmps51
  go_wp2_with fail
  go_loopw [3, 5, 8] (fun vo _ vi wr => ∃ (k : Nat) (o : Value), vi = .int .i64 k ∧ k ≤ N ∧ o = vo ∧ OwnI wr w.heap.size o (hvs (zs.take k)) ∧ Below w.heap.size w wr) (fun _ _ vi _ => N - (intOf vi).toNat)
  case atStart => exact ⟨0, _, rfl, by omega, rfl, OwnI.nil _ _, Below.refl _ _⟩
  case round =>
    obtain ⟨k, o, rfl, hk, rfl, hO, hB⟩ := hrel
    have HO := Lib.hid hO
    have HB := Lib.hid hB
    have HBS := hB.size
    obtain ⟨oa, oc, rfl⟩ := hO.slice
    have hlen : (hvs (zs.take k)).length = k := by rw [hvs_len, List.length_take, HN.out]; omega
    rw [hlen] at HO ⊢
    by_cases hlk : k < N
    · have hki : (k : Int) < (N : Int) := by omega
      have hlz : k < zs.length := by rw [HN.out]; exact hlk
      obtain ⟨b1, o1, k1, he1, c1⟩ := HV.out.cell hlz
      rw [HN.out] at he1
      simp only [Value.slice.injEq] at he1
      obtain ⟨rfl, _, rfl⟩ := he1
      have c1 := (HB.out.cell (cell_lt c1)).trans c1
      obtain ⟨x, hx⟩ : ∃ x, zs.getD k 0 = x := ⟨_, rfl⟩
      rw [hx] at c1
      have hxb : x ≤ 9223372036854775807 := by rw [← hx]; exact HBD.out _ (getD_mem hlz)
      have h3 : Hid (hvs (zs.take (k + 1)) = hvs (zs.take k) ++ [hv x]) := Lib.hid (by
        unfold hvs
        rw [List.take_add_one, List.map_append, List.getElem?_eq_getElem hlz]
        have hx2 : zs[k] = x := by rw [← hx, List.getD_eq_getElem?_getD, List.getElem?_eq_getElem hlz]; rfl
        simp only [Option.toList_some, List.map_cons, List.map_nil, hx2])
      have HLEN := Lib.hid hlen
      clear hO hB hx hlen hlz
      by_cases hx0 : x < 0
      · have hz0 : Hid (hv x = 1) := Lib.hid (by unfold hv; rw [if_pos hx0]; rfl)
        have hq : IntKind.i64.wrap (0 / 2) = 0 := by decide
        go_wp2_with (at_builtin; go_loud (refine push_int wr rfl _ _ rfl w.heap.size (.slice oa k oc) (hvs (zs.take k)) 1 HO.out rfl rfl (by rw [HLEN.out]; omega) HBS ?_))
        intro v' w' hown hb
        have HOWN := Lib.hid hown
        have HBB := Lib.hid (HB.out.trans hb)
        clear hown hb
        go_wp2_with fail
        go_roundw
        case rel => exact ⟨k + 1, _, by go_num, by omega, rfl, by rw [h3.out, hz0.out]; exact HOWN.out, HBB.out⟩
        case measure => simp [intOf]; omega
      · have hz0 : Hid (hv x = x / 2 + 1) := Lib.hid (by unfold hv; rw [if_neg hx0])
        have hx1 : 0 ≤ x := by omega
        have hq : IntKind.i64.wrap (x / 2) = x / 2 := IntWalk.i64_in _ (by omega)
        go_wp2_with (at_builtin; go_loud (refine push_int wr rfl _ _ rfl w.heap.size (.slice oa k oc) (hvs (zs.take k)) (x / 2 + 1) HO.out rfl rfl (by rw [HLEN.out]; omega) HBS ?_))
        intro v' w' hown hb
        have HOWN := Lib.hid hown
        have HBB := Lib.hid (HB.out.trans hb)
        clear hown hb
        go_wp2_with fail
        go_roundw
        case rel => exact ⟨k + 1, _, by go_num, by omega, rfl, by rw [h3.out, hz0.out]; exact HOWN.out, HBB.out⟩
        case measure => simp [intOf]; omega
    · have hki : ¬ (k : Int) < (N : Int) := by omega
      obtain rfl : N = k := by omega
      have e : hvs (zs.take N) = hvs zs := by rw [List.take_of_length_le (Nat.le_of_eq HN.out)]
      rw [e] at HO
      clear e hO hB hlen
      go_wp2_with fail
      go_ret
      exact ⟨_, rfl, HO.out.ints, HB.out⟩
set_option maxRecDepth 100000 in
set_option maxHeartbeats 2000000 in
theorem rOf9_loc (v : Value) (zs rs : List Int) (m0 : Nat) (w : World) (hv : IsInts w v zs) (h3 : 3 ≤ zs.length) (hz : zs.length ≤ 258) (hw : Within 0 1099511627776 zs) (hm0 : m0 ≤ 40) (hof : OfR m0 (ups zs) rs) :
    Calls Tryd.prog 40 #[v] w fun e w' => ∃ r, e = .returned r ∧ IsInts w' r rs ∧ Below w.heap.size w w' ∧ (∀ k, r.ownBlock = some k → w.heap.size ≤ k) := by
  have HV := Lib.hid hv
  have HW := Lib.hid hw
  have HOF := Lib.hid hof
  obtain ⟨a, cap, rfl, _⟩ := hv
  obtain ⟨N, hN⟩ : ∃ N, zs.length = N := ⟨_, rfl⟩
  have HN := Lib.hid hN
  rw [hN] at hz h3 ⊢
  clear hw hof hN
  go_enter Tryd.func40, Tryd.ntmps40
  go_wp2_with fail
  go_loopw [3, 5, 9] (fun vo _ vi wr => ∃ (k : Nat) (o : Value), vi = .int .i64 k ∧ k ≤ N ∧ o = vo ∧ OwnI wr w.heap.size o (ups (zs.take k)) ∧ Below w.heap.size w wr) (fun _ _ vi _ => N - (intOf vi).toNat)
  case atStart => exact ⟨0, _, rfl, by omega, rfl, OwnI.nil _ _, Below.refl _ _⟩
  case round =>
    obtain ⟨k, o, rfl, hk, rfl, hO, hB⟩ := hrel
    have HO := Lib.hid hO
    have HB := Lib.hid hB
    have HBS := hB.size
    obtain ⟨oa, oc, rfl⟩ := hO.slice
    have hlen : (ups (zs.take k)).length = k := by rw [ups_len, List.length_take, HN.out]; omega
    rw [hlen] at HO ⊢
    by_cases hlk : k < N
    · have hki : (k : Int) < (N : Int) := by omega
      have hlz : k < zs.length := by rw [HN.out]; exact hlk
      obtain ⟨b1, o1, k1, he1, c1⟩ := HV.out.cell hlz
      rw [HN.out] at he1
      simp only [Value.slice.injEq] at he1
      obtain ⟨rfl, _, rfl⟩ := he1
      have c1 := (HB.out.cell (cell_lt c1)).trans c1
      obtain ⟨x, hx⟩ : ∃ x, zs.getD k 0 = x := ⟨_, rfl⟩
      rw [hx] at c1
      have hx2 := HW.out _ (getD_mem hlz)
      rw [hx] at hx2
      have h3 : Hid (ups (zs.take (k + 1)) = ups (zs.take k) ++ [if x < 1 then 1 else x]) := Lib.hid (by
        unfold ups
        rw [List.take_add_one, List.map_append, List.getElem?_eq_getElem hlz]
        have hx2 : zs[k] = x := by rw [← hx, List.getD_eq_getElem?_getD, List.getElem?_eq_getElem hlz]; rfl
        simp only [Option.toList_some, List.map_cons, List.map_nil, hx2])
      have HLEN := Lib.hid hlen
      clear hO hB hx hlen hlz
      by_cases hx0 : x = 0
      · have hz0 : Hid ((if x < 1 then 1 else x) = 1) := Lib.hid (if_pos (by omega))
        have hxe : (x == 0) = true := by rw [beq_iff_eq]; exact hx0
        clear hx0
        go_wp2_with (at_builtin; go_loud (refine push_int wr rfl _ _ rfl w.heap.size (.slice oa k oc) (ups (zs.take k)) 1 HO.out rfl rfl (by rw [HLEN.out]; omega) HBS ?_))
        intro v' w' hown hb
        have HOWN := Lib.hid hown
        have HBB := Lib.hid (HB.out.trans hb)
        clear hown hb
        go_wp2_with fail
        go_roundw
        case rel => exact ⟨k + 1, _, by go_num, by omega, rfl, by rw [h3.out, hz0.out]; exact HOWN.out, HBB.out⟩
        case measure => simp [intOf]; omega
      · have hz0 : Hid ((if x < 1 then 1 else x) = x) := Lib.hid (if_neg (by omega))
        have hxe : (x == 0) = false := by rw [beq_eq_false_iff_ne]; exact hx0
        clear hx0
        go_wp2_with (at_builtin; go_loud (refine push_int wr rfl _ _ rfl w.heap.size (.slice oa k oc) (ups (zs.take k)) x HO.out rfl rfl (by rw [HLEN.out]; omega) HBS ?_))
        intro v' w' hown hb
        have HOWN := Lib.hid hown
        have HBB := Lib.hid (HB.out.trans hb)
        clear hown hb
        go_wp2_with fail
        go_roundw
        case rel => exact ⟨k + 1, _, by go_num, by omega, rfl, by rw [h3.out, hz0.out]; exact HOWN.out, HBB.out⟩
        case measure => simp [intOf]; omega
    · have hki : ¬ (k : Int) < (N : Int) := by omega
      obtain rfl : N = k := by omega
      have e : ups (zs.take N) = ups zs := by rw [List.take_of_length_le (Nat.le_of_eq HN.out)]
      rw [e] at HO
      have hul : Hid ((ups zs).length = N) := Lib.hid (by rw [ups_len, HN.out])
      have hub : Hid (∀ z ∈ ups zs, 0 ≤ z ∧ z ≤ 1099511627776) := Lib.hid (fun z hz => by
        obtain ⟨x, hx, rfl⟩ := List.mem_map.1 hz
        have := HW.out x hx
        split <;> omega)
      clear e hO hB hlen
      go_wp2_with fail
      go_loopg [3, 6, 20] m0 (fun gk vw _ vi wr => ∃ (ws : List Int) (k : Nat), vi = .int .i64 k ∧ k + gk ≤ 40 ∧ IsInts wr vw ws ∧ ws.length = N ∧ (∀ z ∈ ws, 0 ≤ z ∧ z ≤ 1099511627776) ∧ OfR gk ws rs ∧ Below w.heap.size w wr)
      case atStart => exact ⟨ups zs, 0, rfl, by omega, HO.out.ints, hul.out, hub.out, HOF.out, HB.out⟩
      case round =>
        obtain ⟨ws, k, rfl, hkg, hws, hwl, hwb, hor, hB4⟩ := hrel
        have HWS := Lib.hid hws
        have HWL := Lib.hid hwl
        have HWB := Lib.hid hwb
        have HOR := Lib.hid hor
        have HB4 := Lib.hid hB4
        obtain ⟨a1, cap1, rfl, _⟩ := hws
        rw [hwl] at HWS ⊢
        have hk100 : (k : Int) < 100 := by omega
        clear hwl hwb hor hB4
        go_wp2_with fail
        refine (rDepths_loc _ ws wr HWS.out (by rw [HWL.out]; omega) (by rw [HWL.out]; omega) (fun z hz => by have := HWB.out z hz; omega)).mono ?_
        rintro e w5 ⟨r5, ds, rfl, hi5, hd5, hb5, ho5⟩
        have HO5 : Hid (∀ k, r5.ownBlock = some k → w.heap.size ≤ k) := Lib.hid (fun k hk => Nat.le_trans HB4.out.size (ho5 k hk))
        clear ho5
        have HI5 := Lib.hid hi5
        have HD5 := Lib.hid hd5
        have HB5 := Lib.hid (HB4.out.trans (hb5.mono HB4.out.size))
        have HW5 := Lib.hid (HWS.out.below hb5)
        have hdl : ds.length = N := by rw [hd5.len, HWL.out]
        have hdb : ∀ z ∈ ds, 1 ≤ z := fun z hz => (hd5.bound (by rw [HWL.out]; omega) z hz).1
        obtain ⟨a5, cap5, rfl, _⟩ := hi5
        by_cases hgt : ∀ y ∈ ds, y ≤ 20
        · have HM := Lib.hid (may_any _ ds 1 20 true w5 HI5.out ⟨fun _ => fun z hz => ⟨hdb z hz, hgt z hz⟩, fun _ => rfl⟩ (by omega))
          have hrs : Hid (rs = ds) := Lib.hid (by
            cases HOR.out with
            | now _ _ k1 k2 => exact k1.same HD5.out
            | later n _ ys _ k1 k2 k3 => exact absurd (by rw [← HD5.out.same k1]; exact hgt) k2)
          rw [hdl] at HI5 HM HO5 ⊢
          clear hd5 hb5 hdl hdb hgt
          go_wp2_with fail
          refine HM.out.mono ?_
          rintro e w6 ⟨rfl, rfl⟩
          go_wp2_with fail
          go_ret
          exact ⟨_, rfl, by rw [hrs.out]; exact HI5.out, HB5.out, HO5.out⟩
        · have HM := Lib.hid (may_any _ ds 1 20 false w5 HI5.out ⟨fun h => (by cases h), fun h => absurd (fun z hz => (h z hz).2) hgt⟩ (by omega))
          obtain ⟨j, hj, hor2⟩ : ∃ j, gk = j + 1 ∧ OfR j (hvs ws) rs := by
            cases HOR.out with
            | now _ _ k1 k2 => exact absurd (by rw [HD5.out.same k1]; exact k2) hgt
            | later n _ ys _ k1 k2 k3 => exact ⟨n, rfl, k3⟩
          have HOR2 := Lib.hid hor2
          have HJ := Lib.hid hj
          rw [hdl] at HI5 HM ⊢
          clear hd5 hb5 hdl hdb hgt hor2 hj
          go_wp2_with fail
          refine HM.out.mono ?_
          rintro e w6 ⟨rfl, rfl⟩
          go_wp2_with fail
          refine (rHalved_any _ ws w6 HW5.out (by rw [HWL.out]; omega) (fun z hz => by have := HWB.out z hz; omega)).mono ?_
          rintro e w7 ⟨r7, rfl, hi7, hb7⟩
          have HI7 := Lib.hid hi7
          have HB7 := Lib.hid (HB5.out.trans (hb7.mono HB5.out.size))
          clear hi7 hb7
          go_wp2_with fail
          go_roundg j
          case rel => exact ⟨hvs ws, k + 1, by go_num, by have := HJ.out; omega, HI7.out, by rw [hvs_len, HWL.out], hvs_within (fun z hz => by have := HWB.out z hz; omega), HOR2.out, HB7.out⟩
          case measure => have := HJ.out; omega
theorem rOf9_any (v : Value) (zs rs : List Int) (m0 : Nat) (w : World) (hv : IsInts w v zs) (h3 : 3 ≤ zs.length) (hz : zs.length ≤ 258) (hw : Within 0 1099511627776 zs) (hm0 : m0 ≤ 40) (hof : OfR m0 (ups zs) rs) :
    Calls Tryd.prog 40 #[v] w fun e w' => ∃ r, e = .returned r ∧ IsInts w' r rs ∧ Below w.heap.size w w' := by
  refine (rOf9_loc v zs rs m0 w hv h3 hz hw hm0 hof).mono ?_
  rintro e w' ⟨r, h1, h2, h3, _⟩
  exact ⟨r, h1, h2, h3⟩
end Go.Proofs.YtmlcdfimcabgkaaDoor
