/-
  LAYER 12's STATEMENTS: TablesWhole.
-/
import Derived.Test.YtmlcdfimcabgkaaDoorTabH
import Derived.Test.YtmlcdfimcabgkaaDoorWhole
namespace Go.Proofs.YtmlcdfimcabgkaaDoor
open Go.RowKit TabM FreqM HufM
set_option linter.unusedVariables false
theorem rnum12_any (n : Int) (w : World) : Calls Tryd.prog 11 #[.int .i64 n] w fun e w' => e = .returned (.int .i64 (nTab n : Int)) ∧ w' = w := by
  by_cases h1 : n < 200
  · have e : nTab n = 2 := by unfold nTab; rw [if_pos h1]
    rw [e]
    clear e
    go_enter Tryd.func11, Tryd.ntmps11
    go_wp2_with fail
    go_ret
    exact ⟨rfl, rfl⟩
  · by_cases h2 : n < 600
    · have e : nTab n = 3 := by unfold nTab; rw [if_neg h1, if_pos h2]
      rw [e]
      clear e
      go_enter Tryd.func11, Tryd.ntmps11
      go_wp2_with fail
      go_ret
      exact ⟨rfl, rfl⟩
    · by_cases h3 : n < 1200
      · have e : nTab n = 4 := by unfold nTab; rw [if_neg h1, if_neg h2, if_pos h3]
        rw [e]
        clear e
        go_enter Tryd.func11, Tryd.ntmps11
        go_wp2_with fail
        go_ret
        exact ⟨rfl, rfl⟩
      · by_cases h4 : n < 2400
        · have e : nTab n = 5 := by unfold nTab; rw [if_neg h1, if_neg h2, if_neg h3, if_pos h4]
          rw [e]
          clear e
          go_enter Tryd.func11, Tryd.ntmps11
          go_wp2_with fail
          go_ret
          exact ⟨rfl, rfl⟩
        · have e : nTab n = 6 := by unfold nTab; rw [if_neg h1, if_neg h2, if_neg h3, if_neg h4]
          rw [e]
          clear e
          go_enter Tryd.func11, Tryd.ntmps11
          go_wp2_with fail
          go_ret
          exact ⟨rfl, rfl⟩
theorem rnd_whole {zs : List Int} {N : Nat} (h3 : 3 ≤ N) (h258 : N ≤ 258) (hz : zs.length ≤ 2000000) (i : Nat) {p : Nat} (hp : p < (rnd zs N (i + 1)).length) : (rw_ (rnd zs N (i + 1)) p).length = N ∧ WholeP (rw_ (rnd zs N (i + 1)) p) := by
  have e : rw_ (rnd zs N (i + 1)) p = lensF (counts (took zs (rnd zs N i) p (ng zs.length)) N) := by
    unfold rw_
    rw [List.getD_eq_getElem?_getD, List.getElem?_eq_getElem hp]
    simp only [rnd, roundM, List.getElem_map, List.getElem_range, Option.getD_some]
  rw [e]
  have h1 := lensF_whole (cnt_ok (zs := took zs (rnd zs N i) p (ng zs.length)) h3 h258 (by have := took_len2 zs (rnd zs N i) p (ng zs.length); omega))
  rw [counts_len] at h1
  exact ⟨h1.1, h1.2.1, h1.2.2⟩
set_option maxRecDepth 100000 in
set_option maxHeartbeats 2000000 in
theorem tablesWhole.far (l : Option Addr) (llen lcap : Nat) (zs : List Int) (n : Int) (w : World) (hB : Bnds w) (hI : IsInts w (.slice l llen lcap) zs) (hlen : zs.length = llen) (hcap : llen ≤ 9223372036854775807) (h : 700 < llen ∨ llen = 0 ∨ ¬ (3 ≤ n ∧ n ≤ 258) ∨ ¬ Syms zs n) :
    Calls Tryd.prog 6 #[.slice l llen lcap, .int .i64 n] w fun e w' => e = .returned (.bool true) ∧ Below w.heap.size w w' := by
  have H3 := Lib.hid (tabThree_any w hB)
  by_cases h1 : 700 < llen
  · have h1i : (700 : Int) < (llen : Int) := by omega
    clear h hI hB
    go_enter Tryd.func6, Tryd.ntmps6
    go_wp2_with fail
    refine H3.out.mono ?_
    rintro e w9 ⟨rfl, hb9⟩
    have HB9 := Lib.hid hb9
    clear hb9
    go_wp2_with fail
    go_ret
    exact ⟨rfl, HB9.out⟩
  · have h1i : ¬ (700 : Int) < (llen : Int) := by omega
    by_cases h2 : llen = 0
    · have h2i : ((llen : Int) == 0) = true := by rw [beq_iff_eq]; omega
      clear h hI hB hlen
      subst h2
      go_enter Tryd.func6, Tryd.ntmps6
      go_wp2_with fail
      refine H3.out.mono ?_
      rintro e w9 ⟨rfl, hb9⟩
      have HB9 := Lib.hid hb9
      clear hb9
      go_wp2_with fail
      go_ret
      exact ⟨rfl, HB9.out⟩
    · have h2i : ((llen : Int) == 0) = false := by rw [beq_eq_false_iff_ne]; omega
      by_cases h4 : 3 ≤ n ∧ n ≤ 258
      · have hs : ¬ Syms zs n := by
          rcases h with h | h | h | h
          · exact absurd h h1
          · exact absurd h h2
          · exact absurd h4 h
          · exact h
        have HSZ := Lib.hid (rSize_any n true w ⟨fun _ => h4, fun _ => rfl⟩)
        have HOF := Lib.hid (rOf_any _ zs n false w hI (by omega) ⟨fun e => (by cases e), fun e => absurd e hs⟩)
        clear h hI hB h4 hs h2
        go_enter Tryd.func6, Tryd.ntmps6
        go_wp2_with fail
        refine HSZ.out.mono ?_
        rintro e w1 ⟨rfl, rfl⟩
        go_wp2_with fail
        refine HOF.out.mono ?_
        rintro e w2 ⟨rfl, hw2⟩
        have e2 := hw2
        subst e2
        go_wp2_with fail
        refine H3.out.mono ?_
        rintro e w9 ⟨rfl, hb9⟩
        have HB9 := Lib.hid hb9
        clear hb9
        go_wp2_with fail
        go_ret
        exact ⟨rfl, HB9.out⟩
      · have HSZ := Lib.hid (rSize_any n false w ⟨fun e => (by cases e), fun e => absurd e h4⟩)
        clear h hI hB h4 h2
        go_enter Tryd.func6, Tryd.ntmps6
        go_wp2_with fail
        refine HSZ.out.mono ?_
        rintro e w1 ⟨rfl, rfl⟩
        go_wp2_with fail
        refine H3.out.mono ?_
        rintro e w9 ⟨rfl, hb9⟩
        have HB9 := Lib.hid hb9
        clear hb9
        go_wp2_with fail
        go_ret
        exact ⟨rfl, HB9.out⟩
set_option maxRecDepth 100000 in
set_option maxHeartbeats 8000000 in
theorem tablesWhole.good (l : Option Addr) (llen lcap : Nat) (zs : List Int) (N : Nat) (w : World) (hB : Bnds w) (hI : IsInts w (.slice l llen lcap) zs) (hlen : zs.length = llen) (hc : llen ≤ lcap) (hc2 : lcap ≤ 9223372036854775807) (h700 : llen ≤ 700) (h1 : 1 ≤ llen) (h3 : 3 ≤ N) (h258 : N ≤ 258) (hsy : Syms zs (N : Int)) :
    Calls Tryd.prog 6 #[.slice l llen lcap, .int .i64 (N : Int)] w fun e w' => e = .returned (.bool true) ∧ Below w.heap.size w w' := by
  have H3 := Lib.hid (fun W hW => tabThree_any W hW)
  have h1i : ¬ (700 : Int) < (llen : Int) := by omega
  have h2i : ((llen : Int) == 0) = false := by rw [beq_eq_false_iff_ne]; omega
  have HSZ := Lib.hid (rSize_any (N : Int) true w ⟨fun _ => by omega, fun _ => rfl⟩)
  have HOF := Lib.hid (rOf_any _ zs (N : Int) true w hI (by omega) ⟨fun _ => hsy, fun _ => rfl⟩)
  have HO := Lib.hid (of12_any l llen lcap zs N w hI hlen (by omega) hc hc2 hB hsy h1 h3 h258)
  have HRN := Lib.hid (fun W => rnum12_any (llen : Int) W)
  have HW : Hid (∀ p, p < (rnd zs N 4).length → (rw_ (rnd zs N 4) p).length = N ∧ WholeP (rw_ (rnd zs N 4) p)) := Lib.hid (fun p hp => rnd_whole (zs := zs) h3 h258 (by omega) 3 hp)
  have hT : (rnd zs N 4).length = nTab (llen : Int) := by rw [rnd_len, hlen]
  have HTB := nTab_bd (llen : Int)
  obtain ⟨T, hT2⟩ : ∃ T, nTab (llen : Int) = T := ⟨_, rfl⟩
  rw [hT2] at hT HRN HTB
  obtain ⟨hT2', hT6⟩ := HTB
  have HTT := Lib.hid hT
  obtain ⟨Q, hQ⟩ : ∃ Q, ng zs.length = Q := ⟨_, rfl⟩
  have hQe : Q = (llen + 49) / 50 := by rw [← hQ, hlen]; rfl
  have hpl : (picksM zs (rnd zs N 3) (ng zs.length)).length = Q := by rw [picksM_len, hQ]
  have HPL := Lib.hid hpl
  have HPK : Hid (∀ x ∈ picksM zs (rnd zs N 3) (ng zs.length), 0 ≤ x ∧ x < (T : Int)) := Lib.hid (fun x hx => by
    unfold picksM at hx
    obtain ⟨i, _, rfl⟩ := List.mem_map.1 hx
    have := pickM_lt (grp zs i) (rows := rnd zs N 3) (by rw [rnd_len]; have := nTab_bd (zs.length : Int); omega)
    rw [rnd_len, hlen, hT2] at this
    omega)
  have HB := Lib.hid hB
  clear hsy hB hI hlen hT hT2 hQ hpl
  generalize picksM zs (rnd zs N 3) (ng zs.length) = ps at *
  generalize rnd zs N 4 = rows at *
  go_enter Tryd.func6, Tryd.ntmps6
  go_wp2_with fail
  refine HSZ.out.mono ?_
  rintro e w1 ⟨rfl, rfl⟩
  go_wp2_with fail
  refine HOF.out.mono ?_
  rintro e w2 ⟨rfl, rfl⟩
  go_wp2_with fail
  refine HO.out.mono ?_
  rintro e w3 ⟨vL, vP, rfl, hL, hP, hB3⟩
  have hB4 := (Below.refl w3.heap.size w3).alloc (Nat.le_refl _) (.cells #[vL, vP] 35)
  have HL4 := Lib.hid (hL.below hB4)
  have HP4 := Lib.hid (hP.below hB4)
  have HB4 := Lib.hid (hB3.trans (hB4.mono hB3.size))
  have hg4 := heap_alloc_new w3 (.cells #[vL, vP] 35)
  have HBN4 := Lib.hid (HB.out.below HB4.out)
  obtain ⟨aL, cL, rfl, _⟩ := hL
  obtain ⟨aP, cP, rfl, _⟩ := hP
  rw [HTT.out] at hg4 HL4 HP4 HB4 HBN4 ⊢
  rw [HPL.out] at hg4 HL4 HP4 HB4 HBN4 ⊢
  obtain ⟨G, hG⟩ : ∃ G, w3.heap.size = G := ⟨_, rfl⟩
  have HGG := Lib.hid hG
  rw [hG] at hg4
  have hq1 : IntKind.i64.wrap ((llen : Int) + 49) = (llen : Int) + 49 := IntWalk.i64_in _ (by omega)
  have hq2 : ((llen : Int) + 49).tdiv 50 = (Q : Int) := by rw [Int.tdiv_eq_ediv_of_nonneg (by omega)]; omega
  have hq3 : IntKind.i64.wrap (Q : Int) = (Q : Int) := IntWalk.i64_in _ (by omega)
  have z1 : ((T : Int) != (T : Int)) = false := by simp
  have z2 : ((Q : Int) != (Q : Int)) = false := by simp
  have d0 : (w3.alloc (.cells #[.slice aL T cL, .slice aP Q cP] 35)).cell? ⟨G, 0, none⟩ = some (.slice aL T cL) := by rw [cell_of_row _ _ _ _ _ _ hg4]; rfl
  have d1 : (w3.alloc (.cells #[.slice aL T cL, .slice aP Q cP] 35)).cell? ⟨G, 1, none⟩ = some (.slice aP Q cP) := by rw [cell_of_row _ _ _ _ _ _ hg4]; rfl
  have hQb : Q ≤ 20 := by omega
  clear hB3 hB4 hg4 hQe
  go_wp2_with fail
  generalize w3.alloc (.cells #[.slice aL T cL, .slice aP Q cP] 35) = w4 at *
  try rw [hG]
  clear hG
  have HL5 : Hid (IsRR w4.drew (.slice aL T cL) rows) := Lib.hid (HL4.out.below ⟨rfl, rfl, rfl, Nat.le_refl _, fun _ _ => rfl⟩)
  have HP5 : Hid (IsInts w4.drew (.slice aP Q cP) ps) := Lib.hid (HP4.out.below ⟨rfl, rfl, rfl, Nat.le_refl _, fun _ _ => rfl⟩)
  have HB5 := Lib.hid HB4.out.drew
  have HBN5 : Hid (Bnds w4.drew) := Lib.hid (HBN4.out.below ⟨rfl, rfl, rfl, Nat.le_refl _, fun _ _ => rfl⟩)
  have e0 : w4.drew.cell? ⟨G, 0, none⟩ = some (.slice aL T cL) := d0
  have e1 : w4.drew.cell? ⟨G, 1, none⟩ = some (.slice aP Q cP) := d1
  go_region_held3 (fun W => W.cell? ⟨G, 0, none⟩ = some (.slice aL T cL) ∧ W.cell? ⟨G, 1, none⟩ = some (.slice aP Q cP)) (go_keep) (first | (go_at_call 11; refine (HRN.out _).mono ?_; rintro e w' ⟨rfl, rfl⟩))
  generalize w4.drew = w5 at *
  clear d0 d1 hq1 hq2 hq3 z1 z2 HL4 HP4 HB4 HBN4
  have z3 : ((N : Int) != (N : Int)) = false := by simp
  go_wp2_with fail
  go_loopw [61] (fun vk wr => ∃ k : Nat, vk = .int .i64 (k : Int) ∧ k ≤ T ∧ wr = w5) (fun vk _ => T - (intOf vk).toNat)
  case atStart => exact ⟨0, rfl, by omega, rfl⟩
  case round =>
    obtain ⟨k, rfl, hk, rfl⟩ := hrel
    by_cases hkT : k < T
    · have hki : (k : Int) < (T : Int) := by omega
      obtain ⟨b2, o2, cap2, u, he2, d2, hI5⟩ := HL5.out.at_ (show k < rows.length by rw [HTT.out]; exact hkT)
      rw [HTT.out] at he2
      simp only [Value.slice.injEq] at he2
      obtain ⟨rfl, he2b, rfl⟩ := he2
      clear he2b
      obtain ⟨hwl, hwp⟩ := HW.out k (by rw [HTT.out]; exact hkT)
      have HWH := Lib.hid (rWhole_any u (rw_ rows k) true wr hI5 (by omega) ⟨fun _ => hwp, fun _ => rfl⟩)
      obtain ⟨au, cu, rfl, _⟩ := hI5
      rw [hwl] at d2 HWH
      clear hwl hwp
      go_wp2_with fail
      refine HWH.out.mono ?_
      rintro e w6 ⟨rfl, rfl⟩
      go_wp2_with fail
      go_roundw
      case rel => exact ⟨k + 1, by go_num, by omega, by first | rfl | trivial⟩
      case measure => simp [intOf]; omega
    · have hki : ¬ (k : Int) < (T : Int) := by omega
      go_wp2_with fail
      obtain ⟨wz, rfl⟩ : ∃ wz : World, wz = wr := ⟨_, rfl⟩
      go_loopw [78] (fun vk wr2 => ∃ m : Nat, vk = .int .i64 (m : Int) ∧ m ≤ Q ∧ wr2 = wz) (fun vk _ => Q - (intOf vk).toNat)
      case atStart => exact ⟨0, rfl, by omega, rfl⟩
      case round =>
        obtain ⟨m, rfl, hm, rfl⟩ := hrel
        by_cases hmQ : m < Q
        · have hmi : (m : Int) < (Q : Int) := by omega
          obtain ⟨b1, o1, k1, he1, c1⟩ := HP5.out.cell (show m < ps.length by rw [HPL.out]; exact hmQ)
          rw [HPL.out] at he1
          simp only [Value.slice.injEq] at he1
          obtain ⟨rfl, he1b, rfl⟩ := he1
          clear he1b
          obtain ⟨hx0, hxT⟩ := HPK.out _ (FreqM.getD_mem ps m (by rw [HPL.out]; exact hmQ))
          obtain ⟨x, hx⟩ : ∃ x, ps.getD m 0 = x := ⟨_, rfl⟩
          rw [hx] at c1 hx0 hxT
          clear hx
          go_wp2_with fail
          go_roundw
          case rel => exact ⟨m + 1, by go_num, by omega, by first | rfl | trivial⟩
          case measure => simp [intOf]; omega
        · have hmi : ¬ (m : Int) < (Q : Int) := by omega
          go_wp2_with fail
          refine (H3.out _ HBN5.out).mono ?_
          rintro e w9 ⟨rfl, hb9⟩
          have HB9 := Lib.hid (HB5.out.trans (hb9.mono HB5.out.size))
          clear hb9
          go_wp2_with fail
          go_ret
          exact ⟨rfl, HB9.out⟩
theorem tablesWhole.walk (l : Option Addr) (llen lcap : Nat) (lz : List Int) (n : Int) (w : World) (hB : Bnds w) (hl : IsRow .i64 w l llen lcap lz) (hn : (Lit.int .i64 n).wf = true) :
    Calls Tryd.prog 6 #[.slice l llen lcap, .int .i64 n] w fun e w' => e = .returned (.bool true) ∧ Below w.heap.size w w' := by
  obtain ⟨hI, hlen⟩ := ints_in hl
  obtain ⟨hl1, hl2⟩ := isRow_len hl
  generalize List.take llen lz = zs at *
  by_cases h : 700 < llen ∨ llen = 0 ∨ ¬ (3 ≤ n ∧ n ≤ 258) ∨ ¬ Syms zs n
  · exact tablesWhole.far l llen lcap zs n w hB hI hlen (by omega) h
  · have h1 : ¬ 700 < llen := fun e => h (Or.inl e)
    have h2 : ¬ llen = 0 := fun e => h (Or.inr (Or.inl e))
    have h3 : 3 ≤ n ∧ n ≤ 258 := Classical.not_not.1 (fun e => h (Or.inr (Or.inr (Or.inl e))))
    have h4 : Syms zs n := Classical.not_not.1 (fun e => h (Or.inr (Or.inr (Or.inr e))))
    obtain ⟨N, rfl⟩ : ∃ N : Nat, n = (N : Int) := ⟨n.toNat, by omega⟩
    exact tablesWhole.good l llen lcap zs N w hB hI hlen hl1 hl2 (by omega) (by omega) (by omega) (by omega) h4
end Go.Proofs.YtmlcdfimcabgkaaDoor
