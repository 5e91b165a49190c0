/-
  LAYER 12's STATEMENTS: TablesFirst.
-/
import Derived.Test.YtmlcdfimcabgkaaDoorTabL
import Derived.Test.YtmlcdfimcabgkaaDoorTabH
namespace Go.Proofs.YtmlcdfimcabgkaaDoor
open Go.RowKit TabM FreqM HufM
set_option linter.unusedVariables false
set_option maxRecDepth 100000 in
set_option maxHeartbeats 4000000 in
theorem tablesFirst.bad (l : Option Addr) (N lcap : Nat) (cs : List Int) (n : Int) (w : World) (hB : Bnds w) (hI : IsInts w (.slice l N lcap) cs) (hlen : cs.length = N) (hcap : N ≤ 9223372036854775807) (h60 : ¬ (60 < N ∧ N ≤ 258)) (hbad : ¬ (Cnts cs ∧ tot cs = n ∧ 1 ≤ n)) :
    Calls Tryd.prog 3 #[.slice l N lcap, .int .i64 n] w fun e w' => e = .returned (.bool true) ∧ Below w.heap.size w w' := by
  have H3 := Lib.hid (fun W hW => tabThree_any W hW)
  have HF := Lib.hid (tFirst_bad _ cs n w hI (by omega) hbad)
  have HNU := Lib.hid (number12_any n w hB)
  have HRN := Lib.hid (rnum12_any n w)
  have HBN := Lib.hid hB
  obtain ⟨T, hT⟩ : ∃ T, nTab n = T := ⟨_, rfl⟩
  rw [hT] at HNU HRN
  have z0 : ((T : Int) != (T : Int)) = false := by simp
  clear hT hB
  by_cases hs : N < 3
  · have h60i : ¬ (60 : Int) < (N : Int) := by omega
    have hsi : (N : Int) < 3 := by omega
    clear hI hbad h60
    go_enter Tryd.func3, Tryd.ntmps3
    go_wp2_with fail
    refine HF.out.mono ?_
    rintro e w1 ⟨rfl, rfl⟩
    go_wp2_with fail
    refine HNU.out.mono ?_
    rintro e w2 ⟨rfl, rfl⟩
    go_wp2_with fail
    refine HRN.out.mono ?_
    rintro e w2 ⟨rfl, rfl⟩
    go_wp2_with fail
    refine (H3.out _ HBN.out).mono ?_
    rintro e w9 ⟨rfl, hb9⟩
    have HB9 := Lib.hid hb9
    clear hb9
    go_wp2_with fail
    go_ret
    exact ⟨rfl, HB9.out⟩
  · have hsi : ¬ (N : Int) < 3 := by omega
    by_cases hg : 258 < N
    · have h60i : (60 : Int) < (N : Int) := by omega
      have h258i : ¬ (N : Int) ≤ 258 := by omega
      have hgi : (258 : Int) < (N : Int) := by omega
      clear hI hbad h60
      go_enter Tryd.func3, Tryd.ntmps3
      go_wp2_with fail
      refine HF.out.mono ?_
      rintro e w1 ⟨rfl, rfl⟩
      go_wp2_with fail
      refine HNU.out.mono ?_
      rintro e w2 ⟨rfl, rfl⟩
      go_wp2_with fail
      refine HRN.out.mono ?_
      rintro e w2 ⟨rfl, rfl⟩
      go_wp2_with fail
      refine (H3.out _ HBN.out).mono ?_
      rintro e w9 ⟨rfl, hb9⟩
      have HB9 := Lib.hid hb9
      clear hb9
      go_wp2_with fail
      go_ret
      exact ⟨rfl, HB9.out⟩
    · have h60i : ¬ (60 : Int) < (N : Int) := by omega
      have hgi : ¬ (258 : Int) < (N : Int) := by omega
      by_cases hm : Nums cs
      · have HMA := Lib.hid (may_any _ cs 0 1099511627776 true w hI ⟨fun _ => hm, fun _ => rfl⟩ (by omega))
        by_cases hn : n < 1
        · clear hI hbad h60 hm
          go_enter Tryd.func3, Tryd.ntmps3
          go_wp2_with fail
          refine HF.out.mono ?_
          rintro e w1 ⟨rfl, rfl⟩
          go_wp2_with fail
          refine HNU.out.mono ?_
          rintro e w2 ⟨rfl, rfl⟩
          go_wp2_with fail
          refine HRN.out.mono ?_
          rintro e w2 ⟨rfl, rfl⟩
          go_wp2_with fail
          refine HMA.out.mono ?_
          rintro e w2 ⟨rfl, rfl⟩
          go_wp2_with fail
          refine (H3.out _ HBN.out).mono ?_
          rintro e w9 ⟨rfl, hb9⟩
          have HB9 := Lib.hid hb9
          clear hb9
          go_wp2_with fail
          go_ret
          exact ⟨rfl, HB9.out⟩
        · have HTO := Lib.hid (rTotal_any _ cs w hI (by omega))
          have htn : tot cs ≠ n := fun h => hbad ⟨⟨by omega, by omega, hm⟩, h, by omega⟩
          obtain ⟨S, hS⟩ : ∃ S, tot cs = S := ⟨_, rfl⟩
          rw [hS] at HTO htn
          have z1 : (S != n) = true := by simpa using htn
          clear hI hbad h60 hm htn hS
          go_enter Tryd.func3, Tryd.ntmps3
          go_wp2_with fail
          refine HF.out.mono ?_
          rintro e w1 ⟨rfl, rfl⟩
          go_wp2_with fail
          refine HNU.out.mono ?_
          rintro e w2 ⟨rfl, rfl⟩
          go_wp2_with fail
          refine HRN.out.mono ?_
          rintro e w2 ⟨rfl, rfl⟩
          go_wp2_with fail
          refine HMA.out.mono ?_
          rintro e w2 ⟨rfl, rfl⟩
          go_wp2_with fail
          refine HTO.out.mono ?_
          rintro e w2 ⟨rfl, rfl⟩
          go_wp2_with fail
          refine (H3.out _ HBN.out).mono ?_
          rintro e w9 ⟨rfl, hb9⟩
          have HB9 := Lib.hid hb9
          clear hb9
          go_wp2_with fail
          go_ret
          exact ⟨rfl, HB9.out⟩
      · have HMA := Lib.hid (may_any _ cs 0 1099511627776 false w hI ⟨fun e => (by cases e), fun e => absurd e hm⟩ (by omega))
        clear hI hbad h60 hm
        go_enter Tryd.func3, Tryd.ntmps3
        go_wp2_with fail
        refine HF.out.mono ?_
        rintro e w1 ⟨rfl, rfl⟩
        go_wp2_with fail
        refine HNU.out.mono ?_
        rintro e w2 ⟨rfl, rfl⟩
        go_wp2_with fail
        refine HRN.out.mono ?_
        rintro e w2 ⟨rfl, rfl⟩
        go_wp2_with fail
        refine HMA.out.mono ?_
        rintro e w2 ⟨rfl, rfl⟩
        go_wp2_with fail
        refine (H3.out _ HBN.out).mono ?_
        rintro e w9 ⟨rfl, hb9⟩
        have HB9 := Lib.hid hb9
        clear hb9
        go_wp2_with fail
        go_ret
        exact ⟨rfl, HB9.out⟩
set_option maxRecDepth 100000 in
set_option maxHeartbeats 4000000 in
theorem tablesFirst.good (l : Option Addr) (N lcap : Nat) (cs : List Int) (n : Int) (w : World) (hB : Bnds w) (hI : IsInts w (.slice l N lcap) cs) (hlen : cs.length = N) (h60 : N ≤ 60) (hc : Cnts cs) (hn : tot cs = n) (h1 : 1 ≤ n) :
    Calls Tryd.prog 3 #[.slice l N lcap, .int .i64 n] w fun e w' => e = .returned (.bool true) ∧ Below w.heap.size w w' := by
  have H3 := Lib.hid (fun W hW => tabThree_any W hW)
  have hti := tot_in cs
  have HF := Lib.hid (tFirst_any _ cs n w hI hB hc hn h1)
  have HNU := Lib.hid (fun W hW => number12_any n W hW)
  have HRN := Lib.hid (fun W => rnum12_any n W)
  have HMA := Lib.hid (fun W hW => may_any (.slice l N lcap) cs 0 1099511627776 true W hW ⟨fun _ => hc.2.2, fun _ => rfl⟩ (by omega))
  have HTO := Lib.hid (fun W hW => rTotal_any (.slice l N lcap) cs W hW (by omega))
  rw [hn] at HTO hti
  have HRF := Lib.hid (fun W hW => rFirst_any (.slice l N lcap) cs n W hW hc.2.2 hc.2.1 h1 hti.2)
  have HBN := Lib.hid hB
  have HI := Lib.hid hI
  have hsi : ¬ (N : Int) < 3 := by have := hc.1; omega
  have h60i : ¬ (60 : Int) < (N : Int) := by omega
  have hgi : ¬ (258 : Int) < (N : Int) := by omega
  have hn1 : ¬ n < 1 := by omega
  have z1 : (n != n) = false := by simp
  obtain ⟨T, hT⟩ : ∃ T, nTab n = T := ⟨_, rfl⟩
  have HL : Hid ((firstM cs n).length ≤ 1000000 ∧ ∀ x ∈ firstM cs n, x.length ≤ 9223372036854775807) := Lib.hid (by
    have hb := nTab_bd n
    refine ⟨by unfold firstM; rw [firstK_len]; omega, fun x hx => ?_⟩
    unfold firstM firstK at hx
    obtain ⟨i, _, rfl⟩ := List.mem_map.1 hx
    rw [fRow_len]
    omega)
  rw [hT] at HNU HRN
  have z0 : ((T : Int) != (T : Int)) = false := by simp
  clear hT hB hI hc hn hti hlen
  generalize firstM cs n = fs at *
  go_enter Tryd.func3, Tryd.ntmps3
  go_wp2_with fail
  refine HF.out.mono ?_
  rintro e w1 ⟨u, rfl, hr, hb⟩
  have HR := Lib.hid hr
  have HB1 := Lib.hid hb
  have HBN1 := Lib.hid (HBN.out.below hb)
  have HI1 := Lib.hid (HI.out.below hb)
  obtain ⟨au, cu, rfl, _⟩ := hr
  obtain ⟨M, hM⟩ : ∃ M, fs.length = M := ⟨_, rfl⟩
  rw [hM] at HR ⊢
  clear hb hM
  go_wp2_with fail
  refine (HNU.out _ HBN1.out).mono ?_
  rintro e w2 ⟨rfl, rfl⟩
  go_wp2_with fail
  refine (HRN.out _).mono ?_
  rintro e w3 ⟨rfl, rfl⟩
  go_wp2_with fail
  refine (HMA.out _ HI1.out).mono ?_
  rintro e w4 ⟨rfl, rfl⟩
  go_wp2_with fail
  refine (HTO.out _ HI1.out).mono ?_
  rintro e w5 ⟨rfl, rfl⟩
  by_cases hbig : 274877906944 < n
  · go_wp2_with fail
    refine (H3.out _ HBN1.out).mono ?_
    rintro e w9 ⟨rfl, hb9⟩
    have HB9 := Lib.hid (HB1.out.trans (hb9.mono HB1.out.size))
    clear hb9
    go_wp2_with fail
    go_ret
    exact ⟨rfl, HB9.out⟩
  · go_wp2_with fail
    refine (HRF.out _ HI1.out).mono ?_
    rintro e w6 ⟨u6, rfl, hr6, hb6⟩
    have HR6 := Lib.hid hr6
    have HR16 := Lib.hid (HR.out.below hb6)
    have HB6 := Lib.hid (HB1.out.trans (hb6.mono HB1.out.size))
    have HBN6 := Lib.hid (HBN1.out.below hb6)
    have HRO := Lib.hid (rows_any12 _ _ fs fs true _ HR16.out HR6.out ⟨fun _ => rfl, fun _ => rfl⟩ HL.out.1 HL.out.1 HL.out.2 HL.out.2)
    obtain ⟨a6, c6, rfl, _⟩ := hr6
    obtain ⟨M6, hM6⟩ : ∃ M, fs.length = M := ⟨_, rfl⟩
    rw [hM6] at HRO ⊢
    clear hb6 hM6
    go_wp2_with fail
    refine HRO.out.mono ?_
    rintro e w7 ⟨rfl, m, rfl⟩
    have HBN7 : Hid (Bnds (w6.drewN m)) := Lib.hid (HBN6.out.below (below_drewN _ m))
    have HB7 : Hid (Below w.heap.size w (w6.drewN m)) := Lib.hid (HB6.out.trans ⟨rfl, rfl, rfl, Nat.le_refl _, fun _ _ => rfl⟩)
    generalize w6.drewN m = w7 at *
    go_wp2_with fail
    refine (H3.out _ HBN7.out).mono ?_
    rintro e w9 ⟨rfl, hb9⟩
    have HB9 := Lib.hid (HB7.out.trans (hb9.mono HB7.out.size))
    clear hb9
    go_wp2_with fail
    go_ret
    exact ⟨rfl, HB9.out⟩
set_option maxRecDepth 100000 in
theorem tablesFirst.walk (l : Option Addr) (llen lcap : Nat) (lz : List Int) (n : Int) (w : World) (hB : Bnds w) (hl : IsRow .i64 w l llen lcap lz) (hn : (Lit.int .i64 n).wf = true) :
    Calls Tryd.prog 3 #[.slice l llen lcap, .int .i64 n] w fun e w' => e = .returned (.bool true) ∧ Below w.heap.size w w' := by
  obtain ⟨hI, hlen⟩ := ints_in hl
  obtain ⟨hl1, hl2⟩ := isRow_len hl
  generalize List.take llen lz = cs at *
  by_cases h60 : 60 < llen ∧ llen ≤ 258
  · have h1i : (60 : Int) < (llen : Int) := by omega
    have h2i : (llen : Int) ≤ 258 := by omega
    have H3 := Lib.hid (tabThree_any w hB)
    clear hl hI h60
    go_enter Tryd.func3, Tryd.ntmps3
    go_wp2_with fail
    refine H3.out.mono ?_
    rintro e w9 ⟨rfl, hb9⟩
    have HB9 := Lib.hid hb9
    clear hb9
    go_wp2_with fail
    go_ret
    exact ⟨rfl, HB9.out⟩
  · by_cases hc : Cnts cs ∧ tot cs = n ∧ 1 ≤ n
    · exact tablesFirst.good l llen lcap cs n w hB hI hlen (by have h1 := hc.1.2.1; omega) hc.1 hc.2.1 hc.2.2
    · exact tablesFirst.bad l llen lcap cs n w hB hI hlen (by omega) h60 hc
end Go.Proofs.YtmlcdfimcabgkaaDoor
