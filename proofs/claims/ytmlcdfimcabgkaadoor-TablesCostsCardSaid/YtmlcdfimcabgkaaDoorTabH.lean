/-
  LAYER 12's STATEMENTS: three symbols.
-/
import Derived.Test.YtmlcdfimcabgkaaDoorTabG
namespace Go.Proofs.YtmlcdfimcabgkaaDoor
open Go.RowKit TabM FreqM HufM
set_option linter.unusedVariables false
theorem dep111 : DepP [1, 1, 1] [2, 2, 1] := by
  refine ⟨fun n => if n = 0 then 2 else if n = 1 then 2 else if n = 2 then 1 else if n = 3 then 1 else 0, ?_, by decide⟩
  refine Run.step 3 _ (1, 0) (1, 1) [(1, 2)] _ (by decide) (Or.inr ⟨rfl, by decide⟩) (fun t ht => ?_) ?_ rfl rfl
  · rw [List.mem_singleton] at ht; subst ht; exact Or.inr ⟨rfl, by decide⟩
  · refine Run.step 4 _ (1, 2) (2, 3) [] _ (by decide) (Or.inl (by decide)) (fun t ht => (by cases ht)) ?_ rfl rfl
    exact Run.one _ _ _ rfl
theorem lens111 (zs : List Int) (h : ups zs = [1, 1, 1]) : lensF zs = [2, 2, 1] := lensF_of (n := 0) (by omega) (by rw [h]; exact .now _ _ dep111 (by intro z hz; simp at hz; omega))
theorem first012 : firstM (counts [0, 1, 2] 3) 3 = [[0, 0, 15], [15, 15, 0]] := by decide
theorem round012 (rows : List (List Int)) (h : rows.length = 2) : roundM [0, 1, 2] 3 rows = [[2, 2, 1], [2, 2, 1]] := by
  have h1 : ∀ p, lensF (counts (took [0, 1, 2] rows p (ng ([0, 1, 2] : List Int).length)) 3) = [2, 2, 1] := fun p => by
    have e : ng ([0, 1, 2] : List Int).length = 1 := by decide
    rw [e]
    have e2 : took [0, 1, 2] rows p 1 = if pickM (grp [0, 1, 2] 0) rows = p then [0, 1, 2] else [] := by
      show [] ++ (if _ then grp [0, 1, 2] 0 else []) = _
      rw [List.nil_append]
      rfl
    rw [e2]
    split
    · exact lens111 _ (by decide)
    · exact lens111 _ (by decide)
  unfold roundM
  rw [h]
  show [lensF _, lensF _] = _
  rw [h1 0, h1 1]
theorem rnd012 (i : Nat) : rnd [0, 1, 2] 3 (i + 1) = [[2, 2, 1], [2, 2, 1]] := by
  rw [rnd]
  exact round012 _ (by rw [rnd_len]; decide)
theorem picks012 : picksM [0, 1, 2] (rnd [0, 1, 2] 3 3) (ng ([0, 1, 2] : List Int).length) = [0] := by
  rw [rnd012 2]
  decide
theorem costs012 {n err : Int} (h : CostsP [0, 1, 2] [[2, 2, 1], [2, 2, 1]] [0] n err) : n = 5 ∧ err = 0 := by
  rcases h with ⟨_, h1, h2⟩ | ⟨h1, _⟩
  · exact ⟨h1.trans (by decide), h2⟩
  · exact absurd ⟨by decide, fun i hi => by
      obtain rfl : i = 0 := by simp at hi; exact hi
      refine ⟨by decide, by decide, ?_, ?_⟩
      · intro x hx
        have : x = 0 ∨ x = 1 ∨ x = 2 := by simpa [grp] using hx
        show 0 ≤ x ∧ x < 3
        omega
      · intro x hx
        have : x = 2 ∨ x = 1 := by simpa [rw_] using hx
        omega⟩ h1
theorem syms012 : Syms [0, 1, 2] ((3 : Nat) : Int) := by
  intro x hx
  have : x = 0 ∨ x = 1 ∨ x = 2 := by simpa using hx
  omega
set_option maxRecDepth 100000 in
set_option maxHeartbeats 4000000 in
theorem tabThree_any (w : World) (hB : Bnds w) : Calls Tryd.prog 8 #[] w fun e w' => e = .returned (.bool true) ∧ Below w.heap.size w w' := by
  have hB1 := (Below.refl w.heap.size w).alloc (Nat.le_refl _) (.cells #[.int .i64 0, .int .i64 1, .int .i64 2] 3)
  have HOF := Lib.hid (of12_any (some ⟨w.heap.size, 0, none⟩) 3 3 [0, 1, 2] 3 _ (ints_lit w 0 1 2) rfl (by omega) (by omega) (by omega) (hB.below hB1) syms012 (by omega) (by omega) (by omega))
  have HB1 := Lib.hid hB1
  have HB0 := Lib.hid hB
  clear hB1 hB
  go_enter Tryd.func8, Tryd.ntmps8
  go_wp2_with fail
  refine HOF.out.mono ?_
  rintro e w2 ⟨vL, vP, rfl, hL, hP, hB2⟩
  rw [rnd012 3] at hL
  rw [picks012] at hP
  have HB2 : Hid (Below w.heap.size w w2) := Lib.hid (HB1.out.trans (hB2.mono HB1.out.size))
  have HBN2 := Lib.hid (HB0.out.below HB2.out)
  obtain ⟨aL, cL, hvL, hLc⟩ := hL
  obtain ⟨aP, cP, hvP, hPc⟩ := hP
  have hvL2 : vL = .slice aL 2 cL := hvL
  have hvP2 : vP = .slice aP 1 cP := hvP
  subst hvL2
  subst hvP2
  have hL2 : IsRR w2 (.slice aL 2 cL) [[2, 2, 1], [2, 2, 1]] := ⟨aL, cL, rfl, hLc⟩
  have hP2 : IsInts w2 (.slice aP 1 cP) [0] := ⟨aP, cP, rfl, hPc⟩
  clear hvL hvP hLc hPc hB2 HOF
  have hb3 := (Below.refl w2.heap.size w2).alloc (Nat.le_refl _) (.cells #[.slice aL 2 cL, .slice aP 1 cP] 35)
  have hs3 : (w2.alloc (.cells #[.slice aL 2 cL, .slice aP 1 cP] 35)).heap.size = w2.heap.size + 1 := by simp
  have hb4 := hb3.alloc hb3.size (.cells #[.int .i64 0, .int .i64 1, .int .i64 2] 3)
  have hI4 := ints_lit (w2.alloc (.cells #[.slice aL 2 cL, .slice aP 1 cP] 35)) 0 1 2
  rw [hs3] at hI4
  have HCO := Lib.hid (cost12_any (some ⟨w2.heap.size + 1, 0, none⟩) 3 3 [0, 1, 2] (.slice aL 2 cL) (.slice aP 1 cP) [[2, 2, 1], [2, 2, 1]] [0] _ hI4 rfl (by omega) (by omega) (by omega) (hL2.below hb4) (hP2.below hb4) (by decide) (by intro r hr; simp at hr; subst hr; decide) (by decide))
  have hg := fun o => heap_alloc2_old w2 (.cells #[.slice aL 2 cL, .slice aP 1 cP] 35) o
  have HB4 := Lib.hid (HB2.out.trans (hb4.mono HB2.out.size))
  have HP4 := Lib.hid (hP2.below hb4)
  have HBN4 := Lib.hid (HBN2.out.below hb4)
  have hG4 := hg (.cells #[.int .i64 0, .int .i64 1, .int .i64 2] 3)
  have HG4 := Lib.hid hG4
  have HSZ4 : Hid (((w2.alloc (.cells #[.slice aL 2 cL, .slice aP 1 cP] 35)).alloc (.cells #[.int .i64 0, .int .i64 1, .int .i64 2] 3)).heap.size = w2.heap.size + 1 + 1) := Lib.hid (by simp)
  have hi := info_ch
  have hu := Tryd.underlying35
  clear hL2 hP2 hb3 hb4 hI4 hG4 hs3
  go_wp2_with (refine wpList_load_row rfl 35 _ rfl w2.heap.size rfl 35 #[.slice aL 2 cL, .slice aP 1 cP] (0, 0) _ (hg _) hu rfl hi ?_)
  generalize (w2.alloc (.cells #[.slice aL 2 cL, .slice aP 1 cP] 35)).alloc (.cells #[.int .i64 0, .int .i64 1, .int .i64 2] 3) = w4 at *
  clear hg hu hi
  refine HCO.out.mono ?_
  rintro e w5 ⟨n, err, rfl, hcp, hb5⟩
  obtain ⟨rfl, rfl⟩ := costs012 hcp
  have hg5 := (hb5.block w2.heap.size (by rw [HSZ4.out]; omega)).trans HG4.out
  have c0 : w5.cell? ⟨w2.heap.size, 0, none⟩ = some (.slice aL 2 cL) := by rw [cell_of_row _ _ _ _ _ _ hg5]; rfl
  have c1 : w5.cell? ⟨w2.heap.size, 1, none⟩ = some (.slice aP 1 cP) := by rw [cell_of_row _ _ _ _ _ _ hg5]; rfl
  have HB5 := Lib.hid (HB4.out.trans (hb5.mono HB4.out.size))
  have hb6 := (Below.refl w5.heap.size w5).alloc (Nat.le_refl _) (.cells #[.int .i64 0] 3)
  have HP6 := Lib.hid ((HP4.out.below hb5).below hb6)
  have HI6 : Hid (IsInts (w5.alloc (.cells #[.int .i64 0] 3)) (.slice (some ⟨w5.heap.size, 0, none⟩) 1 1) [0]) := Lib.hid (ints_of_row (rest := []) (heap_alloc_new w5 _) rfl)
  have HB6 := Lib.hid (HB5.out.trans (hb6.mono HB5.out.size))
  have HBN6 := Lib.hid ((HBN4.out.below hb5).below hb6)
  clear hcp hb5 hb6 hg5
  go_wp2_with fail
  generalize w5.alloc (.cells #[.int .i64 0] 3) = w6 at *
  refine (ints_any _ _ [0] [0] true _ HP6.out HI6.out ⟨fun _ => rfl, fun _ => rfl⟩ (by decide) (by decide)).mono ?_
  rintro e w7 ⟨rfl, m7, hw7⟩
  have hb7 : Below w6.heap.size w6 w7 := by rw [hw7]; exact below_drewN _ _
  have HB7 := Lib.hid (HB6.out.trans (hb7.mono HB6.out.size))
  have HBN7 := Lib.hid (HBN6.out.below hb7)
  clear hw7 hb7 c0 c1
  go_wp2_with fail
  refine (number12_any 199 w7 HBN7.out).mono ?_
  rintro e w8 ⟨rfl, rfl⟩
  have hn1 : ((nTab 199 : Nat) : Int) = 2 := by decide
  rw [hn1]
  go_wp2_with fail
  refine (number12_any 2400 _ HBN7.out).mono ?_
  rintro e w9 ⟨rfl, rfl⟩
  have hn2 : ((nTab 2400 : Nat) : Int) = 6 := by decide
  rw [hn2]
  go_wp2_with fail
  go_ret
  exact ⟨rfl, HB7.out⟩
end Go.Proofs.YtmlcdfimcabgkaaDoor
