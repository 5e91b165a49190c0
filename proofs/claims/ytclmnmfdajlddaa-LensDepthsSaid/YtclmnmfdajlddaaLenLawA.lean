/-
  LAYER 9 (lens): the document's share; what each statement holds besides; LensWhole, LensShare.
-/
import Derived.Test.YtclmnmfdajlddaaLenH
namespace Go.Proofs.Ytclmnmfdajlddaa
open Go.RowKit HufM
set_option linter.unusedVariables false
set_option maxRecDepth 100000 in
set_option maxHeartbeats 2000000 in
theorem rShare_any (v : Value) (zs : List Int) (w : World) (hv : IsInts w v zs) (hz : zs.length ≤ 1000) (hw : Within 0 20 zs) :
    Calls Try.prog 26 #[v] w fun e w' => e = .returned (.int .i64 (shr zs : Int)) ∧ w' = w := by
  have HV := Lib.hid hv
  have HW := Lib.hid hw
  obtain ⟨ad, cap, rfl, _⟩ := hv
  clear hw
  go_enter Try.func26, Try.ntmps26
  go_wp2_with fail
  go_loopw [3, 9] (fun m i wr => ∃ k s : Nat, k ≤ zs.length ∧ i = .int .i64 k ∧ m = .int .i64 s ∧ s = shr (zs.take k) ∧ wr = w) (fun _ i _ => zs.length - (intOf i).toNat)
  case atStart => exact ⟨0, 0, by omega, rfl, rfl, rfl, rfl⟩
  case round =>
    obtain ⟨k, s, hk, rfl, rfl, hs, rfl⟩ := hrel
    by_cases hlk : k < zs.length
    · have hki : (k : Int) < (zs.length : Int) := by omega
      obtain ⟨b1, o1, k1, he1, c1⟩ := HV.out.cell hlk
      simp only [Value.slice.injEq] at he1
      obtain ⟨rfl, _, rfl⟩ := he1
      have ht := shr_take zs hlk
      have hx2 := HW.out _ (getD_mem hlk)
      have hsb : s ≤ 1048576 * 1000 := by
        have := shr_bound (zs.take k)
        rw [← hs, List.length_take] at this
        have h3 : 1048576 * min k zs.length ≤ 1048576 * 1000 := Nat.mul_le_mul_left _ (by omega)
        omega
      obtain ⟨x, hx⟩ : ∃ x, zs.getD k 0 = x := ⟨_, rfl⟩
      rw [hx] at c1 ht hx2
      obtain ⟨E, he⟩ : ∃ e, 20 - x.toNat = e := ⟨_, rfl⟩
      have hxe : (20 : Int) - x = (E : Int) := by omega
      have hE : E ≤ 20 := by omega
      rw [he, ← hs] at ht
      have HT := Lib.hid ht
      clear hs hx ht he
      go_wp2_with fail
      go_loopw [6, 15] (fun p j wr2 => ∃ t P : Nat, t ≤ E ∧ j = .int .i64 t ∧ p = .int .i64 P ∧ P = 2 ^ t ∧ wr2 = wr) (fun _ j _ => E - (intOf j).toNat)
      case atStart => exact ⟨0, 1, by omega, rfl, rfl, rfl, rfl⟩
      case round =>
        obtain ⟨t, P, htE, rfl, rfl, hP, rfl⟩ := hrel
        have hPb : P ≤ 1048576 := by rw [hP]; exact Nat.pow_le_pow_right (by decide) (show t ≤ 20 by omega)
        by_cases hte : t < E
        · have hte2 : (t : Int) < (E : Int) := by omega
          have HP : Hid (P * 2 = 2 ^ (t + 1)) := Lib.hid (by rw [Nat.pow_succ, ← hP])
          clear hP
          go_wp2_with fail
          go_roundw
          case rel => exact ⟨t + 1, P * 2, by omega, by go_num, by go_num, HP.out, (by first | rfl | trivial)⟩
          case measure => simp [intOf]; omega
        · have hte2 : ¬ (t : Int) < (E : Int) := by omega
          have HP : Hid (P = 2 ^ E) := Lib.hid (by rw [hP]; congr 1; omega)
          clear hP
          go_wp2_with fail
          go_roundw
          case rel => exact ⟨k + 1, s + P, by omega, by go_num, by go_num, by rw [HP.out]; exact HT.out.symm, (by first | rfl | trivial)⟩
          case measure => simp [intOf]; omega
    · have hki : ¬ (k : Int) < (zs.length : Int) := by omega
      have e : zs.take k = zs := List.take_of_length_le (by omega)
      rw [e] at hs
      have HS := Lib.hid hs
      clear e hs
      go_wp2_with fail
      go_ret
      rw [HS.out]
      exact ⟨rfl, rfl⟩
/-! ### Three counts -/
theorem dep3 : DepP [5, 1, 1] [1, 2, 2] := by
  refine ⟨fun n => if n = 0 then 1 else if n = 1 then 2 else if n = 2 then 2 else if n = 3 then 1 else 0, ?_, by decide⟩
  refine Run.step 3 _ (1, 1) (1, 2) [(5, 0)] _ (by decide) (Or.inr ⟨rfl, by decide⟩) (fun t ht => ?_) ?_ rfl rfl
  · rw [List.mem_singleton] at ht; subst ht; exact Or.inl (by decide)
  · refine Run.step 4 _ (2, 3) (5, 0) [] _ (List.Perm.refl _) (Or.inl (by decide)) (fun t ht => (by cases ht)) ?_ rfl rfl
    exact Run.one _ _ _ rfl
theorem of3 {rs : List Int} {err : Nat} (h : OfP [5, 1, 1] rs err) : rs = [1, 2, 2] ∧ err = 0 := by
  rcases h with ⟨h1, _⟩ | ⟨_, ⟨n, _, h2⟩, h3⟩
  · exact absurd ⟨by decide, by decide, by intro z hz; simp at hz; omega⟩ h1
  · have hu : ups [5, 1, 1] = [5, 1, 1] := by decide
    rw [hu] at h2
    exact ⟨(h2.same 0 [1, 2, 2] (.now _ _ dep3 (by intro z hz; simp at hz; omega))).1, h3⟩
theorem share3 {n : Int} {err : Nat} (h : ShareP [1, 2, 2] n err) : n = 1048576 ∧ err = 0 := by
  rcases h with ⟨h1, _⟩ | ⟨_, h2, h3⟩
  · exact absurd ⟨by decide, by intro z hz; simp at hz; omega⟩ h1
  · exact ⟨h2.trans (by decide), h3⟩
theorem lg3 : lg [1, 2, 2] = 2 := by decide
set_option maxRecDepth 100000 in
set_option maxHeartbeats 2000000 in
theorem three_any (w : World) : Calls Try.prog 15 #[] w fun e w' => e = .returned (.bool true) ∧ Below w.heap.size w w' := by
  go_enter Try.func15, Try.ntmps15
  go_wp2_with fail
  refine (of_any _ [5, 1, 1] _ (by exact ints_lit w 5 1 1) (by decide)).mono ?_
  rintro e w1 ⟨v, rs, err, rfl, hI, hP, hB⟩
  obtain ⟨rfl, rfl⟩ := of3 hP
  have HI := Lib.hid hI
  have HB := Lib.hid (((Below.refl w.heap.size w).alloc (Nat.le_refl _) _).trans (hB.mono (by simp)))
  clear hI hB hP
  go_wp2_with fail
  refine (share_any v [1, 2, 2] w1 HI.out (by decide)).mono ?_
  rintro e w2 ⟨n, err, rfl, hP, rfl⟩
  obtain ⟨rfl, rfl⟩ := share3 hP
  clear hP
  go_wp2_with fail
  refine (ints_any v _ [1, 2, 2] [1, 2, 2] true _ (by exact HI.out.below ((Below.refl _ w2).alloc (Nat.le_refl _) _)) (by exact ints_lit w2 1 2 2) ⟨fun _ => rfl, fun _ => rfl⟩ (by decide) (by decide)).mono ?_
  rintro e w4 ⟨rfl, k, hk⟩
  have hb34 : Below w2.heap.size w2 w4 := by
    rw [hk]
    exact ((Below.refl w2.heap.size w2).alloc (Nat.le_refl _) _).trans ((below_drewN _ k).mono (by simp))
  have HB4 := Lib.hid (HB.out.trans (hb34.mono HB.out.size))
  have HI4 := Lib.hid (HI.out.below hb34)
  clear hk hb34
  go_wp2_with fail
  refine (longest_any v [1, 2, 2] w4 HI4.out (by decide)).mono ?_
  rintro e w' ⟨rfl, rfl⟩
  rw [lg3]
  go_wp2_with fail
  go_ret
  exact ⟨rfl, HB4.out⟩
set_option maxRecDepth 100000 in
set_option maxHeartbeats 2000000 in
theorem lensWhole.walk (l : Option Addr) (llen lcap : Nat) (lz : List Int) (w : World) (hl : IsRow .i64 w l llen lcap lz) :
    Calls Try.prog 6 #[.slice l llen lcap] w fun e w' => e = .returned (.bool true) ∧ Below w.heap.size w w' := by
  obtain ⟨hI, hlen⟩ := ints_in hl
  obtain ⟨hl1, hl2⟩ := isRow_len hl
  have HI := Lib.hid hI
  clear hl hI
  generalize lz.take llen = zs at *
  have HLEN := Lib.hid hlen
  clear hlen
  have h3 := three_any
  by_cases h1 : llen < 3
  · have h1b : (llen : Int) < 3 := by omega
    go_enter Try.func6, Try.ntmps6
    go_wp2_with fail
    refine (h3 w).mono ?_
    rintro e w' ⟨rfl, hb⟩
    have HB := Lib.hid hb
    clear hb
    go_wp2_with fail
    go_ret
    exact ⟨rfl, HB.out⟩
  · have h1b : decide ((llen : Int) < 3) = false := by simp only [decide_eq_false_iff_not]; omega
    by_cases h2 : 258 < llen
    · have h2b : 258 < (llen : Int) := by omega
      go_enter Try.func6, Try.ntmps6
      go_wp2_with fail
      refine (h3 w).mono ?_
      rintro e w' ⟨rfl, hb⟩
      have HB := Lib.hid hb
      clear hb
      go_wp2_with fail
      go_ret
      exact ⟨rfl, HB.out⟩
    · have h2b : decide (258 < (llen : Int)) = false := by simp only [decide_eq_false_iff_not]; omega
      by_cases hw : Within 0 1099511627776 zs
      · have HW := Lib.hid hw
        have HA := Lib.hid (may_any _ zs 0 1099511627776 true w HI.out ⟨fun _ => hw, fun _ => rfl⟩ (by rw [HLEN.out]; omega))
        clear hw
        go_enter Try.func6, Try.ntmps6
        go_wp2_with fail
        refine HA.out.mono ?_
        rintro e w1 ⟨rfl, rfl⟩
        go_wp2_with fail
        refine (of_any _ zs w1 HI.out (by rw [HLEN.out]; omega)).mono ?_
        rintro e w2 ⟨r, rs, err, rfl, hI2, hP, hB⟩
        obtain ⟨rfl, hrl, hrb, hrs⟩ : err = 0 ∧ rs.length = llen ∧ Within 1 20 rs ∧ shr rs = 1048576 := by
          rcases hP with ⟨h, _⟩ | ⟨_, ⟨n, _, ho⟩, e⟩
          · exact absurd ⟨by rw [HLEN.out]; omega, by rw [HLEN.out]; omega, HW.out⟩ h
          · have := ho.whole (by rw [ups_len, HLEN.out]; omega)
            rw [ups_len, HLEN.out] at this
            exact ⟨e, this.1, this.2.1, this.2.2⟩
        have HRB := Lib.hid hrb
        have HRS := Lib.hid hrs
        have HRL := Lib.hid hrl
        have HI2 := Lib.hid hI2
        have HB := Lib.hid hB
        have HM := Lib.hid (may_any r rs 1 20 true w2 hI2 ⟨fun _ => hrb, fun _ => rfl⟩ (by rw [hrl]; omega))
        have HS := Lib.hid (rShare_any r rs w2 hI2 (by rw [hrl]; omega) (fun z hz => by have := hrb z hz; omega))
        obtain ⟨a2, cap2, rfl, _⟩ := hI2
        rw [hrl] at HM HS ⊢
        rw [hrs] at HS
        clear hP hrb hrs hrl hB
        have hll : ((llen : Int) == (llen : Int)) = true := by simp
        go_wp2_with fail
        refine HM.out.mono ?_
        rintro e w3 ⟨rfl, rfl⟩
        go_wp2_with fail
        refine HS.out.mono ?_
        rintro e w3' ⟨rfl, rfl⟩
        go_wp2_with fail
        refine (h3 _).mono ?_
        rintro e w4 ⟨rfl, hb⟩
        have HB4 := Lib.hid (HB.out.trans (hb.mono HB.out.size))
        clear hb
        go_wp2_with fail
        go_ret
        exact ⟨rfl, HB4.out⟩
      · have HA := Lib.hid (may_any _ zs 0 1099511627776 false w HI.out ⟨fun h => (by cases h), fun h => absurd h hw⟩ (by rw [HLEN.out]; omega))
        clear hw
        go_enter Try.func6, Try.ntmps6
        go_wp2_with fail
        refine HA.out.mono ?_
        rintro e w1 ⟨rfl, rfl⟩
        go_wp2_with fail
        refine (h3 w1).mono ?_
        rintro e w' ⟨rfl, hb⟩
        have HB := Lib.hid hb
        clear hb
        go_wp2_with fail
        go_ret
        exact ⟨rfl, HB.out⟩
end Go.Proofs.Ytclmnmfdajlddaa
