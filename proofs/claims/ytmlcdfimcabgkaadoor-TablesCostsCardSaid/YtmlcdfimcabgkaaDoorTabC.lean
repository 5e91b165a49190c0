/-
  THE WALKS OF LAYER 12's CODE (package tables): the cheapest table of a group.
-/
import Derived.Test.YtmlcdfimcabgkaaDoorTabB
import Derived.Test.YtmlcdfimcabgkaaDoorCells
namespace Go.Proofs.YtmlcdfimcabgkaaDoor
open Go.RowKit TabM FreqM HufM
set_option linter.unusedVariables false
theorem IsRR.at_ {w : World} {v : Value} {gs : List (List Int)} (h : IsRR w v gs) {k : Nat} (hk : k < gs.length) : ∃ b off cap u, v = .slice (some ⟨b, off, none⟩) gs.length cap ∧ w.cell? ⟨b, off + k, none⟩ = some u ∧ IsInts w u (rw_ gs k) := by
  obtain ⟨a, cap, hv, hc⟩ := h
  obtain ⟨b, off, u, ha, hcell, hi⟩ := hc k _ (List.getElem?_eq_getElem hk)
  refine ⟨b, off, cap, u, by rw [hv, ha], hcell, ?_⟩
  unfold rw_
  rw [List.getD_eq_getElem?_getD, List.getElem?_eq_getElem hk]
  exact hi
def lst (g : List Int) (rows : List (List Int)) (k : Nat) : Int := if k = 0 then 1099511627776 else costS g (rw_ rows (pk g rows k))
set_option maxRecDepth 100000 in
set_option maxHeartbeats 2000000 in
theorem cheapest_any (vg vr : Value) (g : List Int) (rows : List (List Int)) (N : Nat) (w : World) (hg : IsInts w vg g) (hr : IsRR w vr rows) (hsy : Syms g (N : Int)) (hok : TabOk N rows) (hg50 : g.length ≤ 50) (hN : N ≤ 258) :
    Calls Tryd.prog 48 #[vg, vr] w fun e w' => e = .returned (.int .i64 (pickM g rows : Int)) ∧ w' = w := by
  have HR := Lib.hid hr
  have HOK := Lib.hid hok
  obtain ⟨hl2, hl6, _⟩ := hok
  have HCO := Lib.hid (fun k (hk : k < rows.length) (u : Value) (hu : IsInts w u (rw_ rows k)) => cost_any vg u g (rw_ rows k) w hg hu (by omega) (by rw [(HOK.out.at_ hk).1]; omega))
  have HCK : Hid (∀ k n err, k < rows.length → CostP g (rw_ rows k) n err → n = costS g (rw_ rows k) ∧ err = 0 ∧ 0 ≤ n ∧ n ≤ 1000) := Lib.hid (fun k n err hk hp => by
    obtain ⟨h1, h2⟩ := HOK.out.at_ hk
    have h3 := costS_bd hsy h1 h2
    rcases hp with ⟨h, _⟩ | ⟨_, h, h4⟩
    · exact absurd ⟨by rw [h1]; exact hsy, fun x hx => by have := h2 x hx; omega⟩ h
    · rw [cap_id _ (by omega)] at h
      exact ⟨h, h4, by omega, by omega⟩)
  obtain ⟨ar, cr, rfl, _⟩ := hr
  obtain ⟨T, hT⟩ : ∃ T, rows.length = T := ⟨_, rfl⟩
  have HT := Lib.hid hT
  obtain ⟨M, hM⟩ : ∃ M, pickM g rows = M := ⟨_, rfl⟩
  have HM : Hid (pk g rows T = M) := Lib.hid (by rw [← hT]; exact hM)
  rw [hM]
  rw [hT] at hl2 hl6 HCO HCK ⊢
  clear hT hM hg hsy
  go_enter Tryd.func48, Tryd.ntmps48
  go_wp2_with fail
  go_loopw [5, 6, 13] (fun vp vl vk wr => ∃ k : Nat, vk = .int .i64 (k : Int) ∧ k ≤ T ∧ vp = .int .i64 (pk g rows k : Int) ∧ vl = .int .i64 (lst g rows k) ∧ wr = w) (fun _ _ vk _ => T - (intOf vk).toNat)
  case atStart => exact ⟨0, rfl, by omega, rfl, rfl, rfl⟩
  case round =>
    obtain ⟨k, rfl, hk, rfl, rfl, rfl⟩ := hrel
    by_cases hkT : k < T
    · have hki : (k : Int) < (T : Int) := by omega
      obtain ⟨b, off, cap, u, he, c1, hI⟩ := HR.out.at_ (show k < rows.length by rw [HT.out]; exact hkT)
      rw [HT.out] at he
      simp only [Value.slice.injEq] at he
      obtain ⟨rfl, he2, rfl⟩ := he
      clear he2
      have HCOK := Lib.hid (HCO.out k hkT u hI)
      have HPS : Hid (pk g rows (k + 1) = if costS g (rw_ rows k) < costS g (rw_ rows (pk g rows k)) then k else pk g rows k) := Lib.hid rfl
      have hle := pk_le g rows k
      obtain ⟨p, hp⟩ : ∃ p, pk g rows k = p := ⟨_, rfl⟩
      obtain ⟨L, hL⟩ : ∃ L, lst g rows k = L := ⟨_, rfl⟩
      have HL := Lib.hid hL
      have HP := Lib.hid hp
      rw [hp] at HPS hle ⊢
      rw [hL]
      clear hp hL hI
      go_wp2_with fail
      refine HCOK.out.mono ?_
      rintro e w' ⟨n, err, rfl, rfl, hcp⟩
      obtain ⟨hn, rfl, hn0, hn1⟩ := HCK.out k n err hkT hcp
      have HN := Lib.hid hn
      clear hcp hn
      by_cases hlt : n < L
      · have HNX : Hid (pk g rows (k + 1) = k ∧ lst g rows (k + 1) = n) := Lib.hid (by
          have h1 : pk g rows (k + 1) = k := by
            rw [HPS.out]
            by_cases h0 : k = 0
            · subst h0
              have : p = 0 := by omega
              rw [this]
              split <;> rfl
            · have h2 := HL.out
              unfold lst at h2
              rw [if_neg h0, HP.out] at h2
              rw [if_pos (by rw [h2, ← HN.out]; exact hlt)]
          refine ⟨h1, ?_⟩
          unfold lst
          rw [if_neg (by omega), h1, HN.out])
        go_wp2_with fail
        go_roundw
        case rel => exact ⟨k + 1, by go_num, by omega, by rw [HNX.out.1], by rw [HNX.out.2], by trivial⟩
        case measure => simp [intOf]; omega
      · have HNX : Hid (pk g rows (k + 1) = p ∧ lst g rows (k + 1) = L) := Lib.hid (by
          have h0 : k ≠ 0 := fun h0 => by
            subst h0
            have h2 := HL.out
            unfold lst at h2
            rw [if_pos rfl] at h2
            omega
          have h2 := HL.out
          unfold lst at h2
          rw [if_neg h0, HP.out] at h2
          have h1 : pk g rows (k + 1) = p := by
            rw [HPS.out, if_neg (by rw [h2, ← HN.out]; exact hlt)]
          refine ⟨h1, ?_⟩
          unfold lst
          rw [if_neg (by omega), h1, h2])
        go_wp2_with fail
        go_roundw
        case rel => exact ⟨k + 1, by go_num, by omega, by rw [HNX.out.1], by rw [HNX.out.2], by trivial⟩
        case measure => simp [intOf]; omega
    · obtain rfl : k = T := by omega
      have hki : ¬ (k : Int) < (k : Int) := by omega
      rw [HM.out]
      go_wp2_with fail
      go_ret
      exact ⟨rfl, rfl⟩
end Go.Proofs.YtmlcdfimcabgkaaDoor
