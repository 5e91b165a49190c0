/-
  LAYER 12's STATEMENTS: TablesCosts.
-/
import Derived.Test.YtmlcdfimcabgkaaDoorFreqLawC
import Derived.Test.YtmlcdfimcabgkaaDoorOpenCh
import Derived.Test.YtmlcdfimcabgkaaDoorTabH
import Derived.Deep.Cut
namespace Go.Proofs.YtmlcdfimcabgkaaDoor
open Go.RowKit TabM FreqM HufM
set_option linter.unusedVariables false
theorem rw_grpsE (zs : List Int) (q i : Nat) (h : i < q) : rw_ (grps zs q) i = grp zs i := by
  unfold rw_
  rw [List.getD_eq_getElem?_getD, List.getElem?_eq_getElem (by rw [grps_len]; exact h), grps_get]
  rfl
def wt (zs : List Int) (rows : List (List Int)) (ps : List Int) : Nat → Int
  | 0 => 0
  | k + 1 => wt zs rows ps k + gc zs rows ps k
theorem wt_bd {zs : List Int} {rows : List (List Int)} {ps : List Int} : ∀ {k : Nat}, (∀ i, i < k → PkOk zs rows ps i) → 0 ≤ wt zs rows ps k ∧ wt zs rows ps k ≤ 1099511627776 * (k : Int)
  | 0, _ => ⟨Int.le_refl _, by show (0 : Int) ≤ _; omega⟩
  | k + 1, h => by
    have h1 := wt_bd (k := k) (fun i hi => h i (by omega))
    have h2 := gc_bd (h k (by omega))
    rw [wt]
    omega
theorem tcC_wt {zs : List Int} {rows : List (List Int)} {ps : List Int} : ∀ {k : Nat}, (∀ i, i < k → PkOk zs rows ps i) → tcC zs rows ps k = cap (wt zs rows ps k)
  | 0, _ => by rw [tcC, wt, cap_id _ (by omega)]
  | k + 1, h => by
    have h2 := gc_bd (h k (by omega))
    rw [tcC, wt, tcC_wt (k := k) (fun i hi => h i (by omega)), cap_add _ _ h2.1]
set_option maxRecDepth 100000 in
set_option maxHeartbeats 2000000 in
theorem tablesCosts.far (l aL aP : Option Addr) (M T K lcap cL cP : Nat) (w : World) (hB : Bnds w) (h : 160 < M ∨ 8 < T ∨ 20 < K) :
    Calls Tryd.prog 5 #[.slice l M lcap, .agg #[.slice aL T cL, .slice aP K cP]] w fun e w' => e = .returned (.bool true) ∧ Below w.heap.size w w' := by
  have hb := (Below.refl w.heap.size w).alloc (Nat.le_refl _) (.cells #[.slice aL T cL, .slice aP K cP] 35)
  have H3 := Lib.hid (tabThree_any _ (hB.below hb))
  have HB1 := Lib.hid hb
  clear hb hB
  by_cases h0 : 160 < M
  · have h0i : (160 : Int) < (M : Int) := by omega
    clear h
    go_enter Tryd.func5, Tryd.ntmps5
    go_wp2_with fail
    refine H3.out.mono ?_
    rintro e w9 ⟨rfl, hb9⟩
    have HB9 := Lib.hid (HB1.out.trans (hb9.mono HB1.out.size))
    clear hb9
    go_wp2_with fail
    go_ret
    exact ⟨rfl, HB9.out⟩
  · have h0i : ¬ (160 : Int) < (M : Int) := by omega
    by_cases h1 : 8 < T
    · have h1i : (8 : Int) < (T : Int) := by omega
      clear h
      go_enter Tryd.func5, Tryd.ntmps5
      go_wp2_with fail
      refine H3.out.mono ?_
      rintro e w9 ⟨rfl, hb9⟩
      have HB9 := Lib.hid (HB1.out.trans (hb9.mono HB1.out.size))
      clear hb9
      go_wp2_with fail
      go_ret
      exact ⟨rfl, HB9.out⟩
    · have h1i : ¬ (8 : Int) < (T : Int) := by omega
      by_cases h2 : 20 < K
      · have h2i : (20 : Int) < (K : Int) := by omega
        clear h
        go_enter Tryd.func5, Tryd.ntmps5
        go_wp2_with fail
        refine H3.out.mono ?_
        rintro e w9 ⟨rfl, hb9⟩
        have HB9 := Lib.hid (HB1.out.trans (hb9.mono HB1.out.size))
        clear hb9
        go_wp2_with fail
        go_ret
        exact ⟨rfl, HB9.out⟩
      · have h2i : ¬ (20 : Int) < (K : Int) := by omega
        exact absurd h (by omega)
set_option maxRecDepth 100000 in
set_option maxHeartbeats 16000000 in
theorem tablesCosts.good (l aL aP : Option Addr) (len T M lcap cL cP : Nat) (zs ps : List Int) (rows : List (List Int)) (w : World) (hB : Bnds w) (hI : IsInts w (.slice l len lcap) zs) (hlen : zs.length = len) (hc : len ≤ lcap) (hc2 : lcap ≤ 9223372036854775807)
    (hL : IsRR w (.slice aL T cL) rows) (hT : rows.length = T) (hP : IsInts w (.slice aP M cP) ps) (hM : ps.length = M) (h160 : len ≤ 160) (h8 : T ≤ 8) (h20 : M ≤ 20) (hrl : ∀ r ∈ rows, r.length ≤ 9223372036854775807) (hpw : ∀ x ∈ ps, -9223372036854775808 ≤ x ∧ x ≤ 9223372036854775807) :
    Calls Tryd.prog 5 #[.slice l len lcap, .agg #[.slice aL T cL, .slice aP M cP]] w fun e w' => e = .returned (.bool true) ∧ Below w.heap.size w w' := by
  have hb := (Below.refl w.heap.size w).alloc (Nat.le_refl _) (.cells #[.slice aL T cL, .slice aP M cP] 35)
  have H3 := Lib.hid (fun W hW => tabThree_any W hW)
  have hg := heap_alloc_new w (.cells #[.slice aL T cL, .slice aP M cP] 35)
  obtain ⟨H, hH⟩ : ∃ H, w.heap.size = H := ⟨_, rfl⟩
  rw [hH] at hg
  have hg0 := hg
  have hlt : H < (w.alloc (.cells #[.slice aL T cL, .slice aP M cP] 35)).heap.size := (Array.getElem?_eq_some_iff.1 hg).1
  have HX : Hid (∀ W, Below (w.alloc (.cells #[.slice aL T cL, .slice aP M cP] 35)).heap.size (w.alloc (.cells #[.slice aL T cL, .slice aP M cP] 35)) W → W.heap[H]? = some (.cells #[.slice aL T cL, .slice aP M cP] 35 (0, 0)) ∧ IsInts W (.slice l len lcap) zs ∧ IsRR W (.slice aL T cL) rows ∧ IsInts W (.slice aP M cP) ps ∧ Bnds W ∧ Below w.heap.size w W) := Lib.hid (fun W hW =>
    ⟨(hW.block H hlt).trans hg0, (hI.below hb).below hW, (hL.below hb).below hW, (hP.below hb).below hW, (hB.below hb).below hW, hb.trans (hW.mono hb.size)⟩)
  have HLEN := Lib.hid hlen
  have HT := Lib.hid hT
  have HM := Lib.hid hM
  have HRL := Lib.hid hrl
  have HPW := Lib.hid hpw
  have HHH := Lib.hid hH
  have hi := info_ch
  have hu := Tryd.underlying35
  have h1i : ¬ (160 : Int) < (len : Int) := by omega
  have h2i : ¬ (8 : Int) < (T : Int) := by omega
  have h3i : ¬ (20 : Int) < (M : Int) := by omega
  obtain ⟨Q, hQ⟩ : ∃ Q, ng len = Q := ⟨_, rfl⟩
  have HQ : Hid (ng zs.length = Q) := Lib.hid (by rw [hlen, hQ])
  have hQb : Q ≤ 20 := by rw [← hQ]; unfold ng; omega
  clear hb hB hI hL hP hlen hT hM hrl hQ hlt hg0 hpw
  go_enter Tryd.func5, Tryd.ntmps5
  go_wp2_with fail
  try rw [hH]
  clear hH
  generalize w.alloc (.cells #[.slice aL T cL, .slice aP M cP] 35) = w1 at *
  have c0 : w1.cell? ⟨H, 0, none⟩ = some (.slice aL T cL) := by rw [cell_of_row _ _ _ _ _ _ hg]; rfl
  have c1 : w1.cell? ⟨H, 1, none⟩ = some (.slice aP M cP) := by rw [cell_of_row _ _ _ _ _ _ hg]; rfl
  go_loopw [33] (fun vk wr => ∃ k : Nat, vk = .int .i64 (k : Int) ∧ k ≤ T ∧ wr = w1 ∧ ∀ i, i < k → (rw_ rows i).length ≤ 40) (fun vk _ => T - (intOf vk).toNat)
  case atStart => exact ⟨0, rfl, by omega, rfl, fun i hi => by omega⟩
  case round =>
    obtain ⟨k, rfl, hk, rfl, hall⟩ := hrel
    have HALL := Lib.hid hall
    clear hall
    obtain ⟨_, HI1, HL1, HP1, hBN1, hBB1⟩ := HX.out wr (Below.refl _ _)
    have HI1 := Lib.hid HI1
    have HL1 := Lib.hid HL1
    have HP1 := Lib.hid HP1
    have HBN1 := Lib.hid hBN1
    have HB1 := Lib.hid hBB1
    clear hBN1 hBB1
    by_cases hkT : k < T
    · have hki : (k : Int) < (T : Int) := by omega
      obtain ⟨b, off, cap, u, he, d1, hI⟩ := HL1.out.at_ (show k < rows.length by rw [HT.out]; exact hkT)
      rw [HT.out] at he
      simp only [Value.slice.injEq] at he
      obtain ⟨rfl, he2, rfl⟩ := he
      clear he2
      obtain ⟨au, cu, hue, _⟩ := hI
      obtain ⟨n1, hn1⟩ : ∃ n, (rw_ rows k).length = n := ⟨_, rfl⟩
      have HN1 := Lib.hid hn1
      rw [hn1] at hue
      subst hue
      clear hn1
      by_cases h40 : 40 < n1
      · have h40i : (40 : Int) < (n1 : Int) := by omega
        go_wp2_with fail
        refine (H3.out _ HBN1.out).mono ?_
        rintro e w9 ⟨rfl, hb9⟩
        have HB9 := Lib.hid (HB1.out.trans (hb9.mono HB1.out.size))
        clear hb9
        go_wp2_with fail
        go_ret
        exact ⟨rfl, HB9.out⟩
      · have h40i : ¬ (40 : Int) < (n1 : Int) := by omega
        go_wp2_with fail
        go_roundw
        case rel => exact ⟨k + 1, by go_num, by omega, by first | rfl | trivial, fun i hi => by
          by_cases e : i = k
          · rw [e, HN1.out]; omega
          · exact HALL.out i (by omega)⟩
        case measure => simp [intOf]; omega
    · obtain rfl : k = T := by omega
      have hki : ¬ (k : Int) < (k : Int) := by omega
      have HR40 : Hid (∀ p, p < k → (rw_ rows p).length ≤ 40) := Lib.hid HALL.out
      have HCO := Lib.hid (cost12_any l len lcap zs (.slice aL k cL) (.slice aP M cP) rows ps wr HI1.out HLEN.out (by omega) hc hc2 HL1.out HP1.out (by rw [HT.out]; omega) (fun r hr => by
        obtain ⟨i, hi, rfl⟩ := List.getElem_of_mem hr
        have h5 := HALL.out i (by rw [← HT.out]; exact hi)
        unfold rw_ at h5
        rw [List.getD_eq_getElem?_getD, List.getElem?_eq_getElem hi] at h5
        have h6 : (rows[i]).length ≤ 40 := h5
        omega) (by rw [HM.out]; omega))
      clear HALL HI1 HL1 HP1
      go_wp2_with (refine wpList_load_row rfl 35 _ rfl H rfl 35 #[.slice aL k cL, .slice aP M cP] (0, 0) _ hg hu rfl hi ?_)
      refine HCO.out.mono ?_
      rintro e w2 ⟨n, err, rfl, hcp, hB2⟩
      obtain ⟨hg2, hI2, _, _, _, _⟩ := HX.out w2 hB2
      have HCP := Lib.hid hcp
      have HGR := Lib.hid (rGroups_any _ zs w2 hI2 (by rw [HLEN.out]; omega))
      rw [HQ.out] at HGR
      have HB2 := Lib.hid hB2
      have HB1' := Lib.hid HB1.out
      clear hcp hB2 hI2 hg c0 c1 HCO
      go_wp2_with fail
      refine HGR.out.mono ?_
      rintro e w3 ⟨vG, rfl, hG3, hB3⟩
      have HB3 : Hid (Below wr.heap.size wr w3) := Lib.hid (HB2.out.trans (hB3.mono HB2.out.size))
      have HG3 := Lib.hid hG3
      obtain ⟨aG, cG, rfl, _⟩ := hG3
      rw [grps_len] at HG3 ⊢
      obtain ⟨hg3, _, _, _, _, _⟩ := HX.out w3 HB3.out
      have c0 : w3.cell? ⟨H, 0, none⟩ = some (.slice aL k cL) := by rw [cell_of_row _ _ _ _ _ _ hg3]; rfl
      have c1 : w3.cell? ⟨H, 1, none⟩ = some (.slice aP M cP) := by rw [cell_of_row _ _ _ _ _ _ hg3]; rfl
      obtain ⟨b0, hb0⟩ : ∃ b : Bool, ((Q : Int) == (M : Int)) = b := ⟨_, rfl⟩
      have HB0 := Lib.hid hb0
      obtain ⟨wz, rfl⟩ : ∃ wz : World, wz = wr := ⟨_, rfl⟩
      clear hB3 hg2 HGR HB2 hg3
      go_wp2_with fail
      go_loopw [10, 11, 59] (fun vo vw vj wr => ∃ (j : Nat) (ok : Bool) (S : Int), vj = .int .i64 (j : Int) ∧ vo = .bool ok ∧ vw = .int .i64 S ∧ j ≤ M ∧ ((ok = true ∧ Q = M ∧ (∀ i, i < j → PkOk zs rows ps i) ∧ S = wt zs rows ps j) ∨ (ok = false ∧ ¬ CostsOk zs rows ps)) ∧ Below w3.heap.size w3 wr) (fun _ _ vj _ => M - (intOf vj).toNat)
      case atStart =>
        refine ⟨0, b0, 0, rfl, rfl, rfl, by omega, ?_, Below.refl _ _⟩
        cases b0 with
        | true =>
          have h5 := HB0.out
          rw [beq_iff_eq] at h5
          exact Or.inl ⟨rfl, by omega, fun i hi => by omega, rfl⟩
        | false =>
          have h5 := HB0.out
          rw [beq_eq_false_iff_ne] at h5
          exact Or.inr ⟨rfl, fun h => by have h6 := h.1; rw [HM.out, HQ.out] at h6; omega⟩
      case round =>
        clear c0 c1 hb0
        obtain ⟨j, ok, S, rfl, rfl, rfl, hj, hcase, hB⟩ := hrel
        have HB := Lib.hid hB
        have hB5 : Below wz.heap.size wz wr := HB3.out.trans (hB.mono HB3.out.size)
        obtain ⟨hg5, hI5, hL5, hP5, hBN5, hBB5⟩ := HX.out wr hB5
        have c0 : wr.cell? ⟨H, 0, none⟩ = some (.slice aL k cL) := by rw [cell_of_row _ _ _ _ _ _ hg5]; rfl
        have c1 : wr.cell? ⟨H, 1, none⟩ = some (.slice aP M cP) := by rw [cell_of_row _ _ _ _ _ _ hg5]; rfl
        have HL5 := Lib.hid hL5
        have HP5 := Lib.hid hP5
        have HBN5 := Lib.hid hBN5
        have HBB5 := Lib.hid hBB5
        have HGG : Hid (IsRR wr (.slice aG Q cG) (grps zs Q)) := Lib.hid (HG3.out.below hB)
        clear hB hB5 hI5 hL5 hP5 hBN5 hBB5 hg5
        by_cases hjM : j < M
        · have hji : (j : Int) < (M : Int) := by omega
          obtain ⟨b1, o1, k1, he1, d1⟩ := HP5.out.cell (show j < ps.length by rw [HM.out]; exact hjM)
          rw [HM.out] at he1
          simp only [Value.slice.injEq] at he1
          obtain ⟨rfl, he1b, rfl⟩ := he1
          clear he1b
          obtain ⟨x, hx⟩ : ∃ x, ps.getD j 0 = x := ⟨_, rfl⟩
          rw [hx] at d1
          have HXX := Lib.hid hx
          have hxw := HPW.out x (by rw [← hx]; exact FreqM.getD_mem ps j (by rw [HM.out]; exact hjM))
          clear hx
          rcases hcase with ⟨rfl, hQM, hall, hS⟩ | ⟨rfl, hno⟩
          · have HALL := Lib.hid hall
            have hwb := wt_bd hall
            rw [← hS] at hwb
            have HS := Lib.hid hS
            have HQM := Lib.hid hQM
            have hjQ : j < Q := by omega
            clear hall hS hQM
            by_cases hx0 : x < 0
            · have hx0i : ¬ (0 : Int) ≤ x := by omega
              have HNO : Hid (¬ CostsOk zs rows ps) := Lib.hid (fun h => by
                have := (h.2 j (by rw [HM.out]; exact hjM)).1
                rw [HXX.out] at this
                omega)
              go_wp2_with fail
              go_roundw
              case rel => exact ⟨j + 1, false, S, by go_num, rfl, rfl, by omega, Or.inr ⟨rfl, HNO.out⟩, HB.out⟩
              case measure => simp [intOf]; omega
            · have hx0i : (0 : Int) ≤ x := by omega
              by_cases hxT : (k : Int) ≤ x
              · have hxTi : ¬ x < (k : Int) := by omega
                have HNO : Hid (¬ CostsOk zs rows ps) := Lib.hid (fun h => by
                  have := (h.2 j (by rw [HM.out]; exact hjM)).2.1
                  rw [HXX.out, HT.out] at this
                  omega)
                go_wp2_with fail
                go_roundw
                case rel => exact ⟨j + 1, false, S, by go_num, rfl, rfl, by omega, Or.inr ⟨rfl, HNO.out⟩, HB.out⟩
                case measure => simp [intOf]; omega
              · obtain ⟨p, rfl⟩ : ∃ p : Nat, x = (p : Int) := ⟨x.toNat, by omega⟩
                have hpT : p < k := by omega
                have hpTi : (p : Int) < (k : Int) := by omega
                have hjQi : (j : Int) < (Q : Int) := by omega
                obtain ⟨b2, o2, cap2, u, he2, d2, hI2⟩ := HL5.out.at_ (show p < rows.length by rw [HT.out]; exact hpT)
                rw [HT.out] at he2
                simp only [Value.slice.injEq] at he2
                obtain ⟨rfl, he2b, rfl⟩ := he2
                clear he2b
                obtain ⟨b4, o4, cap4, ug, he4, d4, hI4⟩ := HGG.out.at_ (show j < (grps zs Q).length by rw [grps_len]; exact hjQ)
                rw [rw_grpsE zs Q j hjQ] at hI4
                rw [grps_len] at he4
                simp only [Value.slice.injEq] at he4
                obtain ⟨rfl, he4b, rfl⟩ := he4
                clear he4b
                have hr40 := HR40.out p hpT
                have hgl : (grp zs j).length ≤ 50 := by rw [grp_len]; omega
                have HPKI : Hid (CostOk (grp zs j) (rw_ rows p) → PkOk zs rows ps j ∧ gc zs rows ps j = cap (costS (grp zs j) (rw_ rows p))) := Lib.hid (fun h => by
                  unfold PkOk gc
                  rw [HXX.out]
                  exact ⟨⟨by omega, by rw [HT.out]; omega, h⟩, rfl⟩)
                have HPKN : Hid (¬ CostOk (grp zs j) (rw_ rows p) → ¬ CostsOk zs rows ps) := Lib.hid (fun h h2 => by
                  have h3 := (h2.2 j (by rw [HM.out]; exact hjM)).2.2
                  rw [HXX.out] at h3
                  exact h h3)
                obtain ⟨n1, hn1⟩ : ∃ n, (rw_ rows p).length = n := ⟨_, rfl⟩
                have hlt5 : ∀ {a : Addr} {v : Value}, wr.cell? a = some v → a.block < wr.heap.size := fun h => cell_lt h
                have q0 : ∀ sb : Beneath wr.heap.size wr, sb.val.cell? ⟨H, 0, none⟩ = some (.slice (some ⟨b2, o2, none⟩) k cL) := fun sb => Beneath.cell c0 (cell_lt c0) sb
                have q1 : ∀ sb : Beneath wr.heap.size wr, sb.val.cell? ⟨b2, o2 + p, none⟩ = some u := fun sb => Beneath.cell d2 (cell_lt d2) sb
                have q2 : ∀ sb : Beneath wr.heap.size wr, sb.val.cell? ⟨b4, o4 + j, none⟩ = some ug := fun sb => Beneath.cell d4 (cell_lt d4) sb
                have HIB : Hid (∀ sb : Beneath wr.heap.size wr, IsInts sb.val ug (grp zs j) ∧ IsInts sb.val u (rw_ rows p)) := Lib.hid (fun sb => ⟨hI4.below sb.is, hI2.below sb.is⟩)
                have HIC : Hid (∀ W, Below wr.heap.size wr W → W.cell? ⟨H, 0, none⟩ = some (.slice (some ⟨b2, o2, none⟩) k cL) ∧ W.cell? ⟨b2, o2 + p, none⟩ = some u ∧ W.cell? ⟨b4, o4 + j, none⟩ = some ug ∧ IsInts W ug (grp zs j) ∧ IsInts W u (rw_ rows p)) := Lib.hid (fun W hW => ⟨(hW.cell (cell_lt c0)).trans c0, (hW.cell (cell_lt d2)).trans d2, (hW.cell (cell_lt d4)).trans d4, hI4.below hW, hI2.below hW⟩)
                obtain ⟨r1, hr1⟩ : ∃ r : Bool, r = true ↔ Syms (grp zs j) ((rw_ rows p).length : Int) := by
                  by_cases h : Syms (grp zs j) ((rw_ rows p).length : Int)
                  · exact ⟨true, fun _ => h, fun _ => rfl⟩
                  · exact ⟨false, fun e => (by cases e), fun e => absurd e h⟩
                obtain ⟨r2, hr2⟩ : ∃ r : Bool, r = true ↔ Nums (rw_ rows p) := by
                  by_cases h : Nums (rw_ rows p)
                  · exact ⟨true, fun _ => h, fun _ => rfl⟩
                  · exact ⟨false, fun e => (by cases e), fun e => absurd e h⟩
                have HOF : Hid (∀ W, IsInts W ug (grp zs j) → Calls Tryd.prog 18 #[ug, .int .i64 (n1 : Int)] W fun e w' => e = .returned (.bool r1) ∧ W = w') := Lib.hid (fun W hW => by rw [hn1] at hr1; exact rOf_any ug (grp zs j) (n1 : Int) r1 W hW (by omega) hr1)
                have HMA : Hid (∀ W, IsInts W u (rw_ rows p) → Calls Tryd.prog 25 #[u] W fun e w' => e = .returned (.bool r2) ∧ W = w') := Lib.hid (fun W hW => rMay_any u (rw_ rows p) r2 W hW (by omega) hr2)
                have HRS : Hid (CostOk (grp zs j) (rw_ rows p) ↔ r1 = true ∧ r2 = true) := Lib.hid (by rw [hr1, hr2]; exact Iff.rfl)
                have HCS : Hid (CostOk (grp zs j) (rw_ rows p) → ∀ W, IsInts W ug (grp zs j) → IsInts W u (rw_ rows p) → Calls Tryd.prog 26 #[ug, u] W fun e w' => e = .returned (.int .i64 (cap (costS (grp zs j) (rw_ rows p)))) ∧ W = w') := Lib.hid (fun h W h1 h2 => rCost_any ug u (grp zs j) (rw_ rows p) W h1 h2 (by omega) (by omega) h)
                obtain ⟨au, cu, hue, _⟩ := hI2
                obtain ⟨ag, cg, hge, _⟩ := hI4
                rw [hn1] at hue
                obtain ⟨n2, hn2⟩ : ∃ n, (grp zs j).length = n := ⟨_, rfl⟩
                rw [hn2] at hge
                subst hue hge
                clear hr1 hr2 hn1 hn2 d2 d4 hlt5 hgl hr40
                go_upto_region 18 with fail
                clear c0 c1
                refine wp_region_beneath wr.heap.size wr (Below.refl _ _) (by kernel_rfl) (by kernel_rfl) ?_
                cases r1 with
                | false =>
                  repeat (go_big_quiet_step (first
                    | (go_at_call 18; rename_i sb; exact Calls.beneath_same sb (HOF.out _ (HIB.out sb).1))))
                  refine wpQuiet_nil ?_
                  rintro _ ⟨sb, rfl⟩
                  have HB6 := Lib.hid (HB.out.trans (sb.is.mono HB.out.size))
                  have HNO := Lib.hid (HPKN.out (fun h => by have := (HRS.out.1 h).1; cases this))
                  clear q0 q1 q2 HIB HIC
                  generalize sb.val = W6 at *
                  go_wp2_with fail
                  go_roundw
                  case rel => exact ⟨j + 1, false, S, by go_num, rfl, rfl, by omega, Or.inr ⟨rfl, HNO.out⟩, HB6.out⟩
                  case measure => simp [intOf]; omega
                | true =>
                  repeat (go_big_quiet_step (first
                    | (go_at_call 18; rename_i sb; exact Calls.beneath_same sb (HOF.out _ (HIB.out sb).1))
                    | (go_at_call 25; rename_i sb; exact Calls.beneath_same sb (HMA.out _ (HIB.out sb).2))))
                  refine wpQuiet_nil ?_
                  rintro _ ⟨sb, rfl⟩
                  have HB6 := Lib.hid (HB.out.trans (sb.is.mono HB.out.size))
                  have HC6 := Lib.hid (HIC.out sb.val sb.is)
                  have HIC7 : Hid (∀ W, Below sb.val.heap.size sb.val W → W.cell? ⟨H, 0, none⟩ = some (.slice (some ⟨b2, o2, none⟩) k cL) ∧ W.cell? ⟨b2, o2 + p, none⟩ = some (.slice au n1 cu) ∧ W.cell? ⟨b4, o4 + j, none⟩ = some (.slice ag n2 cg) ∧ IsInts W (.slice ag n2 cg) (grp zs j) ∧ IsInts W (.slice au n1 cu) (rw_ rows p)) := Lib.hid (fun W hW => HIC.out W (sb.is.trans (hW.mono sb.is.size)))
                  clear q0 q1 q2 HIB HIC
                  generalize sb.val = W6 at *
                  cases r2 with
                  | false =>
                    have HNO := Lib.hid (HPKN.out (fun h => by have := (HRS.out.1 h).2; cases this))
                    go_wp2_with fail
                    go_roundw
                    case rel => exact ⟨j + 1, false, S, by go_num, rfl, rfl, by omega, Or.inr ⟨rfl, HNO.out⟩, HB6.out⟩
                    case measure => simp [intOf]; omega
                  | true =>
                    have hok := HRS.out.2 ⟨rfl, rfl⟩
                    obtain ⟨hpk, hgc⟩ := HPKI.out hok
                    have hgb := gc_bd hpk
                    have HCC := Lib.hid (HCS.out hok)
                    have HWT : Hid (wt zs rows ps (j + 1) = S + gc zs rows ps j) := Lib.hid (by rw [wt, HS.out])
                    have HAL2 : Hid (∀ i, i < j + 1 → PkOk zs rows ps i) := Lib.hid (fun i hi => by
                      by_cases e : i = j
                      · rw [e]; exact hpk
                      · exact HALL.out i (by omega))
                    rw [← hgc] at HCC
                    obtain ⟨G, hG⟩ : ∃ G, gc zs rows ps j = G := ⟨_, rfl⟩
                    rw [hG] at HCC HWT hgb
                    have hSG : IntKind.i64.wrap (S + G) = S + G := IntWalk.i64_in _ (by omega)
                    have q0 : ∀ sb : Beneath W6.heap.size W6, sb.val.cell? ⟨H, 0, none⟩ = some (.slice (some ⟨b2, o2, none⟩) k cL) := fun sb => (HIC7.out sb.val sb.is).1
                    have q1 : ∀ sb : Beneath W6.heap.size W6, sb.val.cell? ⟨b2, o2 + p, none⟩ = some (.slice au n1 cu) := fun sb => (HIC7.out sb.val sb.is).2.1
                    have q2 : ∀ sb : Beneath W6.heap.size W6, sb.val.cell? ⟨b4, o4 + j, none⟩ = some (.slice ag n2 cg) := fun sb => (HIC7.out sb.val sb.is).2.2.1
                    have HIB : Hid (∀ sb : Beneath W6.heap.size W6, IsInts sb.val (.slice ag n2 cg) (grp zs j) ∧ IsInts sb.val (.slice au n1 cu) (rw_ rows p)) := Lib.hid (fun sb => (HIC7.out sb.val sb.is).2.2.2)
                    clear hok hpk hgc hG HPKI HPKN HRS HCS
                    go_upto_region 20 with fail
                    refine wp_region_beneath W6.heap.size W6 (Below.refl _ _) (by kernel_rfl) (by kernel_rfl) ?_
                    repeat (go_big_quiet_step (first
                      | (go_at_call 26; rename_i sb; exact Calls.beneath_same sb (HCC.out _ (HIB.out sb).1 (HIB.out sb).2))))
                    refine wpQuiet_nil ?_
                    rintro _ ⟨sb, rfl⟩
                    have HB7 := Lib.hid (HB6.out.trans (sb.is.mono HB6.out.size))
                    clear q0 q1 q2 HIB HIC7 HC6
                    generalize sb.val = W7 at *
                    go_wp2_with fail
                    go_roundw
                    case rel => exact ⟨j + 1, true, S + G, by go_num, rfl, rfl, by omega, Or.inl ⟨rfl, HQM.out, HAL2.out, HWT.out.symm⟩, HB7.out⟩
                    case measure => simp [intOf]; omega
          · have HNO := Lib.hid hno
            clear hno
            go_wp2_with fail
            go_roundw
            case rel => exact ⟨j + 1, false, S, by go_num, rfl, rfl, by omega, Or.inr ⟨rfl, HNO.out⟩, HB.out⟩
            case measure => simp [intOf]; omega
        · obtain rfl : j = M := by omega
          have hji : ¬ (j : Int) < (j : Int) := by omega
          clear c0 c1 HGG
          rcases hcase with ⟨rfl, hQM, hall, hS⟩ | ⟨rfl, hno⟩
          · have hok : CostsOk zs rows ps := ⟨by rw [HM.out, HQ.out]; omega, fun i hi => hall i (by rw [HM.out] at hi; exact hi)⟩
            rcases HCP.out with ⟨_, hn, rfl⟩ | ⟨h5, _⟩
            · rw [HM.out, tcC_wt hall, ← hS] at hn
              clear hok hS hall hQM HCP
              by_cases hbig : 1099511627776 < S
              · rw [cap_hi _ hbig] at hn
                subst hn
                go_wp2_with fail
                refine (H3.out _ HBN5.out).mono ?_
                rintro e w9 ⟨rfl, hb9⟩
                have HB9 := Lib.hid (HBB5.out.trans (hb9.mono HBB5.out.size))
                clear hb9
                go_wp2_with fail
                go_ret
                exact ⟨rfl, HB9.out⟩
              · rw [cap_id _ (by omega)] at hn
                subst hn
                have z1 : (n == n) = true := by simp
                go_wp2_with fail
                refine (H3.out _ HBN5.out).mono ?_
                rintro e w9 ⟨rfl, hb9⟩
                have HB9 := Lib.hid (HBB5.out.trans (hb9.mono HBB5.out.size))
                clear hb9
                go_wp2_with fail
                go_ret
                exact ⟨rfl, HB9.out⟩
            · exact absurd hok h5
          · rcases HCP.out with ⟨h5, _⟩ | ⟨_, rfl, rfl⟩
            · exact absurd h5 hno
            · clear hno HCP
              go_wp2_with fail
              refine (H3.out _ HBN5.out).mono ?_
              rintro e w9 ⟨rfl, hb9⟩
              have HB9 := Lib.hid (HBB5.out.trans (hb9.mono HBB5.out.size))
              clear hb9
              go_wp2_with fail
              go_ret
              exact ⟨rfl, HB9.out⟩
theorem tablesCosts.walk (l : Option Addr) (llen lcap : Nat) (lz : List Int) (vL vP : Value) (gs : List (List Int)) (ps : List Int) (w : World) (hB : Bnds w) (hl : IsRow .i64 w l llen lcap lz) (ha : Opn.ChIn w vL vP gs ps) :
    Calls Tryd.prog 5 #[.slice l llen lcap, .agg #[vL, vP]] w fun e w' => e = .returned (.bool true) ∧ Below w.heap.size w w' := by
  obtain ⟨hI, hlen⟩ := ints_in hl
  obtain ⟨hl1, hl2⟩ := isRow_len hl
  generalize List.take llen lz = zs at *
  have hm : maxLen = 9223372036854775807 := by decide
  unfold Opn.ChIn at ha
  rw [hm] at ha
  obtain ⟨a1, a2, a3, a4, a5, a6⟩ := ha
  obtain ⟨aL, cL, rfl, a1'⟩ := id a1
  obtain ⟨aP, cP, rfl, a2'⟩ := id a2
  by_cases h : 160 < llen ∨ 8 < gs.length ∨ 20 < ps.length
  · exact tablesCosts.far l aL aP _ _ _ _ _ _ w hB h
  · exact tablesCosts.good l aL aP _ _ _ _ _ _ zs ps gs w hB hI hlen hl1 hl2 a1 rfl a2 rfl (by omega) (by omega) (by omega) (fun r hr => (a4 r hr).1) (fun x hx => wf_i64 (a6 x hx))
end Go.Proofs.YtmlcdfimcabgkaaDoor
