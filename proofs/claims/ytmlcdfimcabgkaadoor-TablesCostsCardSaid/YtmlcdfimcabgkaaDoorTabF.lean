/-
  THE WALKS OF LAYER 12's CODE (package tables): Of.
-/
import Derived.Test.YtmlcdfimcabgkaaDoorTabE
namespace Go.Proofs.YtmlcdfimcabgkaaDoor
open Go.RowKit TabM FreqM HufM
set_option linter.unusedVariables false
theorem results_cs {P : Program} {fn : Func} {p q : Tmp} {ty : TypeId} (h : fn.results = #[.cell p ty, .tmp q]) (tmps : Array Value) (w : World) (a : Addr) (cs : Array Value) (e : Value)
    (hp : tmps.getD p undef = .pointer (some a)) (hq : tmps.getD q undef = e) (hl : (loadVar ty a).run P w = .ok (.agg cs) w) :
    (results fn tmps).run P w = .ok (.tuple #[.agg cs, e]) w := by
  have hp' : tmps[p]?.getD undef = .pointer (some a) := by simpa using hp
  have hq' : tmps[q]?.getD undef = e := by simpa using hq
  simp [results, h, hp', hq', asAddr, hl]
theorem load_ch (w : World) (b : Nat) (x y : Value) (h : w.heap[b]? = some (.cells #[x, y] 35 (0, 0))) : (loadVar 35 ⟨b, 0, none⟩).run Tryd.prog w = .ok (.agg #[x, y]) w :=
  run_loadVar_row (P := Tryd.prog) w b 35 35 #[x, y] (0, 0) _ h Tryd.underlying35 rfl info_ch
theorem choice0 (w : World) : (w.alloc (.cells #[.slice none 0 0, .slice none 0 0] 35)).heap[w.heap.size]? = some (.cells #[.slice none 0 0, .slice none 0 0] 35 (0, 0)) := heap_alloc_new _ _
set_option maxRecDepth 100000 in
set_option maxHeartbeats 2000000 in
theorem of12_bad (v : Value) (zs : List Int) (n : Int) (w : World) (hI : IsInts w v zs) (hz : zs.length ≤ 1000000) (hbad : zs = [] ∨ ¬ CntOk zs n) :
    Calls Tryd.prog 16 #[v, .int .i64 n] w fun e w' => e = .returned (.tuple #[.agg #[.slice none 0 0, .slice none 0 0], .int .i64 1]) ∧ Below w.heap.size w w' := by
  have h0 := choice0 w
  have hB1 := (Below.refl w.heap.size w).alloc (Nat.le_refl _) (.cells #[.slice none 0 0, .slice none 0 0] 35)
  have HCN := Lib.hid (counts_any v zs n _ (hI.below hB1) hz)
  have HB1 := Lib.hid hB1
  have hi := info_ch
  have hu := Tryd.underlying35
  have hs1 : (w.alloc (.cells #[.slice none 0 0, .slice none 0 0] 35)).heap.size = w.heap.size + 1 := by simp
  have HS1 := Lib.hid hs1
  obtain ⟨a, cap, rfl, _⟩ := hI
  obtain ⟨L, hL⟩ : ∃ L, zs.length = L := ⟨_, rfl⟩
  have HL := Lib.hid hL
  rw [hL] at HCN ⊢
  clear hB1 hs1 hL
  go_enter Tryd.func16, Tryd.ntmps16
  go_wp2_with fail
  generalize hw1 : w.alloc (.cells #[.slice none 0 0, .slice none 0 0] 35) = w1 at *
  clear hw1
  refine HCN.out.mono ?_
  rintro e w2 ⟨u, ys, err, rfl, hI2, hB2, hP2⟩
  have hg2 : w2.heap[w.heap.size]? = some (.cells #[.slice none 0 0, .slice none 0 0] 35 (0, 0)) := (hB2.block _ (by rw [HS1.out]; omega)).trans h0
  have HB2 : Hid (Below w.heap.size w w2) := Lib.hid (HB1.out.trans (hB2.mono HB1.out.size))
  rcases hP2 with ⟨_, _, rfl⟩ | ⟨hok, _, rfl⟩
  · clear hI2 hB2 h0 HCN
    go_wp2_with (first | (refine wpList_store_row rfl 35 _ _ rfl w.heap.size #[.slice none 0 0, .slice none 0 0] rfl rfl 35 _ hg2 hi rfl (ch_all _ _ _ _ _ _) ?_))
    exact bodyPost_ret (v := .tuple #[.agg #[.slice none 0 0, .slice none 0 0], .int .i64 1]) (results_cs rfl _ _ ⟨w.heap.size, 0, none⟩ _ _ rfl rfl (load_ch _ _ _ _ (setRow_heap _ _ _ _ _ _ hg2))) rfl ⟨rfl, below_setRow HB2.out (Nat.le_refl _) _⟩
  · have hnil : zs = [] := hbad.resolve_right (fun h => h hok)
    have hL0 : L = 0 := by rw [← HL.out, hnil]; rfl
    subst hL0
    clear hI2 hB2 h0 HCN hnil hbad
    go_wp2_with (first | (refine wpList_store_row rfl 35 _ _ rfl w.heap.size #[.slice none 0 0, .slice none 0 0] rfl rfl 35 _ hg2 hi rfl (ch_all _ _ _ _ _ _) ?_))
    exact bodyPost_ret (v := .tuple #[.agg #[.slice none 0 0, .slice none 0 0], .int .i64 1]) (results_cs rfl _ _ ⟨w.heap.size, 0, none⟩ _ _ rfl rfl (load_ch _ _ _ _ (setRow_heap _ _ _ _ _ _ hg2))) rfl ⟨rfl, below_setRow HB2.out (Nat.le_refl _) _⟩
/-- What Of has behind i rounds. -/
def OfI (H C : Nat) (w wr : World) (zs : List Int) (N i : Nat) (vL vP : Value) : Prop :=
  wr.heap[H]? = some (.cells #[.slice none 0 0, .slice none 0 0] 35 (0, 0)) ∧ wr.heap[C]? = some (.cells #[vL, vP] 35 (0, 0)) ∧ IsRR wr vL (rnd zs N i) ∧ Below H w wr ∧
  (1 ≤ i → ∀ W : World, (∀ k, C < k → k < wr.heap.size → W.heap[k]? = wr.heap[k]?) → wr.heap.size ≤ W.heap.size → IsRR W vL (rnd zs N i) ∧ IsInts W vP (picksM zs (rnd zs N (i - 1)) (ng zs.length)))
set_option maxRecDepth 100000 in
set_option maxHeartbeats 8000000 in
theorem of12_any (a : Option Addr) (len c : Nat) (zs : List Int) (N : Nat) (w : World) (hI : IsInts w (.slice a len c) zs) (hlen : zs.length = len) (hz : len ≤ 1000) (hc : len ≤ c) (hc2 : c ≤ 9223372036854775807) (hB : Bnds w)
    (hsy : Syms zs (N : Int)) (h1 : 1 ≤ len) (h3 : 3 ≤ N) (h258 : N ≤ 258) :
    Calls Tryd.prog 16 #[.slice a len c, .int .i64 (N : Int)] w fun e w' => ∃ (vL vP : Value), e = .returned (.tuple #[.agg #[vL, vP], .int .i64 0]) ∧ IsRR w' vL (rnd zs N 4) ∧ IsInts w' vP (picksM zs (rnd zs N 3) (ng zs.length)) ∧ Below w.heap.size w w' := by
  have h0 := choice0 w
  have hB1 := (Below.refl w.heap.size w).alloc (Nat.le_refl _) (.cells #[.slice none 0 0, .slice none 0 0] 35)
  have hI1 := hI.below hB1
  have HCN := Lib.hid (counts_any _ zs (N : Int) _ hI1 (by omega))
  have HI1 := Lib.hid hI1
  have HBN1 := Lib.hid (hB.below hB1)
  have HB1 := Lib.hid hB1
  have HSY := Lib.hid hsy
  have hi := info_ch
  have hu := Tryd.underlying35
  have HLEN := Lib.hid hlen
  have HOKC : Hid (CntOk zs (N : Int)) := Lib.hid ⟨by omega, by omega, hsy⟩
  have HCC : Hid (Nums (counts zs N) ∧ (counts zs N).length = N) := Lib.hid ⟨fun x hx => by have := counts_nn zs N x hx; omega, counts_len zs N⟩
  have HGR := Lib.hid (fun W => groups_any (len : Int) W (by omega) (by omega))
  rw [gn_nat] at HGR
  have hng : ng len ≤ 20 := by unfold ng; omega
  have HRO : Hid (∀ i, TabOk N (rnd zs N i)) := Lib.hid (fun i => rnd_ok h3 h258 (by omega) i)
  obtain ⟨Q, hQ⟩ : ∃ Q, ng len = Q := ⟨_, rfl⟩
  rw [hQ] at HGR hng
  have hs1 : (w.alloc (.cells #[.slice none 0 0, .slice none 0 0] 35)).heap.size = w.heap.size + 1 := by simp
  have HS1 := Lib.hid hs1
  have HI0 := Lib.hid hI
  clear hB1 hI1 hs1 hlen hsy hQ hB hI
  go_enter Tryd.func16, Tryd.ntmps16
  go_wp2_with fail
  generalize hw1 : w.alloc (.cells #[.slice none 0 0, .slice none 0 0] 35) = w1 at *
  clear hw1
  refine HCN.out.mono ?_
  rintro e w2 ⟨u, ys, err, rfl, hI2, hB2, hP2⟩
  rcases hP2 with ⟨hno, _⟩ | ⟨_, rfl, rfl⟩
  · exact absurd HOKC.out hno
  rw [Int.toNat_natCast] at hI2
  have hg2 : w2.heap[w.heap.size]? = some (.cells #[.slice none 0 0, .slice none 0 0] 35 (0, 0)) := (hB2.block _ (by rw [HS1.out]; omega)).trans h0
  have HG2 := Lib.hid hg2
  have HB2 : Hid (Below w.heap.size w w2) := Lib.hid (HB1.out.trans (hB2.mono HB1.out.size))
  have HI2 := Lib.hid (HI1.out.below hB2)
  have HBN2 := Lib.hid (HBN1.out.below hB2)
  have HC2 := Lib.hid hI2
  have hlni : ¬ (len : Int) = 0 := by omega
  have hlnb : ((len : Int) == 0) = false := by rw [beq_eq_false_iff_ne]; exact hlni
  clear hI2 hB2 h0 HCN hg2 HI1 HB1 HBN1
  go_wp2_with fail
  refine (HGR.out _).mono ?_
  rintro e w3 ⟨rfl, rfl⟩
  have hQi : ¬ (32767 : Int) < (Q : Int) := by omega
  have HF := Lib.hid (first12_any u (counts zs N) (len : Int) w2 HC2.out HBN2.out HCC.out.1 (by rw [HCC.out.2]; exact h3) (by rw [HCC.out.2]; exact h258) (by omega) (by omega))
  go_wp2_with fail
  refine HF.out.mono ?_
  rintro e w4 ⟨vL0, rfl, hR4, hB4⟩
  have hR4' := hR4
  obtain ⟨aL, cL, rfl, _⟩ := hR4'
  have hR5 : IsRR w4 (.slice aL (firstM (counts zs N) (len : Int)).length cL) (rnd zs N 0) := by
    unfold rnd
    rw [HLEN.out]
    exact hR4
  obtain ⟨T, hT⟩ : ∃ T, (firstM (counts zs N) (len : Int)).length = T := ⟨_, rfl⟩
  rw [hT] at hR5 ⊢
  obtain ⟨C, hC⟩ : ∃ C, w4.heap.size = C := ⟨_, rfl⟩
  obtain ⟨H, hH⟩ : ∃ H, w.heap.size = H := ⟨_, rfl⟩
  have hHC : H < C := by
    have h5 := (Array.getElem?_eq_some_iff.1 HG2.out).1
    have h6 := hB4.size
    omega
  have hB24 := hB4
  have HS : Hid (OfI H C w (w4.alloc (.cells #[.slice aL T cL, .slice none 0 0] 35)) zs N 0 (.slice aL T cL) (.slice none 0 0)) := Lib.hid (by
    have h5 := (Array.getElem?_eq_some_iff.1 HG2.out).1
    refine ⟨?_, ?_, hR5.below ((Below.refl _ _).alloc (Nat.le_refl _) _), ?_, fun h => by omega⟩
    · rw [← hH]
      exact (alloc_old (by omega)).trans ((hB24.block _ h5).trans HG2.out)
    · rw [← hC]
      exact heap_alloc_new w4 _
    · rw [← hH]
      exact (HB2.out.trans (hB24.mono HB2.out.size)).alloc (by have := HB2.out.size; have := hB24.size; omega) _)
  have HHH := Lib.hid hH
  have HCX := Lib.hid hC
  clear hR4 hR5 hB4 hB24 hT hC hH HG2 HB2 HI2 HBN2 HC2 HF
  go_wp2_with fail
  rw [HCX.out]
  generalize w4.alloc (.cells #[.slice aL T cL, .slice none 0 0] 35) = w5 at *
  try rw [HHH.out]
  go_loopw [33] (fun vi wr => ∃ (i : Nat) (vL vP : Value), vi = .int .i64 (i : Int) ∧ i ≤ 4 ∧ OfI H C w wr zs N i vL vP) (fun vi _ => 4 - (intOf vi).toNat)
  case atStart => exact ⟨0, _, _, rfl, by omega, HS.out⟩
  case round =>
    clear HS
    obtain ⟨i, vL, vP, rfl, hi4, hO⟩ := hrel
    have HO := Lib.hid hO
    obtain ⟨k1, k2, k3, k4, k5⟩ := hO
    have hCl := (Array.getElem?_eq_some_iff.1 k2).1
    have r0 : wr.cell? ⟨C, 0, none⟩ = some vL := by rw [cell_of_row _ _ _ _ _ _ k2]; rfl
    by_cases hlt : i < 4
    · have hii : (i : Int) < 4 := by omega
      have HR := Lib.hid (round12_any a len c zs N vL (rnd zs N i) wr (HI0.out.below (by rw [HHH.out]; exact k4)) HLEN.out hz hc hc2 k3 HSY.out (HRO.out i) h3 h258)
      obtain ⟨aL2, cL2, rfl, _⟩ := k3
      clear k1 k2 k4 k5
      go_wp2_with fail
      refine HR.out.mono ?_
      rintro e w6 ⟨vL6, vP6, rfl, hK6, hB6⟩
      obtain ⟨hR6, hP6⟩ := hK6.now
      obtain ⟨aL6, cL6, rfl, _⟩ := hR6
      obtain ⟨aP6, cP6, rfl, _⟩ := hP6
      obtain ⟨k1, k2, k3, k4, k5⟩ := HO.out
      have hg6 := (hB6.block C hCl).trans k2
      have hr6 := (hB6.block H (by omega)).trans k1
      obtain ⟨M1, hM1⟩ : ∃ M, (roundM zs N (rnd zs N i)).length = M := ⟨_, rfl⟩
      obtain ⟨M2, hM2⟩ : ∃ M, (picksM zs (rnd zs N i) (ng zs.length)).length = M := ⟨_, rfl⟩
      rw [hM1, hM2] at hK6 ⊢
      have HNX : Hid (OfI H C w (w6.setRow C #[.slice aL6 M1 cL6, .slice aP6 M2 cP6]) zs N (i + 1) (.slice aL6 M1 cL6) (.slice aP6 M2 cP6)) := Lib.hid (by
        have hke : ∀ W : World, (∀ k, C < k → k < (w6.setRow C #[.slice aL6 M1 cL6, .slice aP6 M2 cP6]).heap.size → W.heap[k]? = (w6.setRow C #[.slice aL6 M1 cL6, .slice aP6 M2 cP6]).heap[k]?) → (w6.setRow C #[.slice aL6 M1 cL6, .slice aP6 M2 cP6]).heap.size ≤ W.heap.size → IsRR W (.slice aL6 M1 cL6) (rnd zs N (i + 1)) ∧ IsInts W (.slice aP6 M2 cP6) (picksM zs (rnd zs N i) (ng zs.length)) := fun W hW hs => by
          rw [setRow_size] at hW hs
          exact hK6 W (fun k hk hk2 => (hW k (by omega) hk2).trans (setRow_other w6 C k _ (by omega))) hs
        exact ⟨(setRow_other w6 C H _ (by omega)).trans hr6, setRow_heap w6 C _ _ _ (0, 0) hg6, (hke _ (fun _ _ _ => rfl) (Nat.le_refl _)).1, below_setRow (k4.trans (hB6.mono (by omega))) (by omega) _, fun _ => hke⟩)
      clear k1 k2 k3 k4 k5 hK6 hB6 hr6 hM1 hM2 HR
      go_wp2_with (refine wpList_store_row rfl 35 _ _ rfl C #[.slice aL6 M1 cL6, .slice aP6 M2 cP6] rfl rfl 35 _ hg6 hi rfl (ch_all _ _ _ _ _ _) ?_)
      go_roundw
      case rel => exact ⟨i + 1, _, _, by go_num, by omega, HNX.out⟩
      case measure => simp [intOf]; omega
    · obtain rfl : i = 4 := by omega
      obtain ⟨hR4, hP4⟩ := k5 (by omega) wr (fun _ _ _ => rfl) (Nat.le_refl _)
      obtain ⟨aL6, cL6, rfl, _⟩ := hR4
      obtain ⟨aP6, cP6, rfl, _⟩ := hP4
      obtain ⟨M1, hM1⟩ : ∃ M, (rnd zs N 4).length = M := ⟨_, rfl⟩
      obtain ⟨M2, hM2⟩ : ∃ M, (picksM zs (rnd zs N (4 - 1)) (ng zs.length)).length = M := ⟨_, rfl⟩
      rw [hM1, hM2] at k2 k5
      rw [hM1] at r0 k3
      have HF : Hid (IsRR (wr.setRow H #[.slice aL6 M1 cL6, .slice aP6 M2 cP6]) (.slice aL6 M1 cL6) (rnd zs N 4) ∧ IsInts (wr.setRow H #[.slice aL6 M1 cL6, .slice aP6 M2 cP6]) (.slice aP6 M2 cP6) (picksM zs (rnd zs N 3) (ng zs.length))) := Lib.hid (k5 (by omega) _ (fun k hk _ => setRow_other wr H k _ (by omega)) (by rw [setRow_size]; exact Nat.le_refl _))
      have HBB : Hid (Below H w (wr.setRow H #[.slice aL6 M1 cL6, .slice aP6 M2 cP6])) := Lib.hid (below_setRow k4 (Nat.le_refl _) _)
      clear k3 k4 k5 hM1 hM2 HO
      go_wp2_with (first | (refine wpList_load_row rfl 35 _ rfl C rfl 35 #[.slice aL6 M1 cL6, .slice aP6 M2 cP6] (0, 0) _ k2 hu rfl hi ?_) | (refine wpList_store_row rfl 35 _ _ rfl H #[.slice aL6 M1 cL6, .slice aP6 M2 cP6] rfl rfl 35 _ k1 hi rfl (ch_all _ _ _ _ _ _) ?_))
      exact bodyPost_ret (v := .tuple #[.agg #[.slice aL6 M1 cL6, .slice aP6 M2 cP6], .int .i64 0]) (results_cs rfl _ _ ⟨H, 0, none⟩ _ _ rfl rfl (load_ch _ _ _ _ (setRow_heap _ _ _ _ _ _ k1))) rfl ⟨_, _, rfl, HF.out.1, HF.out.2, by rw [HHH.out]; exact HBB.out⟩
end Go.Proofs.YtmlcdfimcabgkaaDoor
