/-
  MERGED by seg.py out of: TabWhole CodMathD DelB CodI PkC CodB CodD CodJ CodC CodE CodNil CodF CodG BitsPack.
-/
import Derived.Test.YtojphcoghbiepaaGreatDoorCoSegF
import Derived.Deep.Cut
import Derived.Deep.RegionHeld3
namespace Go.Proofs.YtojphcoghbiepaaGreatDoor
open Go.RowKit TabM FreqM HufM
set_option linter.unusedVariables false
theorem rnd_whole {zs : List Int} {N : Nat} (h3 : 3 ≤ N) (h258 : N ≤ 258) (hz : zs.length ≤ 2000000) (i : Nat) {p : Nat} (hp : p < (rnd zs N (i + 1)).length) : (rw_ (rnd zs N (i + 1)) p).length = N ∧ WholeP (rw_ (rnd zs N (i + 1)) p) := by
  have e : rw_ (rnd zs N (i + 1)) p = lensF (counts (took zs (rnd zs N i) p (ng zs.length)) N) := by
    unfold rw_
    rw [List.getD_eq_getElem?_getD, List.getElem?_eq_getElem hp]
    simp only [rnd, roundM, List.getElem_map, List.getElem_range, Option.getD_some]
  rw [e]
  have h1 := lensF_whole (cnt_ok (zs := took zs (rnd zs N i) p (ng zs.length)) h3 h258 (by have := took_len2 zs (rnd zs N i) p (ng zs.length); omega))
  rw [counts_len] at h1
  exact ⟨h1.1, h1.2.1, h1.2.2⟩
end Go.Proofs.YtojphcoghbiepaaGreatDoor
namespace Go.Proofs.YtojphcoghbiepaaGreatDoor
open Go.RowKit BitM HufM CanM CodM TabM FreqM
set_option linter.unusedVariables false
/-- The picks of a row. -/
noncomputable def pks (zs : List Int) (N : Nat) : List Nat := (List.range (ng zs.length)).map fun i => pickM (grp zs i) (rnd zs N 3)
theorem pks_len (zs : List Int) (N : Nat) : (pks zs N).length = ng zs.length := by simp [pks]
theorem pks_toI (zs : List Int) (N : Nat) : picksM zs (rnd zs N 3) (ng zs.length) = PkM.toI (pks zs N) := by
  unfold picksM PkM.toI pks
  rw [List.map_map]
  rfl
theorem pks_lt {zs : List Int} {N : Nat} : ∀ x ∈ pks zs N, x < (rnd zs N 4).length := by
  intro x hx
  unfold pks at hx
  obtain ⟨i, _, rfl⟩ := List.mem_map.1 hx
  have h1 := nTab_bd (zs.length : Int)
  have h2 := pickM_lt (grp zs i) (rows := rnd zs N 3) (by rw [rnd_len]; omega)
  rw [rnd_len] at h2 ⊢
  exact h2
theorem May14.pk {zs : List Int} {N : Nat} (h : May14 zs (N : Int)) (hz : zs.length ≤ 1000) : PkM.May (pks zs N) (rnd zs N 4).length := by
  have h1 := nTab_bd (zs.length : Int)
  have h2 := h.2.2.1
  refine ⟨by rw [rnd_len]; omega, by rw [rnd_len]; omega, ?_, ?_, pks_lt⟩
  · rw [pks_len]; unfold ng; omega
  · rw [pks_len]; unfold ng; omega
theorem May14.whs {zs : List Int} {N : Nat} (h : May14 zs (N : Int)) (hz : zs.length ≤ 1000) : Whs N (rnd zs N 4) := by
  intro g hg
  obtain ⟨p, hp, rfl⟩ := List.getElem_of_mem hg
  have := rnd_whole (zs := zs) (N := N) (by have := h.1; omega) (by have := h.2.1; omega) (by omega) 3 hp
  unfold rw_ at this
  rw [List.getD_eq_getElem?_getD, List.getElem?_eq_getElem hp] at this
  exact this
theorem pks_at {zs : List Int} {N k : Nat} (hk : k < ng zs.length) : (pks zs N).getD k 0 < (rnd zs N 4).length := by
  refine pks_lt _ ?_
  rw [List.getD_eq_getElem?_getD, List.getElem?_eq_getElem (by rw [pks_len]; exact hk)]
  exact List.getElem_mem _
theorem May14.tbs {zs : List Int} {N : Nat} (h : May14 zs (N : Int)) (hz : zs.length ≤ 1000) : Tbs N (rnd zs N 4) (pks zs N) zs.length := by
  intro n hn
  have h1 : n / 50 < ng zs.length := by unfold ng; omega
  refine ⟨by rw [pks_len]; exact h1, ?_⟩
  have h2 := pks_at (N := N) h1
  unfold CodM.tb
  rw [List.getD_eq_getElem?_getD (l := rnd zs N 4), List.getElem?_eq_getElem h2]
  exact h.whs hz _ (List.getElem_mem h2)
theorem May14.endp {zs : List Int} {N : Nat} (h : May14 zs (N : Int)) : EndP N zs := ⟨h.2.2.2.1, h.2.2.2.2⟩
theorem May14.costs {zs : List Int} {N : Nat} (h : May14 zs (N : Int)) (hz : zs.length ≤ 1000) : CostsOk zs (rnd zs N 4) (PkM.toI (pks zs N)) := by
  have h3 : 3 ≤ N := by have := h.1; omega
  have h258 : N ≤ 258 := by have := h.2.1; omega
  refine ⟨by rw [PkM.toI_length, pks_len], fun i hi => ?_⟩
  rw [PkM.toI_length, pks_len] at hi
  have h2 := pks_at (N := N) hi
  obtain ⟨k1, k2⟩ : (rw_ (rnd zs N 4) ((pks zs N).getD _ 0)).length = N ∧ WholeP (rw_ (rnd zs N 4) ((pks zs N).getD _ 0)) := rnd_whole (zs := zs) (N := N) h3 h258 (by omega) 3 h2
  unfold PkOk
  rw [PkM.toI_getD, Int.toNat_natCast]
  refine ⟨by omega, by omega, ?_, fun x hx => ?_⟩
  · rw [k1]
    exact grp_syms h.2.2.2.1 i
  · have := k2.1 x hx
    omega
theorem May14.total {zs : List Int} {N : Nat} (h : May14 zs (N : Int)) (hz : zs.length ≤ 1000) : ∀ k, k ≤ ng zs.length → tcC zs (rnd zs N 4) (PkM.toI (pks zs N)) k = ((symT (rnd zs N 4) (pks zs N) 0 (zs.take (50 * k))).length : Int)
  | 0, _ => by
    rw [tcC, Nat.mul_zero, List.take_zero]
    rfl
  | k + 1, hk => by
    have h3 : 3 ≤ N := by have := h.1; omega
    have h258 : N ≤ 258 := by have := h.2.1; omega
    have ih := h.total hz k (by omega)
    have hk1 : 50 * k < zs.length := by unfold ng at hk; omega
    have hk2 : k < ng zs.length := by omega
    have h2 := pks_at (N := N) hk2
    obtain ⟨k1, k2⟩ : (rw_ (rnd zs N 4) ((pks zs N).getD _ 0)).length = N ∧ WholeP (rw_ (rnd zs N 4) ((pks zs N).getD _ 0)) := rnd_whole (zs := zs) (N := N) h3 h258 (by omega) 3 h2
    have hS := grp_syms h.2.2.2.1 k
    have hgl := grp_len zs k
    have hcb := costS_bd (N := N) hS k1 (fun z hz => by have := k2.1 z hz; omega)
    have hg := symT_grp (rnd zs N 4) (pks zs N) k (grp zs k) (50 * k) (Nat.le_refl _) (by omega) (fun x hx => by
      have hx2 := hS x hx
      have := k2.1 _ (FreqM.getD_mem (rw_ (rnd zs N 4) ((pks zs N).getD k 0)) x.toNat (by omega))
      unfold rw_ at this
      omega)
    have hle := symT_ge (h.tbs hz) (zs.take (50 * k)) 0 (fun x hx => h.2.2.2.1 x (List.mem_of_mem_take hx)) (by rw [List.length_take]; omega)
    rw [List.length_take] at hle
    unfold rw_ at hcb
    rw [tcC, ih]
    unfold gc
    rw [PkM.toI_getD, Int.toNat_natCast]
    unfold rw_
    have e1 : cap (costS (grp zs k) ((rnd zs N 4).getD ((pks zs N).getD k 0) [])) = costS (grp zs k) ((rnd zs N 4).getD ((pks zs N).getD k 0) []) := cap_id _ (by omega)
    rw [e1, cap_id _ (by omega), ← hg, FreqM.take_next, symT_app, List.length_append, List.length_take, Nat.min_eq_left (by omega), Nat.zero_add]
    omega
theorem May14.cost {zs : List Int} {N : Nat} (h : May14 zs (N : Int)) (hz : zs.length ≤ 1000) {n err : Int} (hp : CostsP zs (rnd zs N 4) (PkM.toI (pks zs N)) n err) : n = ((symB (rnd zs N 4) (pks zs N) zs zs.length).length : Int) ∧ err = 0 ∧ (symB (rnd zs N 4) (pks zs N) zs zs.length).length ≤ 20000 := by
  have hle := symT_ge (h.tbs hz) zs 0 h.2.2.2.1 (by omega)
  rcases hp with ⟨_, h1, h2⟩ | ⟨h1, _⟩
  · refine ⟨?_, h2, ?_⟩
    · rw [h1, PkM.toI_length, pks_len, h.total hz _ (Nat.le_refl _)]
      unfold symB
      rw [List.take_of_length_le (by unfold ng; omega), List.take_length]
    · unfold symB
      rw [List.take_length]
      omega
  · exact absurd (h.costs hz) h1
end Go.Proofs.YtojphcoghbiepaaGreatDoor
namespace Go.Proofs.YtojphcoghbiepaaGreatDoor
open Go.RowKit DelM BitM
set_option linter.unusedVariables false
set_option maxRecDepth 100000 in
set_option maxHeartbeats 4000000 in
theorem dbits_any (l : Value) (zs : List Int) (w : World) (hv : IsInts w l zs) (hm : May zs) :
    Calls Tryz.prog 102 #[l] w fun e w' => e = .returned (.tuple #[.int .i64 ((allB zs).length : Int), .int .i64 0]) ∧ ∃ n, w' = w.drewN n := by
  have HV := Lib.hid hv
  have HM := Lib.hid hm
  have HMAY := Lib.hid (dmay_any l zs true w hv ⟨fun _ => hm, fun _ => rfl⟩ (by have := hm.2.1; omega))
  have h3 := hm.1
  have h258 := hm.2.1
  obtain ⟨ad, cap, rfl, _⟩ := hv
  have HL : Hid (∀ k, k ≤ zs.length → (encK zs k).length ≤ 11000) := Lib.hid (fun k hk => by have := (encK_le HM.out hk).1; omega)
  obtain ⟨N, hN⟩ : ∃ N, zs.length = N := ⟨_, rfl⟩
  have HN := Lib.hid hN
  rw [hN] at h3 h258 HV HMAY ⊢
  clear hm hN
  obtain ⟨b1, o1, k1, he1, c1⟩ := HV.out.cell (k := 0) (by rw [HN.out]; omega)
  rw [HN.out] at he1
  simp only [Value.slice.injEq] at he1
  obtain ⟨rfl, _, rfl⟩ := he1
  rw [Nat.add_zero] at c1
  have hz0 := HM.out.at_ (k := 0) (by rw [HN.out]; omega)
  obtain ⟨x0, hx0⟩ : ∃ x0, zs.getD 0 0 = x0 := ⟨_, rfl⟩
  rw [hx0] at c1 hz0
  have HALL : Hid ((allB zs).length = 5 + (encK zs N).length) := Lib.hid (by rw [allB_length, HN.out])
  have HPRV : Hid (prv zs 0 = x0) := Lib.hid hx0
  clear hx0
  have hN0 : (0 : Int) < (N : Int) := by omega
  go_enter Tryz.func102, Tryz.ntmps102
  go_wp2_with fail
  refine HMAY.out.mono ?_
  rintro e w' ⟨rfl, rfl⟩
  go_wp2_with fail
  go_quiet (fail)
  go_wp2_with fail
  go_loopw [4, 5, 16] (fun vn vl vk wr => ∃ k m : Nat, vk = .int .i64 (k : Int) ∧ k ≤ N ∧ vl = .int .i64 (prv zs k) ∧ vn = .int .i64 ((5 + (encK zs k).length : Nat) : Int) ∧ wr = w'.drewN m) (fun _ _ vk _ => N - (intOf vk).toNat)
  case atStart => exact ⟨0, _, rfl, by omega, by rw [HPRV.out], rfl, rfl⟩
  case round =>
    obtain ⟨k, m, rfl, hk, rfl, rfl, rfl⟩ := hrel
    by_cases hlk : k < N
    · have hki : (k : Int) < (N : Int) := by omega
      have hkz : k < zs.length := by rw [HN.out]; exact hlk
      obtain ⟨b1, o1, k1, he1, c1⟩ := HV.out.cell hkz
      rw [HN.out] at he1
      simp only [Value.slice.injEq] at he1
      obtain ⟨he1, _, rfl⟩ := he1
      simp only [Option.some.injEq, Addr.mk.injEq, and_true] at he1
      obtain ⟨rfl, rfl⟩ := he1
      have hzk := HM.out.at_ hkz
      have hpk := HM.out.prv (k := k) (by omega)
      have hLk := HL.out k (by rw [HN.out]; omega)
      have hEN := encK_len zs k
      have HPS : Hid (prv zs (k + 1) = zs.getD k 0) := Lib.hid rfl
      obtain ⟨x, hx⟩ : ∃ x, zs.getD k 0 = x := ⟨_, rfl⟩
      obtain ⟨p, hp⟩ : ∃ p, prv zs k = p := ⟨_, rfl⟩
      rw [hx] at c1 hzk hEN HPS
      rw [hp] at hpk hEN ⊢
      obtain ⟨E, hE⟩ : ∃ E, (encK zs k).length = E := ⟨_, rfl⟩
      rw [hE] at hLk hEN ⊢
      have HEN := Lib.hid hEN
      clear hx hp hE hEN
      have c2 : (w'.drewN m).cell? ⟨b1, o1 + k, none⟩ = some (.int .i64 x) := c1
      clear c1
      go_wp2_with fail
      all_goals
        go_roundw
        case rel => exact ⟨k + 1, m, by go_num, by omega, by rw [HPS.out], iv (by have := HEN.out; omega), rfl⟩
        case measure => simp [intOf]; omega
    · have hki : ¬ (k : Int) < (N : Int) := by omega
      obtain rfl : k = N := by omega
      go_wp2_with fail
      go_ret2
      refine ⟨?_, m, rfl⟩
      show Ending.returned (.tuple #[.int .i64 (5 + ((encK zs k).length : Int)), .int .i64 0]) = _
      rw [HALL.out]
      simp
end Go.Proofs.YtojphcoghbiepaaGreatDoor
namespace Go.Proofs.YtojphcoghbiepaaGreatDoor
open Go.RowKit BitM HufM CanM CodM TabM FreqM
set_option linter.unusedVariables false
/-- Behind a choice: its box, and its rows, in blocks of its own. -/
structure ChB (w w2 : World) (B : Nat) (vL vP : Value) (gs : List (List Int)) (ps : List Int) : Prop where
  bel : Below w.heap.size w w2
  lo : w.heap.size ≤ B
  box : w2.heap[B]? = some (.cells #[vL, vP] 144 (0, 0))
  rows : ∀ W, Touch (· < w.heap.size) w2 W → IsRR W vL gs ∧ IsInts W vP ps
theorem ChB.of {w w1 : World} {vL vP : Value} {gs : List (List Int)} {ps : List Int} (hb : Below w.heap.size w w1)
    (hk : ∀ W : World, (∀ k, w.heap.size ≤ k → k < w1.heap.size → W.heap[k]? = w1.heap[k]?) → w1.heap.size ≤ W.heap.size → IsRR W vL gs ∧ IsInts W vP ps) :
    ChB w (w1.alloc (.cells #[vL, vP] 144)) w1.heap.size vL vP gs ps := by
  have hs : (w1.alloc (.cells #[vL, vP] 144)).heap.size = w1.heap.size + 1 := by simp
  refine ⟨hb.alloc hb.size _, hb.size, heap_alloc_new w1 _, fun W hW => hk W (fun k h1 h2 => ?_) (by have := hW.size; omega)⟩
  rw [hW.block k (by omega) (by omega)]
  exact alloc_old h2
theorem ChB.cells {w w2 W : World} {B : Nat} {vL vP : Value} {gs : List (List Int)} {ps : List Int} (h : ChB w w2 B vL vP gs ps) (hW : Touch (· < w.heap.size) w2 W) : W.cell? ⟨B, 0, none⟩ = some vL ∧ W.cell? ⟨B, 1, none⟩ = some vP ∧ W.heap[B]? = some (.cells #[vL, vP] 144 (0, 0)) := by
  have h1 := h.lo
  have hg : W.heap[B]? = some (.cells #[vL, vP] 144 (0, 0)) := (hW.block B (Array.getElem?_eq_some_iff.1 h.box).1 (by omega)).trans h.box
  refine ⟨?_, ?_, hg⟩
  · rw [cell_of_row _ _ _ _ _ _ hg]; rfl
  · rw [cell_of_row _ _ _ _ _ _ hg]; rfl
set_option maxRecDepth 100000 in
set_option maxHeartbeats 8000000 in
theorem cbits_any (a : Option Addr) (len c : Nat) (zs : List Int) (N : Nat) (w : World) (hI : IsInts w (.slice a len c) zs) (hlen : zs.length = len) (hz : len ≤ 1000) (hc : len ≤ c) (hc2 : c ≤ 9223372036854775807) (hB : Bnds w) (hm : May14 zs (N : Int)) :
    Calls Tryz.prog 52 #[.slice a len c, .int .i64 (N : Int)] w fun e w' => e = .returned (.tuple #[.int .i64 ((allC (rnd zs N 4) (pks zs N) zs).length : Int), .int .i64 0]) ∧ Below w.heap.size w w' := by
  have HC := Lib.hid (choice_any a len c zs N w hI hlen hz hc hc2 hB hm)
  have hi := info_ch14
  have h3 : 3 ≤ N := by have := hm.1; omega
  have h258 : N ≤ 258 := by have := hm.2.1; omega
  have hz2 : zs.length ≤ 1000 := by omega
  have HPK := Lib.hid (hm.pk hz2)
  have HWH := Lib.hid (hm.whs hz2)
  have HCOST := Lib.hid (fun n err => hm.cost (n := n) (err := err) hz2)
  have hT6 : (rnd zs N 4).length ≤ 6 := HPK.out.2.1
  have hpl : (pks zs N).length ≤ 32767 := HPK.out.2.2.2.1
  have hp1000 : Hid ((PkM.toI (pks zs N)).length ≤ 1000) := Lib.hid (by rw [PkM.toI_length, pks_len]; unfold ng; omega)
  have hal : (allC (rnd zs N 4) (pks zs N) zs).length = (PkM.allB (pks zs N) (rnd zs N 4).length).length + (gsB (rnd zs N 4)).length + (symB (rnd zs N 4) (pks zs N) zs zs.length).length := by
    unfold allC
    rw [List.length_append, List.length_append]
  have hpb : (PkM.allB (pks zs N) (rnd zs N 4).length).length ≤ 200000 := by
    rw [PkM.allB_length, ← PkM.encK_all _ _ (Nat.le_refl _)]
    have := PkM.encK_len (pks zs N) hT6 (fun x hx => pks_lt x hx) _ (Nat.le_refl _)
    omega
  have hgb : (gsB (rnd zs N 4)).length ≤ 60600 := by
    have := gsB_len h3 h258 _ HWH.out
    omega
  rw [pks_toI] at HC
  have HI := Lib.hid hI
  have HLEN := Lib.hid hlen
  clear hI hB hm
  generalize rnd zs N 4 = gs at *
  generalize hps : pks zs N = ps at *
  clear hps
  rw [hal]
  clear hal
  have HGB : Hid (∀ k, (gsB (gs.take k)).length ≤ 60600 ∧ (k < gs.length → (gsB (gs.take (k + 1))).length = (gsB (gs.take k)).length + (DelM.allB (rw_ gs k)).length ∧ DelM.May (rw_ gs k))) := Lib.hid (fun k => ⟨by
    have := gsB_len h3 h258 (gs.take k) (fun g hg => HWH.out g (List.mem_of_mem_take hg))
    rw [List.length_take] at this
    omega, fun hk => ⟨by rw [gsB_succ gs hk, List.length_append]; rfl, by
      obtain ⟨k1, k2⟩ := HWH.out (rw_ gs k) (by unfold rw_; rw [List.getD_eq_getElem?_getD, List.getElem?_eq_getElem hk]; exact List.getElem_mem hk)
      exact ⟨by omega, by omega, k2.1⟩⟩⟩)
  have HGA : Hid ((gsB gs).length = (gsB (gs.take gs.length)).length) := Lib.hid (by rw [List.take_length])
  obtain ⟨S, hS⟩ : ∃ S, (symB gs ps zs zs.length).length = S := ⟨_, rfl⟩
  obtain ⟨Pn, hPn⟩ : ∃ Pn, (PkM.allB ps gs.length).length = Pn := ⟨_, rfl⟩
  have HPN := Lib.hid hPn
  rw [hS] at HCOST ⊢
  rw [hPn] at hpb ⊢
  have HRR : Hid (∀ r ∈ gs, r.length ≤ 1000000) := Lib.hid (fun r hr => by have := (HWH.out r hr).1; omega)
  clear hS hPn
  go_enter Tryz.func52, Tryz.ntmps52
  go_wp2_with fail
  refine HC.out.mono ?_
  rintro e w1 ⟨vL, vP, rfl, hk, hb⟩
  have h0 := choice0 w1
  have HCB := Lib.hid (ChB.of hb hk)
  obtain ⟨⟨aL, cL, rfl, _⟩, ⟨aP, cP, rfl, _⟩⟩ := hk w1 (fun _ _ _ => rfl) (Nat.le_refl _)
  obtain ⟨T, hT⟩ : ∃ T, gs.length = T := ⟨_, rfl⟩
  obtain ⟨M, hM⟩ : ∃ M, (PkM.toI ps).length = M := ⟨_, rfl⟩
  have HT := Lib.hid hT
  rw [hT, hM] at HCB
  rw [hT] at hT6 HPN
  clear hk hb
  obtain ⟨B, hBB⟩ : ∃ B, w1.heap.size = B := ⟨_, rfl⟩
  rw [hBB] at h0 HCB
  have cc := fun W (hW : Touch (· < w.heap.size) _ W) => HCB.out.cells hW
  have CCH := Lib.hid cc
  obtain ⟨c0, c1, _⟩ := cc _ (Touch.refl _ _)
  clear cc
  rw [hT, hM]
  have HPB := Lib.hid (pbits_any (.slice aP M cP) ps T (w1.alloc (.cells #[.slice aL T cL, .slice aP M cP] 144)) (by have := (HCB.out.rows _ (Touch.refl _ _)).2; exact this) (by rw [← HT.out]; exact HPK.out))
  rw [HPN.out] at HPB
  have hu := Tryz.underlying144
  go_wp2_with fail
  refine HPB.out.mono ?_
  rintro e w3 ⟨rfl, hb3⟩
  have HB3 := Lib.hid hb3
  have hsz2 : (w1.alloc (.cells #[.slice aL T cL, .slice aP M cP] 144)).heap.size = B + 1 := by simp [hBB]
  have HSZ2 := Lib.hid hsz2
  clear HPB hsz2 c0 c1 h0 HC
  generalize w1.alloc (.cells #[.slice aL T cL, .slice aP M cP] 144) = w2 at *
  obtain ⟨c0, c1, _⟩ := CCH.out w3 (Touch.ofBelow hb3)
  clear hb3
  clear hM
  go_wp2_with fail
  go_loopw [8, 37] (fun vt vk wr => ∃ (k : Nat), vk = .int .i64 (k : Int) ∧ k ≤ T ∧ vt = .int .i64 ((Pn + (gsB (gs.take k)).length : Nat) : Int) ∧ Below w2.heap.size w2 wr) (fun _ vk _ => T - (intOf vk).toNat)
  case atStart => exact ⟨0, rfl, by omega, by simp [gsB], HB3.out⟩
  case round =>
    clear c0 c1
    obtain ⟨k, rfl, hk, rfl, hB⟩ := hrel
    have HB := Lib.hid hB
    have hT2 : Touch (· < w.heap.size) w2 wr := Touch.ofBelow hB
    obtain ⟨c0, c1, hg⟩ := CCH.out wr hT2
    obtain ⟨hL, hP⟩ := HCB.out.rows wr hT2
    obtain ⟨hg1, hg2⟩ := HGB.out k
    by_cases hkT : k < T
    · have hki : (k : Int) < (T : Int) := by omega
      obtain ⟨b2, o2, cap2, u, he2, d2, hI5⟩ := hL.at_ (show k < gs.length by rw [hT]; exact hkT)
      rw [hT] at he2 hg2
      simp only [Value.slice.injEq] at he2
      obtain ⟨rfl, he2b, rfl⟩ := he2
      obtain ⟨hg3, hmay⟩ := hg2 hkT
      have HDB := Lib.hid (dbits_any u (rw_ gs k) wr hI5 hmay)
      have hg4 := (HGB.out (k + 1)).1
      have HG3 := Lib.hid hg3
      obtain ⟨X, hX⟩ : ∃ X, (gsB (gs.take k)).length = X := ⟨_, rfl⟩
      obtain ⟨Y, hY⟩ : ∃ Y, (DelM.allB (rw_ gs k)).length = Y := ⟨_, rfl⟩
      rw [hX] at hg1 HG3 ⊢
      rw [hY] at HDB HG3
      have hXY : X + Y ≤ 60600 := by have := HG3.out; omega
      clear hB hT2 hg hL hP hg2 he2b hg3 hmay hI5 hg4 hX hY
      go_wp2_with fail
      refine HDB.out.mono ?_
      rintro e w4 ⟨rfl, nq, rfl⟩
      go_wp2_with fail
      go_roundw
      case rel => exact ⟨k + 1, by go_num, by omega, by rw [HG3.out]; go_num, HB.out.trans ⟨rfl, rfl, rfl, Nat.le_refl _, fun _ _ => rfl⟩⟩
      case measure => simp [intOf]; omega
    · obtain rfl : k = T := by omega
      have hki : ¬ (k : Int) < (k : Int) := by omega
      obtain ⟨X, hX⟩ : ∃ X, (gsB (gs.take k)).length = X := ⟨_, rfl⟩
      rw [hX] at hg1 ⊢
      have HGS : Hid ((gsB gs).length = X) := Lib.hid (by rw [HGA.out, HT.out]; exact hX)
      have HCO := Lib.hid (cost12_any a len c zs (.slice aL k cL) (.slice aP M cP) gs (PkM.toI ps) wr (HI.out.below (HCB.out.bel.trans (hB.mono HCB.out.bel.size))) HLEN.out hz hc hc2 hL hP (by omega) HRR.out hp1000.out)
      clear hB hT2 hL hP hg2 hX
      go_wp2_with (refine wpList_load_row rfl 144 _ rfl B rfl 144 #[.slice aL k cL, .slice aP M cP] (0, 0) _ hg hu rfl hi ?_)
      refine HCO.out.mono ?_
      rintro e w5 ⟨n, err, rfl, hcp, hb5⟩
      obtain ⟨rfl, rfl, hS2⟩ := HCOST.out n err hcp
      have HB5 : Hid (Below w.heap.size w w5) := Lib.hid ((HCB.out.bel.trans (HB.out.mono HCB.out.bel.size)).trans (hb5.mono (HCB.out.bel.trans (HB.out.mono HCB.out.bel.size)).size))
      clear hcp hb5
      go_wp2_with fail
      go_ret2
      exact ⟨by rw [HGS.out]; go_num, HB5.out⟩
end Go.Proofs.YtojphcoghbiepaaGreatDoor
namespace Go.Proofs.YtojphcoghbiepaaGreatDoor
open Go.RowKit PkM BitM
set_option linter.unusedVariables false
/-- As Wrote, and the block B beside it is not the writer's. -/
def WroteB (w : World) (g : Nat) (v : Value) (tk : Nat) (q : List Bool) (B : Nat) (w' : World) : Prop :=
  ∃ v1, IsWriter w' g v1 q tk ∧ Touch (foot g v) w w' ∧ (∀ k, v1.ownBlock = some k → v.ownBlock = some k ∨ w.heap.size ≤ k) ∧ v1.ownBlock ≠ some B ∧ g ≠ B ∧ B < w'.heap.size ∧ w.heap.size ≤ B
theorem WroteB.put {w w' : World} {g : Nat} {v : Value} {tk : Nat} {q : List Bool} {B : Nat} (h : WroteB w g v tk q B w') (X n : Nat) (hn : n ≤ 32) (hX : X < 2 ^ n) (hq : q.length ≤ 1099511627776) :
    Calls Tryz.prog 63 #[.pointer (some ⟨g, 0, none⟩), .int .u32 (X : Int), .int .i64 (n : Int)] w' fun e w2 => e = .returned (.int .i64 0) ∧ WroteB w g v tk (q ++ field X n) B w2 ∧ Touch (fun k => k ≠ B) w' w2 := by
  obtain ⟨v1, h1, h2, h3, h4, h5, h6, h7⟩ := h
  refine (put_any g v1 q tk X n w' h1 hn hX hq).mono ?_
  rintro e w2 ⟨rfl, v2, k1, k2, k3⟩
  refine ⟨rfl, ⟨v2, k1, h2.trans k2 (fun j hj => ?_), fun k hk => ?_, fun hb => ?_, h5, Nat.lt_of_lt_of_le h6 k2.size, h7⟩, k2.mono (fun k hk => ?_)⟩
  · rcases hj with hj | hj
    · exact Or.inl (Or.inl hj)
    · rcases h3 j hj with h | h
      · exact Or.inl (Or.inr h)
      · exact Or.inr h
  · rcases k3 k hk with h | h
    · exact h3 k h
    · exact Or.inr (Nat.le_trans h2.size h)
  · rcases k3 B hb with h | h
    · exact h4 h
    · omega
  · rcases hk with rfl | hk
    · exact h5
    · rintro rfl
      exact h4 hk
theorem WroteB.box {w w' w2 : World} {g : Nat} {v : Value} {tk : Nat} {q : List Bool} {B : Nat} (h : WroteB w g v tk q B w') (ht : Touch (· = B) w' w2) : WroteB w g v tk q B w2 := by
  obtain ⟨v1, h1, h2, h3, h4, h5, h6, h7⟩ := h
  refine ⟨v1, h1.other ht (fun k hk hh => ?_), h2.trans ht (fun i hi => Or.inr (by have : i = B := hi; omega)), h3, h4, h5, Nat.lt_of_lt_of_le h6 ht.size, h7⟩
  have hh : k = B := hh
  subst hh
  rcases hk with h | h
  · exact h5 h.symm
  · exact h4 h
theorem WroteB.out {w w' : World} {g : Nat} {v : Value} {tk : Nat} {q : List Bool} {B : Nat} (h : WroteB w g v tk q B w') : Wrote w g v tk q w' := by
  obtain ⟨v1, h1, h2, h3, _⟩ := h
  exact ⟨v1, h1, h2, h3⟩
theorem Wrote.below {w w' w2 : World} {g : Nat} {v : Value} {tk : Nat} {q : List Bool} (h : Wrote w g v tk q w') (hb : Below w'.heap.size w' w2) : Wrote w g v tk q w2 := by
  obtain ⟨v1, h1, h2, h3⟩ := h
  exact ⟨v1, h1.other (Touch.ofBelow (S := fun _ => False) hb) (fun _ _ h => h), h2.trans (Touch.ofBelow (S := fun _ => False) hb) (fun _ hi => absurd hi id), h3⟩
/-- A box is made beside it. -/
theorem Wrote.beside {w w' w2 : World} {g : Nat} {v : Value} {tk : Nat} {q : List Bool} (h : Wrote w g v tk q w') (hb : Below w'.heap.size w' w2) (B : Nat) (hB : w'.heap.size ≤ B) (hB2 : B < w2.heap.size) (hg : ∀ k, foot g v k → k < w.heap.size) : WroteB w g v tk q B w2 := by
  obtain ⟨v1, h1, h2, h3⟩ := h
  have hs := h2.size
  have hlt := fun k hk => (h1.lt k hk).1
  have hg2 := hg g (Or.inl rfl)
  refine ⟨v1, h1.other (Touch.ofBelow (S := fun _ => False) hb) (fun _ _ h => h), h2.trans (Touch.ofBelow (S := fun _ => False) hb) (fun _ hi => absurd hi id), h3, fun hh => ?_, by omega, hB2, by omega⟩
  have := hlt B (Or.inr hh)
  omega
set_option maxRecDepth 100000 in
set_option maxHeartbeats 4000000 in
theorem pwrite_any (g : Nat) (v l : Value) (ps : List Nat) (t : Nat) (q : List Bool) (tk : Nat) (w : World) (hw : IsWriter w g v q tk) (hst : ∀ w', Touch (foot g v) w w' → IsInts w' l (toI ps)) (hm : May ps t) (hq : q.length ≤ 1099511000000) :
    Calls Tryz.prog 97 #[.pointer (some ⟨g, 0, none⟩), l, .int .i64 (t : Int)] w fun e w' => e = .returned (.int .i64 0) ∧ Wrote w g v tk (q ++ allB ps t) w' := by
  have hv := hst w (Touch.refl _ _)
  have HV := Lib.hid hv
  have HST := Lib.hid hst
  have HM := Lib.hid hm
  have HW0 := Lib.hid hw
  have HS := Lib.hid (Wrote.start hw)
  have hlz := toI_length ps
  have HMAY := Lib.hid (pmay_any l (toI ps) (t : Int) true w hv ⟨fun _ => hm.int, fun _ => rfl⟩ (by have := hm.2.2.2.1; omega))
  have hn1 := hm.2.2.1
  have hn2 := hm.2.2.2.1
  have ht2 := hm.1
  have ht6 := hm.2.1
  obtain ⟨ad, cap, rfl, _⟩ := hv
  obtain ⟨N, hN⟩ : ∃ N, ps.length = N := ⟨_, rfl⟩
  have HALL : Hid (allB ps t = field t 3 ++ field N 15 ++ encK ps N) := Lib.hid (by unfold allB; rw [hN, encK_all ps N (by omega)])
  rw [hlz] at HMAY HST ⊢
  rw [hN] at hn1 hn2 hlz HMAY HST ⊢
  have HZ := Lib.hid hlz
  have HN := Lib.hid hN
  have HP1 := Lib.hid (fun W (hh : Wrote w g v tk q W) => hh.put t 3 (by omega) (show t < 8 by omega) (by omega))
  have HP2 := Lib.hid (fun W (hh : Wrote w g v tk (q ++ field t 3) W) => hh.put N 15 (by omega) (show N < 32768 by omega) (by rw [List.length_append, field_length]; omega))
  have hc1 : IntKind.u32.wrap (t : Int) = (t : Int) := by simp [IntKind.wrap, IntKind.bits, IntKind.signed]; omega
  have hc2 : IntKind.u32.wrap (N : Int) = (N : Int) := by simp [IntKind.wrap, IntKind.bits, IntKind.signed]; omega
  clear hst hm hw hlz hN
  go_enter Tryz.func97, Tryz.ntmps97
  go_wp2_with fail
  refine HMAY.out.mono ?_
  rintro e w' ⟨rfl, rfl⟩
  go_wp2_with fail
  refine (HP1.out _ HS.out).mono ?_
  rintro e w1 ⟨rfl, hW1⟩
  have HW1 := Lib.hid hW1
  clear hW1 HP1
  go_wp2_with fail
  refine (HP2.out _ HW1.out).mono ?_
  rintro e w2 ⟨rfl, hW2⟩
  have HW2 := Lib.hid hW2
  clear hW2 HP2 HW1
  go_wp2_with fail
  refine (inOrder_any w2).mono ?_
  rintro e w3 ⟨rfl, hb3⟩
  have hg1 := heap_alloc_new w3 (.cells #[.int .i64 0, .int .i64 0, .int .i64 0, .int .i64 0, .int .i64 0, .int .i64 0] 161)
  have HBX : Hid (LstAt 6 161 (boxed w3) w3.heap.size 0 (ordF O6) O6) := Lib.hid (boxed_lst w3)
  have HWB : Hid (WroteB w' g v tk (q ++ field t 3 ++ field N 15) w3.heap.size (boxed w3)) := Lib.hid (HW2.out.beside (hb3.trans ((boxed_below w3).mono hb3.size)) _ hb3.size (boxed_lst w3).1.lt (fun k hk => (HW0.out.lt k hk).1))
  clear hb3
  go_wp2_with (refine wpList_store_row rfl 161 _ _ rfl w3.heap.size (ordA O6) rfl rfl 161 _ hg1 info_list six_size (ordA_one O6) ?_)
  change Code.wp _ _ _ _ (boxed w3)
  obtain ⟨B, hB⟩ : ∃ B, w3.heap.size = B := ⟨_, rfl⟩
  rw [hB] at HBX HWB
  simp only [hB]
  clear hg1 hB
  generalize boxed w3 = w4 at *
  obtain ⟨Q0, hQ0⟩ : ∃ Q0, q ++ field t 3 ++ field N 15 = Q0 := ⟨_, rfl⟩
  have HQ0 := Lib.hid hQ0
  have hQ0l : Q0.length ≤ 1099511100000 := by rw [← hQ0, List.length_append, List.length_append, field_length, field_length]; omega
  rw [hQ0] at HWB
  clear hQ0
  go_loopw [28] (fun vk wr => ∃ k : Nat, vk = .int .i64 (k : Int) ∧ k ≤ N ∧ WroteB w' g v tk (Q0 ++ encK ps k) B wr ∧ ∃ F, LstAt 6 161 wr B 0 F (ordK ps k)) (fun vk _ => N - (intOf vk).toNat)
  case atStart => exact ⟨0, rfl, by omega, by rw [show encK ps 0 = [] from rfl, List.append_nil]; exact HWB.out, _, HBX.out⟩
  case round =>
    clear HBX HWB
    obtain ⟨k, rfl, hk, hW, F, hL⟩ := hrel
    have HW := Lib.hid hW
    have HL := Lib.hid hL
    clear hW hL
    have hkl := encK_len ps HM.out.2.1 HM.out.2.2.2.2 k (by rw [HN.out]; exact hk)
    by_cases hlk : k < N
    · have hki : (k : Int) < (N : Int) := by omega
      have hkp : k < ps.length := by rw [HN.out]; exact hlk
      have HVk := Lib.hid (HST.out wr HW.out.out.touch)
      obtain ⟨b1, o1, k1, he1, c1⟩ := HVk.out.cell (k := k) (by rw [HZ.out]; exact hlk)
      rw [HZ.out] at he1
      simp only [Value.slice.injEq] at he1
      obtain ⟨rfl, _, rfl⟩ := he1
      rw [toI_getD] at c1
      have hpm : ps.getD k 0 < t := by
        rw [List.getD_eq_getElem?_getD, List.getElem?_eq_getElem hkp]
        exact HM.out.2.2.2.2 _ (List.getElem_mem _)
      have hO := ordK_ord ps HM.out.2.1 HM.out.2.2.2.2 k (by omega)
      have hpo : ps.getD k 0 ∈ ordK ps k := List.mem_of_mem_take ((hO.1.2 _).1 hpm)
      have hIl := (hO.1.place HM.out.2.1 hpm).1
      have HEN := Lib.hid (encK_next ps hkp)
      have HON := Lib.hid (ordK_next ps hkp)
      have HPL := Lib.hid (pplace_any 6 161 B 0 (ps.getD k 0) F (ordK ps k) wr HL.out hpo)
      obtain ⟨I, hI⟩ : ∃ I, (ordK ps k).idxOf (ps.getD k 0) = I := ⟨_, rfl⟩
      rw [hI] at HEN HON HPL hIl
      obtain ⟨x, hx⟩ : ∃ x, ps.getD k 0 = x := ⟨_, rfl⟩
      rw [hx] at c1 HPL
      obtain ⟨Q, hQ⟩ : ∃ Q, Q0 ++ encK ps k = Q := ⟨_, rfl⟩
      have HQ := Lib.hid hQ
      have hQl : Q.length ≤ 1099511400000 := by rw [← hQ, List.length_append]; omega
      rw [hQ] at HW
      clear hpm hO hpo hI hx HVk hkp hQ hkl
      go_wp2_with fail
      refine HPL.out.mono ?_
      rintro e w5 ⟨rfl, ⟨F2, hL2, _⟩, hT2⟩
      have HL2 := Lib.hid hL2
      have HW5 := Lib.hid (HW.out.box hT2)
      clear hL2 hT2 HW HL HPL
      go_wp2_with fail
      obtain ⟨wa, rfl⟩ : ∃ wa : World, wa = wr := ⟨_, rfl⟩
      go_loopw [34] (fun vj wr2 => ∃ j : Nat, j ≤ I ∧ vj = .int .i64 (j : Int) ∧ WroteB w' g v tk (Q ++ List.replicate j true) B wr2 ∧ LstAt 6 161 wr2 B 0 F2 (tch (ordK ps k) I)) (fun vj _ => I - (intOf vj).toNat)
      case atStart => exact ⟨0, by omega, rfl, by rw [List.replicate_zero, List.append_nil]; exact HW5.out, HL2.out⟩
      case round =>
        clear HW5 HL2
        obtain ⟨j, hj, rfl, hWj, hLj⟩ := hrel
        have HWj := Lib.hid hWj
        have HLj := Lib.hid hLj
        clear hWj hLj
        have hl2 : (Q ++ List.replicate j true).length ≤ 1099511627776 := by rw [List.length_append, List.length_replicate]; omega
        by_cases hlt : j < I
        · have hlti : (j : Int) < (I : Int) := by omega
          have HPP := Lib.hid (HWj.out.put 1 1 (by omega) (by decide) hl2)
          clear hl2
          go_wp2_with fail
          refine HPP.out.mono ?_
          rintro e w6 ⟨rfl, hW6, hT6⟩
          have HW6 : Hid (WroteB w' g v tk (Q ++ List.replicate (j + 1) true) B w6) := Lib.hid (by rw [List.replicate_succ', ← List.append_assoc]; exact hW6)
          have HL6 : Hid (LstAt 6 161 w6 B 0 F2 (tch (ordK ps k) I)) := Lib.hid ⟨HLj.out.1.other hT6 (fun h => h rfl), HLj.out.2⟩
          clear hW6 hT6
          go_wp2_with fail
          go_roundw
          case rel => exact ⟨j + 1, by omega, by go_num, HW6.out, HL6.out⟩
          case measure => simp [intOf]; omega
        · have hlti : ¬ (j : Int) < (I : Int) := by omega
          obtain rfl : j = I := by omega
          have HPP := Lib.hid (HWj.out.put 0 1 (by omega) (by decide) hl2)
          clear hl2
          go_wp2_with fail
          refine HPP.out.mono ?_
          rintro e w6 ⟨rfl, hW6, hT6⟩
          have HW6 : Hid (WroteB w' g v tk (Q0 ++ encK ps (k + 1)) B w6) := Lib.hid (by rw [HEN.out, ← List.append_assoc, HQ.out, ← List.append_assoc]; exact hW6)
          have HL6 : Hid (LstAt 6 161 w6 B 0 F2 (ordK ps (k + 1))) := Lib.hid (by rw [HON.out]; exact ⟨HLj.out.1.other hT6 (fun h => h rfl), HLj.out.2⟩)
          clear hW6 hT6
          go_wp2_with fail
          go_roundw
          case rel => exact ⟨k + 1, by go_num, by omega, HW6.out, F2, HL6.out⟩
          case measure => simp [intOf]; omega
    · have hki : ¬ (k : Int) < (N : Int) := by omega
      obtain rfl : k = N := by omega
      go_wp2_with fail
      go_ret
      exact ⟨rfl, by rw [HALL.out, ← List.append_assoc, ← List.append_assoc, HQ0.out]; exact HW.out.out⟩
end Go.Proofs.YtojphcoghbiepaaGreatDoor
namespace Go.Proofs.YtojphcoghbiepaaGreatDoor
open Go.RowKit BitM HufM CanM CodM PkM
set_option linter.unusedVariables false
/-- What a step leaves: of all bits Q, a were read; the bits q are there, and r comes behind them. kf: what the reader keeps of an error. -/
def OutC (kf : Int → Int) (w w' : World) (b rb N : Nat) (O : Nat → Prop) (v : Value) (l : List UInt8) (dr sp p : Nat) (Q q r : List Bool) (most a : Nat) (L : List Int) (s : CSt) (e : Ending) : Prop :=
  ∃ (x er : Int) (used : Nat) (O' : Nat → Prop), e = .returned (.tuple #[.int .i64 x, .int .i64 er]) ∧ IsReader w' rb v l dr sp (p + used) ∧ Touch (fun k => O k ∨ k = rb) w w' ∧ (∀ k, O' k → O k ∨ w.heap.size ≤ k) ∧ used ≤ q.length ∧
    ((er = 0 ∧ 1 ≤ used ∧ ∃ s', IsCR w' b N O' s' ∧ ((x = -1 ∧ s'.done = false ∧ RtC Q N most (a + used) L s' ∧ s'.cnt = L.length) ∨
        (∃ i : Nat, i < N ∧ x = (i : Int) ∧ s'.cnt = L.length + 1 ∧ s'.done = decide (i + 1 = N) ∧ (L.length = most → rdC Q N most = .err 2 []) ∧ (L.length < most → RtC Q N most (a + used) (L ++ [(i : Int)]) s')))) ∨
     (er ≠ 0 ∧ er ≠ 3 ∧ x = 0 ∧ IsCB w' b (kf er) O' ∧ rdC Q N most = .err er L) ∨
     (er = 3 ∧ used = 0 ∧ x = 0 ∧ IsCR w' b N O' s ∧ (r = [] → rdC Q N most = .err 3 L)))
theorem cd_tr {w w1 w2 : World} {O : Nat → Prop} {rb : Nat} (h : Touch (fun k => O k ∨ k = rb) w w1) (k : Touch (fun k => O k ∨ k = rb) w1 w2) : Touch (fun k => O k ∨ k = rb) w w2 := h.trans k (fun _ hj => Or.inl hj)
theorem cd_b {w w' : World} {O : Nat → Prop} {b rb : Nat} (h : Touch (· = b) w w') (hO : O b) : Touch (fun k => O k ∨ k = rb) w w' := h.mono (fun k hk => Or.inl (by rw [show k = b from hk]; exact hO))
theorem cd_pk {w w' : World} {O : Nat → Prop} {g rb : Nat} {pv : Value} (h : Touch (fun k => foot g pv k ∨ k = rb) w w') (hO : ∀ k, foot g pv k → O k) : Touch (fun k => O k ∨ k = rb) w w' := h.mono (fun k hk => hk.imp (hO k) id)
set_option maxRecDepth 100000 in
set_option maxHeartbeats 2000000 in
theorem cfields_any (b rb N : Nat) (O : Nat → Prop) (v : Value) (l : List UInt8) (dr sp p : Nat) (w : World) (Q r : List Bool) (most : Nat) (hC : IsCR w b N O .fields) (hR : IsReader w rb v l dr sp p) (hs : dr + l.length ≤ 1099511627776)
    (hne : ∀ k, foot rb v k → ¬ O k) (hq : Q.drop 0 = (bitsOf l).drop (p - 8 * dr) ++ r) :
    Calls Tryz.prog 61 #[.pointer (some ⟨b, 0, none⟩), .pointer (some ⟨rb, 0, none⟩)] w fun e w' => OutC (fun _ => 0) w w' b rb N O v l dr sp p Q ((bitsOf l).drop (p - 8 * dr)) r most 0 [] .fields e := by
  obtain ⟨F, g, pv, o, hO, hCC, hP, hOb, hft⟩ := hC
  have HNE := Lib.hid hne
  have HFT := Lib.hid hft
  have HOB := Lib.hid hOb
  have HCC := Lib.hid hCC
  obtain ⟨c0, c1, c2, c3, c4, c5, c6, c7, c8, c9, c10⟩ := cc_cells hO hCC
  have HO := Lib.hid hO
  have HST := pstepc_any g rb pv 0 0 [] o false v l dr sp p w hP hR hs (fun k hk hh => hne k hk (hft k hh).1) (Or.inl rfl)
  have HDS := RtC.fields (N := N) (most := most) o hq
  have hps := pstep_ps0 ((bitsOf l).drop (p - 8 * dr)) 0 [] o
  generalize hod : pstep ((bitsOf l).drop (p - 8 * dr)) 0 0 [] o false = D at *
  have HSTH := Lib.hid HST
  have HDSH := Lib.hid HDS
  have HPS := Lib.hid hps
  have hrb : Hid (¬ O rb) := Lib.hid (hne rb (Or.inl rfl))
  unfold ptr at c3
  clear hne hft hOb hCC hO hP hR HST HDS hps hod hq c0 c1 c2 c4 c5 c6 c7 c8 c9 c10
  go_enter Tryz.func61, Tryz.ntmps61
  go_wp2_with fail
  refine HSTH.out.mono ?_
  rintro e w1 ⟨pv1, rfl, hp1, hr1, ht1, hf1⟩
  have hO1 := HO.out.other ht1 (by
    rintro (e | e)
    · exact (HFT.out b e).2 rfl
    · exact hrb.out (e ▸ HOB.out))
  have HO1 := Lib.hid hO1
  have HR1 := Lib.hid hr1
  have HT1 := Lib.hid (cd_pk (O := O) ht1 (fun k hk => (HFT.out k hk).1))
  have hnew : ∀ k, foot g pv1 k → foot g pv k ∨ w.heap.size ≤ k := fun k hk => by
    rcases hk with rfl | hk
    · exact Or.inl (Or.inl rfl)
    · exact (hf1 k hk).imp Or.inr id
  have hbw : b < w.heap.size := HO.out.lt
  have HNW : Hid (∀ k, foot g pv1 k → (O k ∨ w.heap.size ≤ k) ∧ k ≠ b) := Lib.hid (fun k hk => by
    rcases hnew k hk with h | h
    · exact ⟨Or.inl (HFT.out k h).1, (HFT.out k h).2⟩
    · exact ⟨Or.inr h, by omega⟩)
  have HP1 := Lib.hid hp1
  clear hp1 hr1 ht1 hf1 hnew HSTH c3
  rcases HDSH.out with ⟨e1, e2, e3, e4, e5⟩ | ⟨e1, e3, e4⟩ | ⟨e1, e2⟩
  · have d1 := (HO1.out.cell (i := 1) (by omega)).1
    have f1 := (HO1.out.cell (i := 1) (by omega)).2
    have HE4 := Lib.hid e4
    have HE3 := Lib.hid e3
    have HE5 := Lib.hid e5
    rw [e2] at HP1
    rw [e1]
    clear e1 e2 e3 e4 e5 HDSH hO1
    go_wp2_with fail
    go_ret2
    have hT : Touch (· = b) w1 (w1.setCell ⟨b, 1, none⟩ (mth 111 b)) := touch_cell (Touch.refl _ _)
    refine ⟨-1, 0, D.used, fun k => k = b ∨ foot g pv1 k, rfl, HR1.out.other hT (fun k hk e => HNE.out k hk (by rw [show k = b from e]; exact HOB.out)), cd_tr HT1.out (cd_b hT HOB.out), fun k hk => ?_, HE4.out, Or.inl ⟨rfl, HE3.out, .pick D.t D.n D.ps D.o, ⟨_, g, pv1, HO1.out.set 1 _, ?_, HP1.out.other hT (fun k hk e => (HNW.out k hk).2 e), Or.inl rfl, fun k hk => ⟨Or.inr hk, (HNW.out k hk).2⟩⟩, Or.inl ⟨rfl, rfl, by rw [Nat.zero_add]; exact HE5.out, rfl⟩⟩⟩
    · rcases hk with rfl | hk
      · exact Or.inl HOB.out
      · exact (HNW.out k hk).1
    · have h1 := HCC.out.s_nx (mth 111 b)
      rw [HPS.out]
      exact h1
  · have HE4 := Lib.hid e4
    have HE3 := Lib.hid e3
    rw [e1]
    clear e1 e3 e4 HDSH hO1
    go_wp2_with fail
    go_ret2
    exact ⟨0, 25, D.used, fun k => k = b, rfl, HR1.out, HT1.out, fun k hk => Or.inl (by rw [hk]; exact HOB.out), HE3.out, Or.inr (Or.inl ⟨by decide, by decide, rfl, ⟨F, _, _, _, _, _, _, _, _, _, HO1.out, HCC.out, rfl⟩, HE4.out⟩)⟩
  · have HE2 := Lib.hid e2
    subst e1
    clear e2 HDSH hO1
    go_wp2_with fail
    go_ret2
    refine ⟨0, 3, 0, fun k => k = b ∨ foot g pv1 k, rfl, HR1.out, HT1.out, fun k hk => ?_, Nat.zero_le _, Or.inr (Or.inr ⟨rfl, rfl, rfl, ⟨F, g, pv1, o, HO1.out, HCC.out, HP1.out, Or.inl rfl, fun k hk => ⟨Or.inr hk, (HNW.out k hk).2⟩⟩, HE2.out⟩)⟩
    rcases hk with rfl | hk
    · exact Or.inl HOB.out
    · exact (HNW.out k hk).1
end Go.Proofs.YtojphcoghbiepaaGreatDoor
namespace Go.Proofs.YtojphcoghbiepaaGreatDoor
open Go.RowKit BitM HufM CanM CodM
set_option linter.unusedVariables false
theorem getD_app_l {α : Type} (l : List α) (x d : α) {i : Nat} (h : i < l.length) : (l ++ [x]).getD i d = l.getD i d := by
  rw [List.getD_eq_getElem?_getD, List.getElem?_append_left h, List.getD_eq_getElem?_getD]
theorem getD_app_r {α : Type} (l : List α) (x d : α) {i : Nat} (h : i = l.length) : (l ++ [x]).getD i d = x := by
  subst h
  rw [List.getD_eq_getElem?_getD, List.getElem?_append_right (Nat.le_refl _), Nat.sub_self]
  rfl
theorem codes_pushed {W w' : World} {Pb : Nat → Prop} {cu v' : Value} {bs : List Nat} {base cb : Nat} {gs : List (List Int)} {ls : List Int} (hown : OwnP w' base v' (bs ++ [cb])) (hlen : bs.length = gs.length) (hb : base ≤ w'.heap.size) (hsz : W.heap.size ≤ w'.heap.size)
    (hfr : ∀ k, v'.ownBlock = some k → cu.ownBlock = some k ∨ W.heap.size ≤ k) (hcs : ∀ i, i < gs.length → IsCode w' (bs.getD i 0) (gs.getD i []) ∧ Pb (bs.getD i 0) ∧ cu.ownBlock ≠ some (bs.getD i 0) ∧ bs.getD i 0 < W.heap.size)
    (hc : IsCode w' cb ls) (hcb : cb < W.heap.size) (hcb2 : cu.ownBlock ≠ some cb) : Codes w' (fun k => Pb k ∨ k = cb ∨ v'.ownBlock = some k) v' (gs ++ [ls]) := by
  refine ⟨bs ++ [cb], base, hown, by rw [List.length_append, List.length_append, hlen]; rfl, hb, fun k hk => Or.inr (Or.inr hk), fun i hi => ?_⟩
  rw [List.length_append] at hi
  have hi2 : i < gs.length + 1 := hi
  by_cases h : i < gs.length
  · rw [getD_app_l bs cb 0 (by omega), getD_app_l gs ls [] h]
    obtain ⟨a1, a2, a3, a4⟩ := hcs i h
    refine ⟨a1, Or.inl a2, fun e => ?_, Nat.lt_of_lt_of_le a4 hsz⟩
    rcases hfr _ e with e2 | e2
    · exact a3 e2
    · omega
  · rw [getD_app_r bs cb 0 (by omega), getD_app_r gs ls [] (by omega)]
    refine ⟨hc, Or.inr (Or.inl rfl), fun e => ?_, Nat.lt_of_lt_of_le hcb hsz⟩
    rcases hfr _ e with e2 | e2
    · exact hcb2 e2
    · omega
set_option maxRecDepth 100000 in
set_option maxHeartbeats 8000000 in
theorem clength_any (b rb N t : Nat) (ps : List Nat) (gs : List (List Int)) (ls : List Int) (now : Int) (O : Nat → Prop) (v : Value) (l : List UInt8) (dr sp p : Nat) (w : World) (Q r : List Bool) (most a : Nat) (L : List Int) (hC : IsCR w b N O (.len t ps gs ls now)) (hR : IsReader w rb v l dr sp p) (hs : dr + l.length ≤ 1099511627776)
    (hne : ∀ k, foot rb v k → ¬ O k) (hq : Q.drop a = (bitsOf l).drop (p - 8 * dr) ++ r) (hrt : RtC Q N most a L (.len t ps gs ls now)) (h3 : 3 ≤ N) (h258 : N ≤ 258) :
    Calls Tryz.prog 227 #[.pointer (some ⟨b, 0, none⟩), .pointer (some ⟨rb, 0, none⟩)] w fun e w' => OutC (fun _ => 0) w w' b rb N O v l dr sp p Q ((bitsOf l).drop (p - 8 * dr)) r most a L (.len t ps gs ls now) e := by
  obtain ⟨F, Pb, d, pu, cu, hO, hCC, hD, hRP, hCD, hsep, hOb, hOd, hdb, hPb, hPd, hPO⟩ := hC
  have HNE := Lib.hid hne
  have HOB := Lib.hid hOb
  have HOD := Lib.hid hOd
  have HCC := Lib.hid hCC
  have HRP := Lib.hid hRP
  have HCD := Lib.hid hCD
  have HSEP := Lib.hid hsep
  have HPB := Lib.hid hPb
  have HPD := Lib.hid hPd
  have HPO := Lib.hid hPO
  obtain ⟨c0, c1, c2, c3, c4, c5, c6, c7, c8, c9, c10⟩ := cc_cells hO hCC
  have HO := Lib.hid hO
  obtain ⟨hHd, hWhs, hgs, hlsN, hL0, j, hj, hRj, hDR⟩ := id hrt
  have HHD := Lib.hid hHd
  have hnow := hDR.now
  have HST := dstepc_any d rb N ls now false v l dr sp p w hD hR hs (fun k hk e => hne k hk (by rw [e]; exact hOd)) hlsN (Or.inl hnow)
  have HDS := RtC.len (most := most) h3 hrt hq
  have HRD : Hid (∀ k, k = d ∨ k = rb → O k ∨ k = rb) := Lib.hid (fun k hk => hk.imp (fun e => by rw [e]; exact hOd) id)
  generalize hod : DelM.dstep ((bitsOf l).drop (p - 8 * dr)) ls now false = D at *
  have HSTH := Lib.hid HST
  have HDSH := Lib.hid HDS
  have HL0 := Lib.hid hL0
  have hrb : Hid (¬ O rb) := Lib.hid (hne rb (Or.inl rfl))
  have hgs6 : gs.length < 6 := by have := hHd.2.2.1; omega
  have hpl : ps.length ≤ 32767 := hHd.2.2.2.2.2.1
  have HPL := Lib.hid hpl
  have HG6 := Lib.hid hgs6
  unfold ptr at c6
  clear hne hOb hOd hCC hRP hCD hsep hPb hPd hPO hO hD hR HST HDS hod hq hrt hHd hWhs hRj hDR hL0 hj hnow c0 c1 c2 c3 c4 c5 c7 c8 c9 c10 hpl hgs6
  go_enter Tryz.func227, Tryz.ntmps227
  go_wp2_with fail
  refine HSTH.out.mono ?_
  rintro e w1 ⟨rfl, hd1, hr1, ht1⟩
  have hO1 := HO.out.other ht1 (by
    rintro (e | e)
    · exact hdb e.symm
    · exact hrb.out (e ▸ HOB.out))
  have hPn : ∀ k, Pb k → ¬ (k = d ∨ k = rb) := fun k hk e => by
    rcases e with e | e
    · exact HPD.out (e ▸ hk)
    · exact hrb.out (e ▸ (HPO.out k hk).1)
  have HO1 := Lib.hid hO1
  have HR1 := Lib.hid hr1
  have HRP1 := Lib.hid (HRP.out.other ht1 hPn)
  have HCD1 := Lib.hid (HCD.out.other ht1 hPn)
  have HT1 : Hid (Touch (fun k => O k ∨ k = rb) w w1) := Lib.hid (ht1.mono HRD.out)
  have HD1 := Lib.hid hd1
  have hbw : b < w.heap.size := HO.out.lt
  have hsz1 := Lib.hid ht1.size
  clear hd1 hr1 ht1 HSTH c6 hPn HRP HCD
  rcases HDSH.out with ⟨e1, e2, e3, e4, e5, e6⟩ | ⟨e1, e3, e4, e5⟩ | ⟨e1, e2⟩
  · have HE4 := Lib.hid e4
    have HE3 := Lib.hid e3
    have HE5 := Lib.hid e5
    rw [e2] at HD1
    rw [e1]
    obtain ⟨_, _, _, _, _, _, d6, _, _, _, _⟩ := cc_cells HO1.out HCC.out
    unfold ptr at d6
    have HE6 := Lib.hid e6
    clear e1 e2 e3 e4 e5 e6 HDSH hO1
    by_cases hlt : D.ls.length < N
    · have HDN := Lib.hid (ddone_any d N D.ls D.now false false w1 HD1.out ⟨fun e => (by cases e), fun e => by omega⟩)
      have hrt2 : RtC Q N most (a + D.used) L (.len t ps gs D.ls D.now) := by
        rcases HE6.out with ⟨_, h⟩ | ⟨h, _⟩ | ⟨h, _⟩ | ⟨h, _⟩
        · exact h
        · omega
        · omega
        · omega
      have HRT := Lib.hid hrt2
      clear hrt2 HE6 hlt
      go_wp2_with fail
      refine HDN.out.mono ?_
      rintro e w3 ⟨rfl, m3, hw3⟩
      have hT3 : Touch (fun _ => False) w1 w3 := by rw [hw3]; exact touch_drewN _ _ m3
      have HO3 := Lib.hid (HO1.out.other hT3 id)
      have HD3 := Lib.hid (HD1.out.other hT3 id)
      have HR3 := Lib.hid (HR1.out.other hT3 (fun _ _ h => h))
      have HRP3 := Lib.hid (HRP1.out.other hT3 (fun _ _ h => h))
      have HCD3 := Lib.hid (HCD1.out.other hT3 (fun _ _ h => h))
      have HT3 : Hid (Touch (fun k => O k ∨ k = rb) w w3) := Lib.hid (cd_tr HT1.out (hT3.mono (fun _ h => absurd h id)))
      have hs3 := Lib.hid hT3.size
      clear hw3 hT3
      go_wp2_with fail
      go_ret2
      refine ⟨-1, 0, D.used, fun k => k = b ∨ k = d ∨ Pb k, rfl, HR3.out, HT3.out, fun k hk => ?_, HE4.out, Or.inl ⟨rfl, HE3.out, .len t ps gs D.ls D.now, ⟨F, Pb, d, pu, cu, HO3.out, HCC.out, HD3.out, HRP3.out, HCD3.out, HSEP.out, Or.inl rfl, Or.inr (Or.inl rfl), hdb, HPB.out, HPD.out, fun k hk => ⟨Or.inr (Or.inr hk), by have h1 := (HPO.out k hk).2; have h2 := hsz1.out; have h3 := hs3.out; omega⟩⟩, Or.inl ⟨rfl, rfl, HRT.out, by rw [HL0.out]; rfl⟩⟩⟩
      rcases hk with rfl | rfl | hk
      · exact Or.inl HOB.out
      · exact Or.inl HOD.out
      · exact Or.inl (HPO.out k hk).1
    · have hN : D.ls.length = N := by have := HE5.out; omega
      have HN := Lib.hid hN
      have HDN := Lib.hid (ddone_any d N D.ls D.now false true w1 HD1.out ⟨fun _ => hN, fun _ => rfl⟩)
      have h3l : 3 ≤ D.ls.length := by omega
      have h258l : D.ls.length ≤ 258 := by omega
      clear hN hlt
      go_wp2_with fail
      refine HDN.out.mono ?_
      rintro e w3 ⟨rfl, m3, hw3⟩
      have hT3 : Touch (fun _ => False) w1 w3 := by rw [hw3]; exact touch_drewN _ _ m3
      have HO3 := Lib.hid (HO1.out.other hT3 id)
      have HD3 := Lib.hid (HD1.out.other hT3 id)
      have HR3 := Lib.hid (HR1.out.other hT3 (fun _ _ h => h))
      have HRP3 := Lib.hid (HRP1.out.other hT3 (fun _ _ h => h))
      have HCD3 := Lib.hid (HCD1.out.other hT3 (fun _ _ h => h))
      have HT3 : Hid (Touch (fun k => O k ∨ k = rb) w w3) := Lib.hid (cd_tr HT1.out (hT3.mono (fun _ h => absurd h id)))
      obtain ⟨_, _, _, _, _, _, k6, _, _, _, _⟩ := cc_cells HO3.out HCC.out
      unfold ptr at k6
      have HLN := Lib.hid (dlens_any d N D.ls D.now false w3 HD3.out)
      clear hw3 hT3 d6 HDN HO1 HD1 HR1 HRP1 HCD1
      go_wp2_with fail
      refine HLN.out.mono ?_
      rintro e w4 ⟨vL, rfl, hOL, hB4⟩
      have HIL := Lib.hid hOL.ints
      have hT4 : Touch (fun _ => False) w3 w4 := Touch.ofBelow hB4
      have HO4 := Lib.hid (HO3.out.other hT4 id)
      have HR4 := Lib.hid (HR3.out.other hT4 (fun _ _ h => h))
      have HRP4 := Lib.hid (HRP3.out.other hT4 (fun _ _ h => h))
      have HCD4 := Lib.hid (HCD3.out.other hT4 (fun _ _ h => h))
      have HT4 : Hid (Touch (fun k => O k ∨ k = rb) w w4) := Lib.hid (cd_tr HT3.out (hT4.mono (fun _ h => absurd h id)))
      clear hOL hB4 hT4 HLN k6 HO3 HD3 HR3 HRP3 HCD3 HT3
      by_cases hwh : WholeP D.ls
      · have HWH := Lib.hid hwh
        have HNY := Lib.hid (new_yes vL D.ls w4 HIL.out h3l h258l hwh)
        clear hwh
        go_wp2_with fail
        refine HNY.out.mono ?_
        rintro e w5 ⟨rfl, hcode, hB5⟩
        have hT5 : Touch (fun _ => False) w4 w5 := Touch.ofBelow hB5
        have HO5 := Lib.hid (HO4.out.other hT5 id)
        have HR5 := Lib.hid (HR4.out.other hT5 (fun _ _ h => h))
        have HRP5 := Lib.hid (HRP4.out.other hT5 (fun _ _ h => h))
        have hCD5 := HCD4.out.other hT5 (fun _ _ h => h)
        have HT5 : Hid (Touch (fun k => O k ∨ k = rb) w w5) := Lib.hid (cd_tr HT4.out (hT5.mono (fun _ h => absurd h id)))
        have HCODE := Lib.hid hcode
        obtain ⟨bs, base, q1, q2, q3, q4, q5⟩ := hCD5
        have HQ1 := Lib.hid q1
        have HQ2 := Lib.hid q2
        have HQ3 := Lib.hid q3
        have HQ4 := Lib.hid q4
        have HQ5 := Lib.hid q5
        obtain ⟨aC, cC, eC⟩ := q1.slice
        subst eC
        obtain ⟨cb, hcb⟩ : ∃ cb, w4.heap.size = cb := ⟨_, rfl⟩
        have HCB := Lib.hid hcb
        rw [hcb] at HCODE ⊢
        have hcl : Hid (cb < w5.heap.size) := Lib.hid (by obtain ⟨F9, h9, _⟩ := HCODE.out; exact (Array.getElem?_eq_some_iff.1 h9).1)
        have hcw : Hid (w.heap.size ≤ cb) := Lib.hid (by have := HT4.out.size; omega)
        have hbs6 : bs.length + 1 ≤ 1000000 := by have := HG6.out; omega
        obtain ⟨_, _, _, _, _, _, _, m7, _, _, _⟩ := cc_cells HO5.out HCC.out
        have m7f := (HO5.out.cell (i := 7) (by omega)).2
        clear hcode hB5 hT5 q1 q2 q3 q4 q5 hcb HO4 HR4 HRP4 HCD4 HT4 HNY
        go_wp2_with (at_builtin; refine push_pc w5 rfl _ _ rfl base _ bs cb HQ1.out rfl rfl hbs6 HQ3.out ?_)
        intro v6 w6 hO6 hB6 hsame hfr
        have hT6 : Touch (fun k => (Value.slice aC bs.length cC).ownBlock = some k) w5 w6 := ⟨hB6.os, hB6.tape, hB6.output, hB6.size, fun k hk hn => hsame k hk hn⟩
        have hcuP : ∀ k, Pb k → k < w.heap.size := fun k hk => (HPO.out k hk).2
        have HO6 := Lib.hid (HO5.out.other hT6 (fun e => HPB.out (HQ4.out b e)))
        have HR6 := Lib.hid (HR5.out.other hT6 (fun k hk e => HNE.out k hk (HPO.out k (HQ4.out k e)).1))
        have HRP6 : Hid (RowP w6 Pb pu (PkM.toI ps)) := Lib.hid ⟨HRP5.out.1.other hT6 (fun k hk e => HSEP.out k e hk), HRP5.out.2⟩
        have HCD6 : Hid (Codes w6 (fun k => Pb k ∨ k = cb ∨ v6.ownBlock = some k) v6 (gs ++ [D.ls])) := Lib.hid (codes_pushed (W := w5) hO6 HQ2.out (Nat.le_trans HQ3.out hT6.size) hT6.size hfr (fun i hi => by
          obtain ⟨a1, a2, a3, a4⟩ := HQ5.out i hi
          exact ⟨a1.other hT6 a3, a2, a3, a4⟩) (HCODE.out.other hT6 (fun e => by have h1 := hcuP cb (HQ4.out cb e); have h2 := hcw.out; omega)) hcl.out (fun e => by have h1 := hcuP cb (HQ4.out cb e); have h2 := hcw.out; omega))
        have HT6 : Hid (Touch (fun k => O k ∨ k = rb) w w6) := Lib.hid (cd_tr HT5.out (hT6.mono (fun k hk => Or.inl (HPO.out k (HQ4.out k hk)).1)))
        have HFR : Hid (∀ k, v6.ownBlock = some k → (O k ∨ w.heap.size ≤ k) ∧ k < w6.heap.size ∧ k ≠ b ∧ pu.ownBlock ≠ some k) := Lib.hid (fun k hk => by
          have h5 := (hO6.lt k hk).2
          have h6 : w.heap.size ≤ w5.heap.size := HT5.out.size
          rcases hfr k hk with e | e
          · exact ⟨Or.inl (HPO.out k (HQ4.out k e)).1, h5, fun e2 => HPB.out (e2 ▸ HQ4.out k e), HSEP.out k e⟩
          · exact ⟨Or.inr (by omega), h5, by omega, fun e2 => by have := hcuP k (HRP5.out.2 k e2); omega⟩)
        obtain ⟨a6, c6, e6⟩ := hO6.slice
        have hbl : (bs ++ [cb]).length = gs.length + 1 := by rw [List.length_append, HQ2.out]; rfl
        rw [hbl] at e6
        subst e6
        have hs56 := Lib.hid hT6.size
        obtain ⟨_, _, _, _, _, _, _, n7, _, _, _⟩ := cc_cells HO6.out HCC.out
        have n7f := (HO6.out.cell (i := 7) (by omega)).2
        have HO7 := Lib.hid (HO6.out.set 7 (.slice a6 (gs.length + 1) c6))
        have HC7 := Lib.hid (HCC.out.s_cu (.slice a6 (gs.length + 1) c6))
        obtain ⟨o0, _, _, _, _, _, _, _, o8, _, _⟩ := cc_cells HO7.out HC7.out
        have o8f := (HO7.out.cell (i := 8) (by omega)).2
        clear hO6 hB6 hsame hfr hT6 hcuP hbl m7 m7f HO5 HR5 HRP5 HT5 HCODE HQ1
        go_wp2_with fail
        generalize hw7 : w6.setCell ⟨b, 7, none⟩ (.slice a6 (gs.length + 1) c6) = w7 at *
        have hT7 : Touch (· = b) w6 w7 := by rw [← hw7]; exact touch_cell (Touch.refl _ _)
        have HT67 := Lib.hid hT7
        have hheld : (((ps.length + gs.length * N : Nat)) : Int) + (N : Int) = ((ps.length + (gs.length + 1) * N : Nat) : Int) := by
          rw [Nat.add_mul, Nat.one_mul]
          omega
        have HHELD := Lib.hid hheld
        have hbnd : ps.length + gs.length * N ≤ 40000 := by
          have h1 := HPL.out
          have h2 := HG6.out
          have h4 : gs.length * N ≤ 6 * 258 := Nat.mul_le_mul (by omega) h258
          omega
        obtain ⟨HV, hHV⟩ : ∃ HV, ps.length + gs.length * N = HV := ⟨_, rfl⟩
        rw [hHV] at o8 hbnd HHELD
        clear hw7 hT7 n7 n7f hheld
        go_region
        have HO8 : Hid (ObjF 11 101 ((w7.setCell ⟨b, 8, none⟩ (.int .i64 ((HV : Int) + (N : Int)))).drew) b (upd (upd F 7 (.slice a6 (gs.length + 1) c6)) 8 (.int .i64 ((HV : Int) + (N : Int))))) := Lib.hid ((HO7.out.set 8 _).drewN 1)
        have HC8 : Hid (CC (upd (upd F 7 (.slice a6 (gs.length + 1) c6)) 8 (.int .i64 ((HV : Int) + (N : Int)))) N (mth 227 b) 0 (.pointer none) t pu (ptr d) (.slice a6 (gs.length + 1) c6) (ps.length + (gs.length + 1) * N) 0 false) := Lib.hid (by
          rw [HHELD.out]
          exact HC7.out.s_held _)
        have hT8 : Touch (· = b) w6 ((w7.setCell ⟨b, 8, none⟩ (.int .i64 ((HV : Int) + (N : Int)))).drew) := (touch_cell HT67.out).trans (touch_drewN (· = b) _ 1) (fun _ h => Or.inl h)
        have HT8 := Lib.hid hT8
        have hnP : ∀ k, (Pb k ∨ k = cb ∨ (Value.slice a6 (gs.length + 1) c6).ownBlock = some k) → k ≠ b := fun k hk e => by
          rcases hk with h | h | h
          · exact HPB.out (e ▸ h)
          · have h1 := hcw.out; omega
          · exact (HFR.out k h).2.2.1 e
        have HNP := Lib.hid hnP
        have HRP8 := Lib.hid (HRP6.out.other hT8 (fun k hk e => HPB.out ((show k = b from e) ▸ hk)))
        have HCD8 := Lib.hid (HCD6.out.other hT8 (fun k hk e => hnP k hk e))
        have HR8 := Lib.hid (HR6.out.other hT8 (fun k hk e => HNE.out k hk (by rw [show k = b from e]; exact HOB.out)))
        have HTT8 := Lib.hid (cd_tr HT6.out (cd_b hT8 HOB.out))
        clear o0 o8 o8f hT8 hnP HO7 HC7 HT67 HRP6 HCD6 HR6
        generalize (w7.setCell ⟨b, 8, none⟩ (.int .i64 ((HV : Int) + (N : Int)))).drew = w8 at *
        have HNL : Hid (∀ k, (Pb k ∨ k = cb ∨ (Value.slice a6 (gs.length + 1) c6).ownBlock = some k) → (O k ∨ w.heap.size ≤ k) ∧ k < w8.heap.size) := Lib.hid (fun k hk => by
          have s1 := HT8.out.size
          have s2 := hs56.out
          have s3 : w.heap.size ≤ w6.heap.size := HT6.out.size
          rcases hk with h | h | h
          · have h1 := HPO.out k h
            exact ⟨Or.inl h1.1, by omega⟩
          · have h1 := hcl.out
            have h2 := hcw.out
            exact ⟨Or.inr (by omega), by omega⟩
          · have h1 := HFR.out k h
            exact ⟨h1.1, by omega⟩)
        have hgl : (gs ++ [D.ls]).length = gs.length + 1 := by rw [List.length_append]; rfl
        have HGL := Lib.hid hgl
        clear hgl
        have hcase : (gs.length + 1 ≠ t ∧ RtC Q N most (a + D.used) L (.len t ps (gs ++ [D.ls]) [] 0)) ∨ (gs.length + 1 = t ∧ RtC Q N most (a + D.used) L (.sym t ps (gs ++ [D.ls]) 0 false)) := by
          have hN := HN.out
          have hW := HWH.out
          rcases HE6.out with ⟨h, _⟩ | ⟨_, h, _⟩ | ⟨_, _, h, h2⟩ | ⟨_, _, h, h2⟩
          · omega
          · exact absurd hW h
          · exact Or.inl ⟨by omega, h2⟩
          · exact Or.inr ⟨h, h2⟩
        rcases hcase with ⟨hmt, hrt2⟩ | ⟨hmt, hrt2⟩
        · have HRT := Lib.hid hrt2
          clear hrt2 HE6
          go_wp2_with fail
          refine (cbegin_len b _ N _ _ t a6 (gs.length + 1) c6 _ _ _ _ w8 HO8.out HC8.out hmt h3 h258).mono ?_
          rintro e w9 ⟨rfl, ⟨F9, hO9, hC9⟩, hD9, hT9⟩
          have HO9 := Lib.hid hO9
          have HC9 := Lib.hid hC9
          have HD9 := Lib.hid hD9
          have HT9 := Lib.hid hT9
          clear hO9 hC9 hD9 hT9
          go_wp2_with fail
          go_ret2
          have hb8 : b < w8.heap.size := HO8.out.lt
          have hs9 := HT9.out.size
          have hs89 : w.heap.size ≤ w8.heap.size := HTT8.out.size
          refine ⟨-1, 0, D.used, fun k => k = b ∨ k = w8.heap.size ∨ (Pb k ∨ k = cb ∨ (Value.slice a6 (gs.length + 1) c6).ownBlock = some k), rfl, HR8.out.other HT9.out (fun k hk e => HNE.out k hk (by rw [show k = b from e]; exact HOB.out)), cd_tr HTT8.out (cd_b HT9.out HOB.out), fun k hk => ?_, HE4.out, Or.inl ⟨rfl, HE3.out, .len t ps (gs ++ [D.ls]) [] 0, ⟨F9, fun k => (Pb k ∨ k = cb ∨ (Value.slice a6 (gs.length + 1) c6).ownBlock = some k), w8.heap.size, pu, .slice a6 (gs.length + 1) c6, HO9.out, ?_, HD9.out, (HRP8.out.other HT9.out (fun k hk e => HPB.out ((show k = b from e) ▸ hk))).mono (fun k hk => Or.inl hk), HCD8.out.other HT9.out (fun k hk e => HNP.out k hk e), fun k hk => (HFR.out k hk).2.2.2, Or.inl rfl, Or.inr (Or.inl rfl), by omega, fun h => HNP.out b h rfl, fun h => by have h1 := (HNL.out _ h).2; omega, fun k hk => ⟨Or.inr (Or.inr hk), by have h1 := (HNL.out k hk).2; omega⟩⟩, Or.inl ⟨rfl, rfl, HRT.out, by rw [HL0.out]; rfl⟩⟩⟩
          · rcases hk with rfl | rfl | hk
            · exact Or.inl HOB.out
            · exact Or.inr hs89
            · exact (HNL.out k hk).1
          · rw [HGL.out]
            exact HC9.out
        · have HRT := Lib.hid hrt2
          clear hrt2 HE6
          subst hmt
          go_wp2_with fail
          refine (cbegin_sym b _ N _ _ (gs.length + 1) a6 c6 _ _ _ _ w8 HO8.out HC8.out).mono ?_
          rintro e w9 ⟨rfl, ⟨F9, hO9, hC9⟩, hT9⟩
          have HO9 := Lib.hid hO9
          have HC9 := Lib.hid hC9
          have HT9 := Lib.hid hT9
          clear hO9 hC9 hT9
          go_wp2_with fail
          go_ret2
          have hs9 := HT9.out.size
          refine ⟨-1, 0, D.used, fun k => k = b ∨ (Pb k ∨ k = cb ∨ (Value.slice a6 (gs.length + 1) c6).ownBlock = some k), rfl, HR8.out.other HT9.out (fun k hk e => HNE.out k hk (by rw [show k = b from e]; exact HOB.out)), cd_tr HTT8.out (cd_b HT9.out HOB.out), fun k hk => ?_, HE4.out, Or.inl ⟨rfl, HE3.out, .sym (gs.length + 1) ps (gs ++ [D.ls]) 0 false, ⟨F9, fun k => (Pb k ∨ k = cb ∨ (Value.slice a6 (gs.length + 1) c6).ownBlock = some k), pu, .slice a6 (gs.length + 1) c6, HO9.out, ?_, (HRP8.out.other HT9.out (fun k hk e => HPB.out ((show k = b from e) ▸ hk))).mono (fun k hk => Or.inl hk), HCD8.out.other HT9.out (fun k hk e => HNP.out k hk e), Or.inl rfl, fun h => HNP.out b h rfl, fun k hk => ⟨Or.inr hk, by have h1 := (HNL.out k hk).2; omega⟩⟩, Or.inl ⟨rfl, rfl, HRT.out, by rw [HL0.out]; rfl⟩⟩⟩
          · rcases hk with rfl | hk
            · exact Or.inl HOB.out
            · exact (HNL.out k hk).1
          · rw [HGL.out]
            exact HC9.out
      · have HNT := Lib.hid (new_table vL D.ls w4 HIL.out h3l h258l hwh)
        have hre : rdC Q N most = .err 22 L := by
          have hN := HN.out
          rcases HE6.out with ⟨h, _⟩ | ⟨_, _, h⟩ | ⟨_, h, _⟩ | ⟨_, h, _⟩
          · omega
          · exact h
          · exact absurd h hwh
          · exact absurd h hwh
        have HRE := Lib.hid hre
        clear hwh hre HE6
        go_wp2_with fail
        refine HNT.out.mono ?_
        rintro e w5 ⟨rfl, rfl⟩
        go_wp2_with fail
        go_ret2
        exact ⟨0, 22, D.used, fun k => k = b, rfl, HR4.out, HT4.out, fun k hk => Or.inl (by rw [hk]; exact HOB.out), HE4.out, Or.inr (Or.inl ⟨by decide, by decide, rfl, ⟨F, _, _, _, _, _, _, _, _, _, HO4.out, HCC.out, rfl⟩, HRE.out⟩)⟩
  · have HE5 := Lib.hid e5
    have HE3 := Lib.hid e3
    rw [e1]
    clear e1 e3 e4 e5 HDSH hO1
    go_wp2_with fail
    go_ret2
    exact ⟨0, 22, D.used, fun k => k = b, rfl, HR1.out, HT1.out, fun k hk => Or.inl (by rw [hk]; exact HOB.out), HE3.out, Or.inr (Or.inl ⟨by decide, by decide, rfl, ⟨F, _, _, _, _, _, _, _, _, _, HO1.out, HCC.out, rfl⟩, HE5.out⟩)⟩
  · have HE2 := Lib.hid e2
    subst e1
    clear e2 HDSH hO1
    go_wp2_with fail
    go_ret2
    refine ⟨0, 3, 0, fun k => k = b ∨ k = d ∨ Pb k, rfl, HR1.out, HT1.out, fun k hk => ?_, Nat.zero_le _, Or.inr (Or.inr ⟨rfl, rfl, rfl, ⟨F, Pb, d, pu, cu, HO1.out, HCC.out, HD1.out, HRP1.out, HCD1.out, HSEP.out, Or.inl rfl, Or.inr (Or.inl rfl), hdb, HPB.out, HPD.out, fun k hk => ⟨Or.inr (Or.inr hk), by have h1 := (HPO.out k hk).2; have h2 := hsz1.out; omega⟩⟩, HE2.out⟩)⟩
    rcases hk with rfl | rfl | hk
    · exact Or.inl HOB.out
    · exact Or.inl HOD.out
    · exact Or.inl (HPO.out k hk).1
end Go.Proofs.YtojphcoghbiepaaGreatDoor
namespace Go.Proofs.YtojphcoghbiepaaGreatDoor
open Go.RowKit BitM HufM CanM CodM TabM FreqM
set_option linter.unusedVariables false
/-! ### Rows that lie in blocks of their own -/
theorem cell_row_nil {w : World} {b i : Nat} {old : Array Value} {t : TypeId} {fr : Nat × Nat} (h : w.heap[b]? = some (.cells old t fr)) : (w.setRow b #[]).cell? ⟨b, i, none⟩ = none := by
  rw [cell_of_row _ _ _ _ _ _ (setRow_heap _ _ _ _ _ _ h)]
  rfl
theorem cells_of_cell {w : World} {b i : Nat} {x : Value} (h : w.cell? ⟨b, i, none⟩ = some x) : ∃ cs t fr, w.heap[b]? = some (.cells cs t fr) := by
  unfold World.cell? at h
  split at h
  · rename_i c t fr he
    exact ⟨c, t, fr, he⟩
  · cases h
theorem touch_nilrow {w : World} {A b : Nat} (hb : b < A) : Touch (· < A) w (w.setRow b #[]) :=
  ⟨rfl, rfl, rfl, by rw [setRow_size]; exact Nat.le_refl _, fun k _ hk => setRow_other w b k #[] (fun e => hk (by rw [e]; exact hb))⟩
theorem ChB.row {w w2 : World} {B : Nat} {vL vP : Value} {gs : List (List Int)} {ps : List Int} (h : ChB w w2 B vL vP gs ps) {k : Nat} (hk : k < gs.length) (hne : 1 ≤ (rw_ gs k).length) :
    ∃ b off cap u, vL = .slice (some ⟨b, off, none⟩) gs.length cap ∧ ∀ W, Touch (· < w.heap.size) w2 W → W.cell? ⟨b, off + k, none⟩ = some u ∧ IsInts W u (rw_ gs k) := by
  obtain ⟨b, off, cap, u, hv, d, hI⟩ := (h.rows w2 (Touch.refl _ _)).1.at_ hk
  have hb : ¬ b < w.heap.size := fun hlt => by
    obtain ⟨cs, t, fr, hg⟩ := cells_of_cell d
    obtain ⟨b', off', cap', u', hv', d', _⟩ := (h.rows _ (touch_nilrow (w := w2) hlt)).1.at_ hk
    rw [hv] at hv'
    simp only [Value.slice.injEq, Option.some.injEq, Addr.mk.injEq] at hv'
    obtain ⟨⟨rfl, rfl, _⟩, _, rfl⟩ := hv'
    rw [cell_row_nil hg] at d'
    cases d'
  have hcell : ∀ W, Touch (· < w.heap.size) w2 W → W.cell? ⟨b, off + k, none⟩ = some u := fun W hW => by
    rw [World.cell?_of_block (w := w2) (a := ⟨b, off + k, none⟩) (hW.block b (cell_lt d) hb)]
    exact d
  refine ⟨b, off, cap, u, hv, fun W hW => ⟨hcell W hW, hI.other hW (fun j hj hlt => ?_)⟩⟩
  obtain ⟨au, cu, rfl, hc⟩ := hI
  obtain ⟨x, hx⟩ : ∃ x, (rw_ gs k)[0]? = some x := ⟨_, List.getElem?_eq_getElem hne⟩
  obtain ⟨bu, ou, rfl, hcu⟩ := hc 0 x hx
  have hju : j = bu := (Option.some.inj hj).symm
  subst hju
  obtain ⟨cs, t, fr, hg⟩ := cells_of_cell hcu
  have hlt2 : j < w.heap.size := hlt
  have hT := touch_nilrow (w := w2) hlt2
  obtain ⟨b', off', cap', u', hv', d', hI'⟩ := (h.rows _ hT).1.at_ hk
  rw [hv] at hv'
  simp only [Value.slice.injEq, Option.some.injEq, Addr.mk.injEq] at hv'
  obtain ⟨⟨rfl, rfl, _⟩, _, rfl⟩ := hv'
  have d2 := hcell _ hT
  rw [d'] at d2
  obtain rfl := Option.some.inj d2
  obtain ⟨a2, c2, e2, hc2⟩ := hI'
  simp only [Value.slice.injEq] at e2
  obtain ⟨rfl, _, rfl⟩ := e2
  obtain ⟨b3, o3, e3, h3⟩ := hc2 0 x hx
  simp only [Option.some.injEq, Addr.mk.injEq] at e3
  obtain ⟨rfl, rfl, _⟩ := e3
  rw [cell_row_nil hg] at h3
  cases h3
/-- Behind k tables. -/
def Lp1 (w2 wr : World) (g : Nat) (v : Value) (tk : Nat) (q : List Bool) (cu : Value) (gs : List (List Int)) : Prop :=
  ∃ v1 Pb, IsWriter wr g v1 q tk ∧ Touch (foot g v) w2 wr ∧ (∀ j, v1.ownBlock = some j → v.ownBlock = some j ∨ w2.heap.size ≤ j) ∧ Codes wr Pb cu gs ∧ ∀ j, Pb j → w2.heap.size ≤ j ∧ j < wr.heap.size ∧ ¬ foot g v1 j
set_option maxRecDepth 100000 in
set_option maxHeartbeats 8000000 in
theorem cwrite_any (g : Nat) (v : Value) (q0 : List Bool) (tk : Nat) (a : Option Addr) (len c : Nat) (zs : List Int) (N : Nat) (w : World) (hw : IsWriter w g v q0 tk) (hI : IsInts w (.slice a len c) zs) (hlen : zs.length = len) (hz : len ≤ 1000) (hc : len ≤ c) (hc2 : c ≤ 9223372036854775807) (hB : Bnds w) (hm : May14 zs (N : Int))
    (hrow : ∀ k, (Value.slice a len c).ownBlock = some k → ¬ foot g v k) (hq : q0.length ≤ 1000000) :
    Calls Tryz.prog 51 #[.pointer (some ⟨g, 0, none⟩), .slice a len c, .int .i64 (N : Int)] w fun e w' => e = .returned (.int .i64 0) ∧ Wrote w g v tk (q0 ++ allC (rnd zs N 4) (pks zs N) zs) w' := by
  have HC := Lib.hid (choice_any a len c zs N w hI hlen hz hc hc2 hB hm)
  have hi := info_ch14
  have h3 : 3 ≤ N := by have := hm.1; omega
  have h258 : N ≤ 258 := by have := hm.2.1; omega
  have hz2 : zs.length ≤ 1000 := by omega
  have HPK := Lib.hid (hm.pk hz2)
  have HWH := Lib.hid (hm.whs hz2)
  have HTB := Lib.hid (hm.tbs hz2)
  have HSY : Hid (Syms zs (N : Int)) := Lib.hid hm.2.2.2.1
  have hT6 : (rnd zs N 4).length ≤ 6 := HPK.out.2.1
  have hpl : (pks zs N).length ≤ 32767 := HPK.out.2.2.2.1
  have hpb : (PkM.allB (pks zs N) (rnd zs N 4).length).length ≤ 200000 := by
    rw [PkM.allB_length, ← PkM.encK_all _ _ (Nat.le_refl _)]
    have := PkM.encK_len (pks zs N) hT6 (fun x hx => pks_lt x hx) _ (Nat.le_refl _)
    omega
  rw [pks_toI] at HC
  have HI := Lib.hid hI
  have HLEN := Lib.hid hlen
  have HROW := Lib.hid hrow
  have HW := Lib.hid hw
  clear hI hB hm hrow hw
  generalize rnd zs N 4 = gs at *
  generalize hps : pks zs N = ps at *
  clear hps
  have HSL : Hid (∀ i, i ≤ len → (symB gs ps zs i).length ≤ 20000) := Lib.hid (fun i hi => by
    have := (symT_ge HTB.out (zs.take i) 0 (fun x hx => HSY.out x (List.mem_of_mem_take hx)) (by rw [List.length_take]; omega)).2
    rw [List.length_take] at this
    unfold symB
    omega)
  have HGB : Hid (∀ k, (gsB (gs.take k)).length ≤ 60600 ∧ (k < gs.length → gsB (gs.take (k + 1)) = gsB (gs.take k) ++ DelM.allB (rw_ gs k) ∧ DelM.May (rw_ gs k) ∧ (rw_ gs k).length = N ∧ WholeP (rw_ gs k) ∧ gs.take (k + 1) = gs.take k ++ [rw_ gs k])) := Lib.hid (fun k => ⟨by
    have := gsB_len h3 h258 (gs.take k) (fun g hg => HWH.out g (List.mem_of_mem_take hg))
    rw [List.length_take] at this
    omega, fun hk => by
      have hmem : rw_ gs k ∈ gs := by unfold rw_; rw [List.getD_eq_getElem?_getD, List.getElem?_eq_getElem hk]; exact List.getElem_mem hk
      obtain ⟨k1, k2⟩ := HWH.out _ hmem
      refine ⟨gsB_succ gs hk, ⟨by omega, by omega, k2.1⟩, k1, k2, ?_⟩
      rw [List.take_succ_eq_append_getElem hk]
      unfold rw_
      rw [List.getD_eq_getElem?_getD, List.getElem?_eq_getElem hk]
      rfl⟩)
  go_enter Tryz.func51, Tryz.ntmps51
  go_wp2_with fail
  refine HC.out.mono ?_
  rintro e w1 ⟨vL, vP, rfl, hk, hb⟩
  have HCB := Lib.hid (ChB.of hb hk)
  obtain ⟨⟨aL, cL, rfl, _⟩, ⟨aP, cP, rfl, _⟩⟩ := hk w1 (fun _ _ _ => rfl) (Nat.le_refl _)
  obtain ⟨T, hT⟩ : ∃ T, gs.length = T := ⟨_, rfl⟩
  obtain ⟨M, hM⟩ : ∃ M, (PkM.toI ps).length = M := ⟨_, rfl⟩
  have HT := Lib.hid hT
  have HM := Lib.hid hM
  rw [hT, hM] at HCB
  rw [hT] at hT6 hpb
  clear hk hb
  obtain ⟨B, hBB⟩ : ∃ B, w1.heap.size = B := ⟨_, rfl⟩
  rw [hBB] at HCB
  have CCH := Lib.hid (fun W (hW : Touch (· < w.heap.size) _ W) => HCB.out.cells hW)
  rw [hT, hM]
  have hsz2 : (w1.alloc (.cells #[.slice aL T cL, .slice aP M cP] 144)).heap.size = B + 1 := by simp [hBB]
  have HSZ2 := Lib.hid hsz2
  have HW2 := Lib.hid (HW.out.other (S := fun _ => False) (Touch.ofBelow HCB.out.bel) (fun _ _ h => h))
  have HFT : Hid (∀ k, foot g v k → k < w.heap.size) := Lib.hid (fun k hk => (HW.out.lt k hk).1)
  have HPB := Lib.hid (pwrite_any g v (.slice aP M cP) ps T q0 tk (w1.alloc (.cells #[.slice aL T cL, .slice aP M cP] 144)) HW2.out (fun W hW => (HCB.out.rows W (hW.mono HFT.out)).2) (by rw [← HT.out]; exact HPK.out) (by omega))
  clear hsz2 HC
  go_wp2_with fail
  refine HPB.out.mono ?_
  rintro e w3 ⟨rfl, hw3⟩
  have HW3 := Lib.hid hw3
  generalize w1.alloc (.cells #[.slice aL T cL, .slice aP M cP] 144) = w2 at *
  clear HPB
  have hT3 : Touch (· < w.heap.size) w2 w3 := hw3.touch.mono HFT.out
  obtain ⟨c0, c1, _⟩ := CCH.out w3 hT3
  clear hw3 hT3 hM
  obtain ⟨q1, hq1⟩ : ∃ q1, q0 ++ PkM.allB ps T = q1 := ⟨_, rfl⟩
  have HQ1 := Lib.hid hq1
  have hq1l : q1.length ≤ 1200000 := by rw [← hq1, List.length_append]; omega
  rw [hq1] at HW3
  clear hq1
  go_wp2_with fail
  go_loopw [9, 37] (fun vc vk wr => ∃ (k : Nat), vk = .int .i64 (k : Int) ∧ k ≤ T ∧ Lp1 w2 wr g v tk (q1 ++ gsB (gs.take k)) vc (gs.take k)) (fun _ vk _ => T - (intOf vk).toNat)
  case atStart =>
    obtain ⟨v1, k1, k2, k3⟩ := HW3.out
    exact ⟨0, rfl, by omega, v1, fun _ => False, by simpa [gsB] using k1, k2, k3, Codes.nil _ _, fun _ h => absurd h id⟩
  case round =>
    clear c0 c1
    obtain ⟨k, rfl, hk, v1, Pb, hW, hTw, hown, hcs, hPb⟩ := hrel
    obtain ⟨hg1, hg2⟩ := HGB.out k
    by_cases hkT : k < T
    · have hki : (k : Int) < (T : Int) := by omega
      obtain ⟨hg3, hmay, hN, hwp, htk⟩ := hg2 (by rw [hT]; exact hkT)
      obtain ⟨b2, o2, cap2, u, he2, hrows⟩ := HCB.out.row (k := k) (by rw [hT]; exact hkT) (by omega)
      rw [hT] at he2
      simp only [Value.slice.injEq] at he2
      obtain ⟨rfl, he2b, rfl⟩ := he2
      have hTF : ∀ W, Touch (foot g v1) wr W → Touch (· < w.heap.size) w2 W := fun W hWW => (hTw.mono HFT.out).trans hWW (fun j hj => by
        rcases hj with rfl | hj
        · exact Or.inl (HFT.out _ (Or.inl rfl))
        · rcases hown j hj with h | h
          · exact Or.inl (HFT.out _ (Or.inr h))
          · exact Or.inr h)
      have d2 := (hrows wr (hTF wr (Touch.refl _ _))).1
      have HDW := Lib.hid (dwrite_any g v1 u (rw_ gs k) _ tk wr hW (fun W hWW => (hrows W (hTF W hWW)).2) hmay (by rw [List.length_append]; omega))
      have HTF := Lib.hid hTF
      have HRS := Lib.hid hrows
      have HOWN := Lib.hid hown
      have HCS := Lib.hid hcs
      have HPBB := Lib.hid hPb
      have HTW := Lib.hid hTw
      have HG3 := Lib.hid hg3
      have HTK := Lib.hid htk
      have HWP := Lib.hid hwp
      clear hW hTw hown hcs hPb hg2 he2b hTF hrows hg3 htk hmay hwp
      go_wp2_with fail
      refine HDW.out.mono ?_
      rintro e w4 ⟨rfl, v2, hW4, hT4, hO4⟩
      have HNW := Lib.hid (new_yes u (rw_ gs k) w4 (HRS.out w4 (HTF.out w4 hT4)).2 (by omega) (by omega) HWP.out)
      have HW4 := Lib.hid hW4
      have HT4 := Lib.hid hT4
      have HO4 := Lib.hid hO4
      clear hW4 hT4 hO4 HDW
      go_wp2_with fail
      refine HNW.out.mono ?_
      rintro e w5 ⟨rfl, hcode, hb5⟩
      have hT5 : Touch (fun _ => False) w4 w5 := Touch.ofBelow hb5
      have HT5 := Lib.hid hT5
      obtain ⟨bs, base, p1, p2, p3, p4, p5⟩ := (HCS.out.other HT4.out (fun j hj => (HPBB.out j hj).2.2)).other hT5 (fun _ _ h => h)
      have P1 := Lib.hid p1
      have P2 := Lib.hid p2
      have P3 := Lib.hid p3
      have P4 := Lib.hid p4
      have P5 := Lib.hid p5
      obtain ⟨aC, cC, eC⟩ := p1.slice
      subst eC
      obtain ⟨cb, hcb⟩ : ∃ cb, w4.heap.size = cb := ⟨_, rfl⟩
      have HCBB := Lib.hid hcb
      rw [hcb] at hcode ⊢
      have HCODE := Lib.hid hcode
      have hcl : Hid (cb < w5.heap.size) := Lib.hid (by obtain ⟨F9, h9, _⟩ := HCODE.out; exact (Array.getElem?_eq_some_iff.1 h9).1)
      have hcw : Hid (wr.heap.size ≤ cb) := Lib.hid (by have := HT4.out.size; omega)
      have hbs6 : bs.length + 1 ≤ 1000000 := by rw [p2, List.length_take]; omega
      clear hT5 hb5 p1 p2 p3 p4 p5 hcb hcode HNW
      go_wp2_with (at_builtin; refine push_pc w5 rfl _ _ rfl base _ bs cb P1.out rfl rfl hbs6 P3.out ?_)
      intro v6 w6 hO6 hB6 hsame hfr
      have HLP : Hid (Lp1 w2 w6 g v tk (q1 ++ gsB (gs.take (k + 1))) v6 (gs.take (k + 1))) := Lib.hid (by
        have hT6 : Touch (fun j => (Value.slice aC bs.length cC).ownBlock = some j) w5 w6 := ⟨hB6.os, hB6.tape, hB6.output, hB6.size, fun j hj hn => hsame j hj hn⟩
        have hs6 := hT6.size
        have hs5 := HT5.out.size
        have hs4 := HT4.out.size
        have hs2 := HTW.out.size
        have h1 := hcl.out
        have h2 := hcw.out
        have h0 := HCBB.out
        have hv2 : ∀ j, foot g v2 j → ¬ Pb j := fun j hj hp => by
          obtain ⟨a1, a2, a3⟩ := HPBB.out j hp
          rcases hj with rfl | hj
          · exact a3 (Or.inl rfl)
          · rcases HO4.out j hj with h | h
            · exact a3 (Or.inr h)
            · omega
        have hnc : (Value.slice aC bs.length cC).ownBlock ≠ some cb := fun e => by have := (HPBB.out cb (P4.out cb e)).2.1; omega
        refine ⟨v2, fun j => Pb j ∨ j = cb ∨ v6.ownBlock = some j, ?_, ?_, fun j hj => ?_, ?_, fun j hj => ?_⟩
        · rw [HG3.out, ← List.append_assoc]
          exact (HW4.out.other HT5.out (fun _ _ h => h)).other hT6 (fun j hj e => hv2 j hj (P4.out j e))
        · refine ((HTW.out.trans HT4.out (fun j hj => ?_)).trans HT5.out (fun j hj => absurd hj id)).trans hT6 (fun j hj => Or.inr (HPBB.out j (P4.out j hj)).1)
          rcases hj with rfl | hj
          · exact Or.inl (Or.inl rfl)
          · exact (HOWN.out j hj).imp Or.inr id
        · rcases HO4.out j hj with h | h
          · exact HOWN.out j h
          · exact Or.inr (by omega)
        · rw [HTK.out]
          exact codes_pushed (W := w5) hO6 P2.out (Nat.le_trans P3.out hs6) hs6 hfr (fun i hi => by
            obtain ⟨a1, a2, a3, a4⟩ := P5.out i hi
            exact ⟨a1.other hT6 a3, a2, a3, a4⟩) (HCODE.out.other hT6 hnc) h1 hnc
        · have hlt : ∀ j, foot g v2 j → j < cb := fun j hj => by have := (HW4.out.lt j hj).1; omega
          rcases hj with hj | rfl | hj
          · obtain ⟨a1, a2, a3⟩ := HPBB.out j hj
            exact ⟨a1, by omega, fun e => hv2 j e hj⟩
          · exact ⟨by omega, by omega, fun e => by have := hlt _ e; omega⟩
          · rcases hfr j hj with e | e
            · obtain ⟨a1, a2, a3⟩ := HPBB.out j (P4.out j e)
              exact ⟨a1, by omega, fun e2 => hv2 j e2 (P4.out j e)⟩
            · exact ⟨by omega, (hO6.lt j hj).2, fun e2 => by have := hlt j e2; omega⟩)
      clear hO6 hB6 hsame hfr
      go_wp2_with fail
      go_roundw
      case rel => exact ⟨k + 1, by go_num, by omega, HLP.out⟩
      case measure => simp [intOf]; omega
    · obtain rfl : k = T := by omega
      have hki : ¬ (k : Int) < (k : Int) := by omega
      have htk : gs.take k = gs := by rw [← hT, List.take_length]
      rw [htk] at hW hcs hg1
      have HW5 := Lib.hid hW
      have HT5 := Lib.hid hTw
      have HO5 := Lib.hid hown
      have HCS := Lib.hid hcs
      have HPBB := Lib.hid hPb
      clear hW hTw hown hcs hPb hg2 htk
      obtain ⟨q2, hq2⟩ : ∃ q2, q1 ++ gsB gs = q2 := ⟨_, rfl⟩
      have HQ2 := Lib.hid hq2
      have hq2l : q2.length ≤ 1300000 := by rw [← hq2, List.length_append]; omega
      rw [hq2] at HW5
      clear hq2
      obtain ⟨w5, rfl⟩ : ∃ wz : World, wz = wr := ⟨_, rfl⟩
      have HTA : Hid (∀ W, Touch (foot g v1) w5 W → Touch (foot g v) w2 W) := Lib.hid (fun W hWW => HT5.out.trans hWW (fun j hj => by
        rcases hj with rfl | hj
        · exact Or.inl (Or.inl rfl)
        · exact (HO5.out j hj).imp Or.inr id))
      have HZS : Hid (∀ W, Touch (foot g v1) w5 W → IsInts W (.slice a len c) zs) := Lib.hid (fun W hWW => ((HI.out.below HCB.out.bel).other (HTA.out W hWW) HROW.out))
      go_wp2_with fail
      go_loopw [56] (fun vk wr => ∃ (i : Nat), vk = .int .i64 (i : Int) ∧ i ≤ len ∧ Wrote w5 g v1 tk (q2 ++ symB gs ps zs i) wr) (fun vk _ => len - (intOf vk).toNat)
      case atStart => exact ⟨0, rfl, by omega, by simpa [symB, symT] using Wrote.start HW5.out⟩
      case round =>
        obtain ⟨i, rfl, hil, hwr⟩ := hrel
        have hTr := hwr.touch
        by_cases hilt : i < len
        · have hii : (i : Int) < (len : Int) := by omega
          obtain ⟨b1, o1, k1, he1, d1⟩ := (HZS.out wr hTr).cell (show i < zs.length by rw [HLEN.out]; exact hilt)
          rw [HLEN.out] at he1
          simp only [Value.slice.injEq] at he1
          obtain ⟨rfl, he1b, rfl⟩ := he1
          have hsy := HSY.out _ (FreqM.getD_mem zs i (by rw [HLEN.out]; exact hilt))
          have hiH : Hid (i < zs.length) := Lib.hid (by rw [HLEN.out]; exact hilt)
          obtain ⟨z, hz⟩ : ∃ z : Nat, zs.getD i 0 = (z : Int) := ⟨(zs.getD i 0).toNat, by omega⟩
          rw [hz] at d1 hsy
          have HZ := Lib.hid hz
          have hT2r := (HTA.out wr hTr).mono HFT.out
          obtain ⟨c0, c1, _⟩ := CCH.out wr hT2r
          obtain ⟨htb1, htb2, htb3⟩ := HTB.out i hiH.out
          obtain ⟨b3, o3, k3, he3, d3⟩ := (HCB.out.rows wr hT2r).2.cell (show i / 50 < (PkM.toI ps).length by rw [PkM.toI_length]; exact htb1)
          rw [HM.out] at he3
          simp only [Value.slice.injEq] at he3
          obtain ⟨rfl, he3b, rfl⟩ := he3
          rw [PkM.toI_getD] at d3
          obtain ⟨P, hP⟩ : ∃ P, ps.getD (i / 50) 0 = P := ⟨_, rfl⟩
          rw [hP] at d3
          have hPlt : P < gs.length := by
            rw [← hP, List.getD_eq_getElem?_getD, List.getElem?_eq_getElem htb1]
            exact HPK.out.2.2.2.2 _ (List.getElem_mem htb1)
          obtain ⟨bs, base, p1, p2, p3, p4, p5⟩ := HCS.out.other hTr (fun j hj => (HPBB.out j hj).2.2)
          obtain ⟨cg, cC, eC, d4⟩ := p1.cell (i := P) (by omega)
          obtain ⟨k4, k5, k6, k7⟩ := p5 P hPlt
          subst eC
          obtain ⟨G, hG⟩ : ∃ G, i / 50 = G := ⟨_, rfl⟩
          rw [hG] at d3 htb1
          obtain ⟨cb, hcb⟩ : ∃ cb, bs.getD P 0 = cb := ⟨_, rfl⟩
          rw [hcb] at d4 k4 k5 k6 k7
          unfold ptr at d4
          have hgi0 : (0 : Int) ≤ (i : Int) / 50 := by omega
          have hgi2 : ((i : Int) / 50).toNat = G := by omega
          have hgi1 : (i : Int) / 50 < (M : Int) := by
            have := HM.out
            rw [PkM.toI_length] at this
            omega
          have hPi : (P : Int) < (bs.length : Int) := by rw [p2]; omega
          have htbi : CodM.tb gs ps i = gs.getD P [] := by unfold CodM.tb; rw [hP]
          rw [← htbi] at k4
          obtain ⟨v3, hW3, hT3, hO3⟩ := hwr
          have HPUT := Lib.hid (cput_yes cb g (CodM.tb gs ps i) z v3 _ tk wr k4 (by omega) htb3 (by omega) hW3 (by rw [List.length_append]; have := HSL.out i hil; omega))
          have HT3 := Lib.hid hT3
          have HO3 := Lib.hid hO3
          clear hTr he1b hT2r htb1 htb2 htb3 he3b hP hPlt p1 p2 p3 p4 p5 k4 k5 k6 k7 hcb hsy hz hW3 hT3 hO3 htbi
          go_wp2_with fail
          refine HPUT.out.mono ?_
          rintro e w7 ⟨rfl, v4, hW4, hT4, hO4⟩
          have HWN : Hid (Wrote w5 g v1 tk (q2 ++ symB gs ps zs (i + 1)) w7) := Lib.hid (by
            refine ⟨v4, ?_, HT3.out.trans hT4 (fun j hj => ?_), fun j hj => ?_⟩
            · rw [symB_succ gs ps zs hiH.out, HZ.out, ← List.append_assoc, Int.toNat_natCast]
              exact hW4
            · rcases hj with rfl | hj
              · exact Or.inl (Or.inl rfl)
              · exact (HO3.out j hj).imp Or.inr id
            · rcases hO4 j hj with h | h
              · exact HO3.out j h
              · exact Or.inr (Nat.le_trans HT3.out.size h))
          clear hW4 hT4 hO4
          go_wp2_with fail
          go_roundw
          case rel => exact ⟨i + 1, by go_num, by omega, HWN.out⟩
          case measure => simp [intOf]; omega
        · obtain rfl : i = len := by omega
          have hii : ¬ (i : Int) < (i : Int) := by omega
          obtain ⟨v3, hW3, hT3, hO3⟩ := hwr
          have HF : Hid (Wrote w g v tk (q0 ++ allC gs ps zs) wr) := Lib.hid (by
            have hb := HCB.out.bel.size
            refine ⟨v3, ?_, (Touch.ofBelow (S := foot g v) HCB.out.bel).trans (HTA.out wr hTr) (fun j hj => Or.inl hj), fun j hj => ?_⟩
            · have e : q0 ++ allC gs ps zs = q2 ++ symB gs ps zs i := by
                unfold allC
                rw [← HQ2.out, ← HQ1.out, HT.out, HLEN.out, List.append_assoc, List.append_assoc, List.append_assoc]
              rw [e]
              exact hW3
            · rcases hO3 j hj with h | h
              · rcases HO5.out j h with h2 | h2
                · exact Or.inl h2
                · exact Or.inr (Nat.le_trans hb h2)
              · exact Or.inr (Nat.le_trans hb (Nat.le_trans HT5.out.size h)))
          clear hW3 hT3 hO3 hTr
          go_wp2_with fail
          go_ret
          exact ⟨rfl, HF.out⟩
end Go.Proofs.YtojphcoghbiepaaGreatDoor
namespace Go.Proofs.YtojphcoghbiepaaGreatDoor
open Go.RowKit BitM HufM CanM CodM PkM
set_option linter.unusedVariables false
set_option maxRecDepth 100000 in
set_option maxHeartbeats 4000000 in
theorem cpick_any (b rb N t n : Nat) (ps o : List Nat) (O : Nat → Prop) (v : Value) (l : List UInt8) (dr sp p : Nat) (w : World) (Q r : List Bool) (most a : Nat) (L : List Int) (hC : IsCR w b N O (.pick t n ps o)) (hR : IsReader w rb v l dr sp p) (hs : dr + l.length ≤ 1099511627776)
    (hne : ∀ k, foot rb v k → ¬ O k) (hq : Q.drop a = (bitsOf l).drop (p - 8 * dr) ++ r) (hrt : RtC Q N most a L (.pick t n ps o)) (h3 : 3 ≤ N) (h258 : N ≤ 258) :
    Calls Tryz.prog 111 #[.pointer (some ⟨b, 0, none⟩), .pointer (some ⟨rb, 0, none⟩)] w fun e w' => OutC (fun _ => 0) w w' b rb N O v l dr sp p Q ((bitsOf l).drop (p - 8 * dr)) r most a L (.pick t n ps o) e := by
  obtain ⟨F, g, pv, hO, hCC, hP, hOb, hft⟩ := hC
  have HNE := Lib.hid hne
  have HFT := Lib.hid hft
  have HOB := Lib.hid hOb
  have HCC := Lib.hid hCC
  obtain ⟨c0, c1, c2, c3, c4, c5, c6, c7, c8, c9, c10⟩ := cc_cells hO hCC
  have HO := Lib.hid hO
  obtain ⟨hrt1, hn1, hpl, hL0⟩ := id hrt
  have hbnd := hrt1.bnd
  have hn2 : n ≤ 32767 ∧ t ≤ 6 := by omega
  have HST := pstepc_any g rb pv t n ps o false v l dr sp p w hP hR hs (fun k hk hh => hne k hk (hft k hh).1) (Or.inr ⟨hpl, hn2.1, hn2.2⟩)
  have HDS := RtC.pick (most := most) h3 hrt hq
  have HHD : Hid (∀ (D : PO) (a2 : Nat), RtC Q N most a2 L (.len t D.ps [] [] 0) → Hd Q D.ps t) := Lib.hid (fun D a2 h => h.1)
  generalize hod : pstep ((bitsOf l).drop (p - 8 * dr)) t n ps o false = D at *
  have HSTH := Lib.hid HST
  have HDSH := Lib.hid HDS
  have HL0 := Lib.hid hL0
  have hrb : Hid (¬ O rb) := Lib.hid (hne rb (Or.inl rfl))
  have hps3 : ps.length ≤ 32767 := by omega
  unfold ptr at c3
  clear hne hft hOb hCC hO hP hR HST HDS hod hq hrt hrt1 hbnd hL0 c0 c1 c2 c4 c5 c6 c7 c9 c10
  go_enter Tryz.func111, Tryz.ntmps111
  go_wp2_with fail
  refine HSTH.out.mono ?_
  rintro e w1 ⟨pv1, rfl, hp1, hr1, ht1, hf1⟩
  have hO1 := HO.out.other ht1 (by
    rintro (e | e)
    · exact (HFT.out b e).2 rfl
    · exact hrb.out (e ▸ HOB.out))
  have HO1 := Lib.hid hO1
  have HR1 := Lib.hid hr1
  have HT1 := Lib.hid (cd_pk (O := O) ht1 (fun k hk => (HFT.out k hk).1))
  have hnew : ∀ k, foot g pv1 k → foot g pv k ∨ w.heap.size ≤ k := fun k hk => by
    rcases hk with rfl | hk
    · exact Or.inl (Or.inl rfl)
    · exact (hf1 k hk).imp Or.inr id
  have hbw : b < w.heap.size := HO.out.lt
  have HNW : Hid (∀ k, foot g pv1 k → (O k ∨ w.heap.size ≤ k) ∧ k ≠ b) := Lib.hid (fun k hk => by
    rcases hnew k hk with h | h
    · exact ⟨Or.inl (HFT.out k h).1, (HFT.out k h).2⟩
    · exact ⟨Or.inr h, by omega⟩)
  have HP1 := Lib.hid hp1
  clear hp1 hr1 ht1 hf1 hnew HSTH c3 c8
  rcases HDSH.out with ⟨e1, e2, e3, e4, e5, e6, e7, e8⟩ | ⟨e1, e3, e4⟩ | ⟨e1, e2⟩
  · have HE4 := Lib.hid e4
    have HE3 := Lib.hid e3
    have HE5 := Lib.hid e5
    have HE6 := Lib.hid e6
    have HE7 := Lib.hid e7
    have HE8 := Lib.hid e8
    rw [e2, e5, e6] at HP1
    obtain ⟨_, _, _, d3, _, _, _, _, d8, _, _⟩ := cc_cells HO1.out HCC.out
    have f8 := (HO1.out.cell (i := 8) (by omega)).2
    have HO2 := Lib.hid (HO1.out.set 8 (.int .i64 ((ps.length : Int) + 1)))
    have HC2 : Hid (CC (upd F 8 (.int .i64 ((ps.length : Int) + 1))) N (mth 111 b) 0 (ptr g) 0 nils (.pointer none) nils D.ps.length 0 false) := Lib.hid (by rw [HE7.out]; exact HCC.out.s_held (ps.length + 1))
    have hT2 : Touch (· = b) w1 (w1.setCell ⟨b, 8, none⟩ (.int .i64 ((ps.length : Int) + 1))) := touch_cell (Touch.refl _ _)
    have HT2 : Hid (Touch (fun k => O k ∨ k = rb) w (w1.setCell ⟨b, 8, none⟩ (.int .i64 ((ps.length : Int) + 1)))) := Lib.hid (cd_tr HT1.out (cd_b hT2 HOB.out))
    have HP2 := Lib.hid (HP1.out.other hT2 (fun k hk e => (HNW.out k hk).2 e))
    have HR2 := Lib.hid (HR1.out.other hT2 (fun k hk e => HNE.out k hk (by rw [show k = b from e]; exact HOB.out)))
    unfold ptr at d3
    rw [e1]
    clear e1 e2 e3 e4 e5 e6 e7 e8 HDSH hO1 hT2
    go_wp2_with fail
    generalize hw2 : w1.setCell ⟨b, 8, none⟩ (.int .i64 ((ps.length : Int) + 1)) = w2 at *
    clear hw2 d3 d8 f8
    obtain ⟨_, _, _, g3, _, _, _, _, _, _, _⟩ := cc_cells HO2.out HC2.out
    unfold ptr at g3
    rcases HE8.out with ⟨hlt, hrt2⟩ | ⟨hle, hrt2⟩
    · have HRT := Lib.hid hrt2
      have HDN := Lib.hid (pdone_any g pv1 t n D.ps D.o false false w2 HP2.out ⟨fun e => (by cases e), fun e => by omega⟩)
      clear hrt2 hlt HE8
      go_wp2_with fail
      refine HDN.out.mono ?_
      rintro e w3 ⟨rfl, m3, hw3⟩
      have HO3 : Hid (ObjF 11 101 w3 b _) := Lib.hid (by rw [hw3]; exact HO2.out.drewN m3)
      have HP3 : Hid (IsPk w3 g pv1 t n D.ps D.o false) := Lib.hid (by rw [hw3]; exact HP2.out.drewN m3)
      have HR3 : Hid (IsReader w3 rb v l dr sp (p + D.used)) := Lib.hid (by rw [hw3]; exact HR2.out.drewN m3)
      have HT3 : Hid (Touch (fun k => O k ∨ k = rb) w w3) := Lib.hid (by rw [hw3]; exact cd_tr HT2.out (touch_drewN _ _ m3))
      clear hw3
      go_wp2_with fail
      go_ret2
      refine ⟨-1, 0, D.used, fun k => k = b ∨ foot g pv1 k, rfl, HR3.out, HT3.out, fun k hk => ?_, HE4.out, Or.inl ⟨rfl, HE3.out, .pick t n D.ps D.o, ⟨_, g, pv1, HO3.out, HC2.out, HP3.out, Or.inl rfl, fun k hk => ⟨Or.inr hk, (HNW.out k hk).2⟩⟩, Or.inl ⟨rfl, rfl, HRT.out, by rw [HL0.out]; rfl⟩⟩⟩
      rcases hk with rfl | hk
      · exact Or.inl HOB.out
      · exact (HNW.out k hk).1
    · have HRT := Lib.hid hrt2
      have HLE := Lib.hid hle
      have HDN := Lib.hid (pdone_any g pv1 t n D.ps D.o false true w2 HP2.out ⟨fun _ => ⟨hn1, hle⟩, fun _ => rfl⟩)
      have hp1l : 1 ≤ D.ps.length := by omega
      clear hrt2 hle HE8
      go_wp2_with fail
      refine HDN.out.mono ?_
      rintro e w3 ⟨rfl, m3, hw3⟩
      have HO3 : Hid (ObjF 11 101 w3 b (upd F 8 (.int .i64 ((ps.length : Int) + 1)))) := Lib.hid (by rw [hw3]; exact HO2.out.drewN m3)
      have HP3 : Hid (IsPk w3 g pv1 t n D.ps D.o false) := Lib.hid (by rw [hw3]; exact HP2.out.drewN m3)
      have HR3 : Hid (IsReader w3 rb v l dr sp (p + D.used)) := Lib.hid (by rw [hw3]; exact HR2.out.drewN m3)
      have HT3 : Hid (Touch (fun k => O k ∨ k = rb) w w3) := Lib.hid (by rw [hw3]; exact cd_tr HT2.out (touch_drewN _ _ m3))
      have hbw3 : Hid (w.heap.size ≤ w3.heap.size) := Lib.hid HT3.out.size
      obtain ⟨_, _, _, k3, _, _, _, _, _, _, _⟩ := cc_cells HO3.out HC2.out
      unfold ptr at k3
      have HP3D := Lib.hid (HP3.out.drewN 1)
      have HO3D := Lib.hid (HO3.out.drewN 1)
      clear hw3 g3 HDN
      go_wp2_with fail
      go_region_law (first
        | (go_simp; go_at_call 173; refine (ptables_any g pv1 t n D.ps D.o false _ (by exact HP3D.out)).mono ?_; rintro e wT ⟨rfl, rfl⟩)
        | (go_simp; go_at_call 174; refine (ppicks_any g pv1 t n D.ps D.o false _ (by exact HP3D.out) hp1l).mono ?_; rintro e wP ⟨vP, rfl, hoP, hbP⟩; have HOP := Lib.hid hoP; have HBP := Lib.hid hbP; have HO4 := Lib.hid (HO3D.out.below hbP (by exact HO3D.out.lt)); obtain ⟨_, _, _, m3, m4, m5, _, _, _, _, _⟩ := cc_cells HO4.out HC2.out; have n4 := (HO4.out.cell (i := 4) (by omega)).2; have HO5 := Lib.hid (HO4.out.set 4 (.int .i64 (t : Int))); have HC5 := Lib.hid (HC2.out.s_T t); obtain ⟨_, _, _, m53, _, m55, _, _, _, _, _⟩ := cc_cells HO5.out HC5.out; have n5 := (HO5.out.cell (i := 5) (by omega)).2; obtain ⟨aP, cP, eP⟩ := hoP.slice; rw [toI_length] at eP; subst eP; have HO6 := Lib.hid (HO5.out.set 5 (.slice aP D.ps.length cP)); have HC6 := Lib.hid (HC5.out.s_pu (.slice aP D.ps.length cP)); obtain ⟨_, _, _, m63, _, _, _, _, _, _, _⟩ := cc_cells HO6.out HC6.out; have n6 := (HO6.out.cell (i := 3) (by omega)).2; clear hoP hbP))
      all_goals
        have HO7 := Lib.hid (HO6.out.set 3 (.pointer none))
        have HC7 := Lib.hid (HC6.out.s_hd (.pointer none))
        have hTb : Touch (· = b) wP (((wP.setCell ⟨b, 4, none⟩ (.int .i64 (t : Int))).setCell ⟨b, 5, none⟩ (.slice aP D.ps.length cP)).setCell ⟨b, 3, none⟩ (.pointer none)) := touch_cell (touch_cell (touch_cell (Touch.refl _ _)))
        have HTB := Lib.hid hTb
        have hob : ∀ k, (Value.slice aP D.ps.length cP).ownBlock = some k → w3.heap.size ≤ k ∧ k < wP.heap.size := fun k hk => HOP.out.lt k hk
        have HOBK := Lib.hid hob
        have hb3 : b < w3.heap.size := HO3.out.lt
        have HR7 := Lib.hid (((HR3.out.drewN 1).other (Touch.ofBelow (S := fun _ => False) HBP.out) (fun _ _ h => h)).other hTb (fun k hk e => HNE.out k hk (by rw [show k = b from e]; exact HOB.out)))
        have HT7 := Lib.hid (cd_tr (cd_tr HT3.out (touch_drewN _ _ 1)) (cd_tr (Touch.ofBelow (S := fun k => O k ∨ k = rb) HBP.out) (cd_b hTb HOB.out)))
        have HI7 := Lib.hid (HOP.out.ints.other hTb (fun k hk e => by have h1 := hob k hk; have h2 : k = b := e; omega))
        have HHT := Lib.hid (HHD.out D _ HRT.out)
        have ht0 : (0 : Nat) ≠ t := by have := HHT.out.2.2.2.1; omega
        have HSP : Hid (wP.heap.size ≤ (((wP.setCell ⟨b, 4, none⟩ (.int .i64 (t : Int))).setCell ⟨b, 5, none⟩ (.slice aP D.ps.length cP)).setCell ⟨b, 3, none⟩ (.pointer none)).heap.size) := Lib.hid hTb.size
        have HSW : Hid (w.heap.size ≤ wP.heap.size) := Lib.hid (by have h1 := hbw3.out; have h2 : w3.heap.size ≤ wP.heap.size := HBP.out.size; omega)
        clear hTb hob m3 m4 m5 m53 m55 m63 n4 n5 n6 k3
        go_wp2_with fail
        generalize ((wP.setCell ⟨b, 4, none⟩ (.int .i64 (t : Int))).setCell ⟨b, 5, none⟩ (.slice aP D.ps.length cP)).setCell ⟨b, 3, none⟩ (.pointer none) = w7 at *
        refine (cbegin_len b _ N _ _ t none 0 0 _ _ _ _ w7 HO7.out HC7.out ht0 h3 h258).mono ?_
        rintro e w8 ⟨rfl, ⟨F8, hO8, hC8⟩, hD8, hT8⟩
        have HO8 := Lib.hid hO8
        have HC8 := Lib.hid hC8
        have HD8 := Lib.hid hD8
        have HT8 := Lib.hid hT8
        clear hO8 hC8 hD8 hT8
        go_wp2_with fail
        go_ret2
        have hb7 : b < w7.heap.size := HO7.out.lt
        have hs8 := HT8.out.size
        refine ⟨-1, 0, D.used, fun k => k = b ∨ k = w7.heap.size ∨ (Value.slice aP D.ps.length cP).ownBlock = some k, rfl, HR7.out.other HT8.out (fun k hk e => HNE.out k hk (by rw [show k = b from e]; exact HOB.out)), cd_tr HT7.out (cd_b HT8.out HOB.out), fun k hk => ?_, HE4.out, Or.inl ⟨rfl, HE3.out, .len t D.ps [] [] 0, ⟨F8, fun k => (Value.slice aP D.ps.length cP).ownBlock = some k, w7.heap.size, .slice aP D.ps.length cP, nils, HO8.out, ?_, HD8.out, ⟨HI7.out.other HT8.out (fun k hk e => by have h1 := HOBK.out k hk; have h2 : k = b := e; omega), fun _ h => h⟩, Codes.nil _ _, fun k hk => (by cases hk), Or.inl rfl, Or.inr (Or.inl rfl), by omega, fun h => by have h1 := HOBK.out b h; omega, fun h => by have h1 := HOBK.out _ h; have h2 := HSP.out; omega, fun k hk => ⟨Or.inr (Or.inr hk), by have h1 := HOBK.out k hk; have h2 := HSP.out; omega⟩⟩, Or.inl ⟨rfl, rfl, HRT.out, by rw [HL0.out]; rfl⟩⟩⟩
        · rcases hk with rfl | rfl | hk
          · exact Or.inl HOB.out
          · exact Or.inr (by have h1 := HSP.out; have h2 := HSW.out; omega)
          · exact Or.inr (by have h1 := HOBK.out k hk; have h2 := hbw3.out; omega)
        · have hh : D.ps.length + ([] : List (List Int)).length * N = D.ps.length := by simp
          rw [hh]
          exact HC8.out
  · have HE4 := Lib.hid e4
    have HE3 := Lib.hid e3
    rw [e1]
    clear e1 e3 e4 HDSH hO1
    go_wp2_with fail
    go_ret2
    exact ⟨0, 25, D.used, fun k => k = b, rfl, HR1.out, HT1.out, fun k hk => Or.inl (by rw [hk]; exact HOB.out), HE3.out, Or.inr (Or.inl ⟨by decide, by decide, rfl, ⟨F, _, _, _, _, _, _, _, _, _, HO1.out, HCC.out, rfl⟩, HE4.out⟩)⟩
  · have HE2 := Lib.hid e2
    subst e1
    clear e2 HDSH hO1
    go_wp2_with fail
    go_ret2
    refine ⟨0, 3, 0, fun k => k = b ∨ foot g pv1 k, rfl, HR1.out, HT1.out, fun k hk => ?_, Nat.zero_le _, Or.inr (Or.inr ⟨rfl, rfl, rfl, ⟨F, g, pv1, HO1.out, HCC.out, HP1.out, Or.inl rfl, fun k hk => ⟨Or.inr hk, (HNW.out k hk).2⟩⟩, HE2.out⟩)⟩
    rcases hk with rfl | hk
    · exact Or.inl HOB.out
    · exact (HNW.out k hk).1
end Go.Proofs.YtojphcoghbiepaaGreatDoor
namespace Go.Proofs.YtojphcoghbiepaaGreatDoor
open Go.RowKit BitM HufM CanM CodM
set_option linter.unusedVariables false
set_option maxRecDepth 100000 in
set_option maxHeartbeats 8000000 in
theorem csymbol_any (b rb N t : Nat) (ps : List Nat) (gs : List (List Int)) (cnt : Nat) (O : Nat → Prop) (v : Value) (l : List UInt8) (dr sp p : Nat) (w : World) (Q r : List Bool) (most a : Nat) (L : List Int) (hC : IsCR w b N O (.sym t ps gs cnt false)) (hR : IsReader w rb v l dr sp p) (hs : dr + l.length ≤ 1099511627776)
    (hne : ∀ k, foot rb v k → ¬ O k) (hq : Q.drop a = (bitsOf l).drop (p - 8 * dr) ++ r) (hrt : RtC Q N most a L (.sym t ps gs cnt false)) (h3 : 3 ≤ N) (h258 : N ≤ 258) (hcnt : cnt ≤ 10000000) :
    Calls Tryz.prog 225 #[.pointer (some ⟨b, 0, none⟩), .pointer (some ⟨rb, 0, none⟩)] w fun e w' => OutC (fun _ => 0) w w' b rb N O v l dr sp p Q ((bitsOf l).drop (p - 8 * dr)) r most a L (.sym t ps gs cnt false) e := by
  obtain ⟨F, Pb, pu, cu, hO, hCC, hRP, hCD, hOb, hPb, hPO⟩ := hC
  have HNE := Lib.hid hne
  have HOB := Lib.hid hOb
  have HCC := Lib.hid hCC
  have HRP := Lib.hid hRP
  have HCD := Lib.hid hCD
  have HPB := Lib.hid hPb
  have HPO := Lib.hid hPO
  have HO := Lib.hid hO
  obtain ⟨c0, c1, c2, c3, c4, c5, c6, c7, c8, c9, c10⟩ := cc_cells hO hCC
  obtain ⟨hHd, hWhs, hgt, hLc, hc50, _⟩ := id hrt
  have HLC := Lib.hid hLc
  have HSY := Lib.hid (RtC.sym hrt hq)
  have hrb : Hid (¬ O rb) := Lib.hid (hne rb (Or.inl rfl))
  have hpl : ps.length ≤ 32767 := hHd.2.2.2.2.2.1
  obtain ⟨G, hG⟩ : ∃ G, cnt / 50 = G := ⟨_, rfl⟩
  have g1 : (cnt : Int) / 50 = (G : Int) := by omega
  have g2 : (cnt : Int).tdiv 50 = (G : Int) := by rw [Int.tdiv_eq_ediv_of_nonneg (by omega)]; exact g1
  have g3 : IntKind.i64.wrap (G : Int) = (G : Int) := IntWalk.i64_in _ (by omega)
  have hGl : G ≤ ps.length := by omega
  have hTI := PkM.toI_length ps
  obtain ⟨aP, cP, hpu, hPc⟩ := id hRP.1
  rw [hTI] at hpu
  subst hpu
  obtain ⟨aC, cC, hcu⟩ := hCD.slice
  subst hcu
  by_cases hlast : G = ps.length
  · have hge : ps.length ≤ cnt / 50 := by omega
    have hre := HSY.out.1 hge
    have HRE := Lib.hid hre
    have hb1 : ((G : Int) == (ps.length : Int)) = true := by rw [beq_iff_eq]; omega
    have HR := Lib.hid hR
    clear hne hOb hCC hRP hCD hPb hPO hO hR hq hrt hHd hWhs hLc hTI hPc hge hre hlast hG c0 c1 c2 c3 c4 c6 c7 c8 c10
    go_enter Tryz.func225, Tryz.ntmps225
    go_wp2_with fail
    go_ret2
    exact ⟨0, 25, 0, fun k => k = b, rfl, HR.out, Touch.refl _ _, fun k hk => Or.inl (by rw [hk]; exact HOB.out), Nat.zero_le _, Or.inr (Or.inl ⟨by decide, by decide, rfl, ⟨F, _, _, _, _, _, _, _, _, _, HO.out, HCC.out, rfl⟩, HRE.out⟩)⟩
  · have hlt : G < ps.length := by omega
    have hlt50 : cnt / 50 < ps.length := by omega
    have hb1 : ((G : Int) == (ps.length : Int)) = false := by rw [beq_eq_false_iff_ne]; omega
    obtain ⟨hPlt, hZN, hZW⟩ := hWhs.tb hHd hgt hlt50
    have hx := PkM.toI_getD ps G
    rw [List.getD_eq_getElem?_getD, List.getElem?_eq_getElem (by rw [hTI]; exact hlt)] at hx
    obtain ⟨pb, po, hap, hpc⟩ := hPc G _ (List.getElem?_eq_getElem (by rw [hTI]; exact hlt))
    subst hap
    have hx2 : (PkM.toI ps)[G]'(by rw [hTI]; exact hlt) = ((ps.getD G 0 : Nat) : Int) := hx
    rw [hx2] at hpc
    rw [hG] at hPlt
    obtain ⟨bs, base, q1, q2, q3, q4, q5⟩ := hCD
    obtain ⟨Z, hZ⟩ : ∃ Z, tb gs ps cnt = Z := ⟨_, rfl⟩
    have hZ2 : gs.getD (ps.getD G 0) [] = Z := by rw [← hZ, ← hG]; rfl
    obtain ⟨k1, k2, k3, k4⟩ := q5 _ hPlt
    rw [hZ2] at k1
    obtain ⟨cg, ccap, he, hcc⟩ := q1.cell (i := ps.getD G 0) (by rw [q2]; exact hPlt)
    simp only [Value.slice.injEq] at he
    obtain ⟨rfl, _, rfl⟩ := he
    obtain ⟨P, hP⟩ : ∃ P, ps.getD G 0 = P := ⟨_, rfl⟩
    rw [hP] at hpc hcc k1 k2 k4 hPlt
    obtain ⟨cb, hcb⟩ : ∃ cb, bs.getD P 0 = cb := ⟨_, rfl⟩
    rw [hcb] at hcc k1 k2 k4
    unfold ptr at hcc
    rw [hZ] at HSY hZN hZW
    have hG0 : (0 : Int) ≤ (G : Int) := by omega
    have hGi : (G : Int) < (ps.length : Int) := by omega
    have hP0 : (0 : Int) ≤ (P : Int) := by omega
    have hPi : (P : Int) < (gs.length : Int) := by omega
    have hPib : (P : Int) < (bs.length : Int) := by rw [q2]; exact hPi
    have hcr : cb ≠ rb := fun e => hne rb (Or.inl rfl) (e ▸ (hPO cb k2).1)
    have HGT := Lib.hid (cget_any cb Z rb v l dr sp p (w.drewN 1) (k1.other (touch_drewN (fun _ => False) _ 1) id) (by omega) (by omega) hZW (hR.drewN 1) hs hcr)
    have HZW := Lib.hid hZW
    have HZN := Lib.hid hZN
    have HLT := Lib.hid hlt50
    clear hne hOb hCC hRP hPb hPO hO hR hq hrt hHd hWhs hLc hTI hPc hx hx2 hlast hG hP hcb hZ hZ2 q1 q2 q3 q4 q5 k1 k2 k3 k4 c1 c2 c3 c4 c6 c8 c10 hZN hZW hlt50 hcr hGl hc50 hgt
    go_enter Tryz.func225, Tryz.ntmps225
    go_wp2_with fail
    have HOD := Lib.hid (HO.out.drewN 1)
    have HT0 : Hid (Touch (fun k => O k ∨ k = rb) w (w.drewN 1)) := Lib.hid (touch_drewN _ _ 1)
    have HRPD : Hid (RowP (w.drewN 1) Pb _ (PkM.toI ps)) := Lib.hid (HRP.out.other (touch_drewN (fun _ => False) _ 1) (fun _ _ h => h))
    have HCDD : Hid (Codes (w.drewN 1) Pb _ gs) := Lib.hid (HCD.out.other (touch_drewN (fun _ => False) _ 1) (fun _ _ h => h))
    have hnb : Hid (¬ b = rb) := Lib.hid (fun e => hrb.out (e ▸ HOB.out))
    have hPn : Hid (∀ k, Pb k → ¬ k = rb) := Lib.hid (fun k hk e => hrb.out (e ▸ (HPO.out k hk).1))
    have HPBK : Hid (Pb pb) := Lib.hid (HRP.out.2 pb rfl)
    have HCBK : Hid (Pb cg) := Lib.hid (by
      obtain ⟨_, _, _, _, _, h4, _⟩ := HCD.out
      exact h4 cg rfl)
    have hk5 := c5
    have hk7 := c7
    have HKP := Lib.hid hpc
    have HKC := Lib.hid hcc
    have hP2 : ∀ W : World, Touch (· = rb) (w.drewN 1) W → W.cell? ⟨pb, po + G, none⟩ = some (.int .i64 (P : Int)) ∧ W.cell? ⟨cg, P, none⟩ = some (.pointer (some ⟨cb, 0, none⟩)) := fun W hW => by
      refine ⟨?_, ?_⟩
      · rw [World.cell?_of_block (w := w.drewN 1) (a := ⟨pb, po + G, none⟩) (hW.block pb (cell_lt HKP.out) (hPn.out pb HPBK.out))]
        exact HKP.out
      · rw [World.cell?_of_block (w := w.drewN 1) (a := ⟨cg, P, none⟩) (hW.block cg (cell_lt HKC.out) (hPn.out cg HCBK.out))]
        exact HKC.out
    have HP2 := Lib.hid hP2
    clear hP2 c0 c9
    go_region_held3 (fun W => W.cell? ⟨b, 7, none⟩ = some (.slice (some ⟨cg, 0, none⟩) bs.length cC) ∧ W.cell? ⟨b, 5, none⟩ = some (.slice (some ⟨pb, po, none⟩) ps.length cP) ∧ W.cell? ⟨pb, po + G, none⟩ = some (.int .i64 (P : Int)) ∧ W.cell? ⟨cg, P, none⟩ = some (.pointer (some ⟨cb, 0, none⟩))) (go_keep)
      (first
        | (go_at_call 251; refine HGT.out.mono ?_; rintro e w1 ⟨x, er, p', rfl, hGP, hr1, ht1⟩; have HO1 := Lib.hid (HOD.out.other ht1 hnb.out); have HR1 := Lib.hid hr1; have HRP1 := Lib.hid (HRPD.out.other ht1 hPn.out); have HCD1 := Lib.hid (HCDD.out.other ht1 hPn.out); have HT1 : Hid (Touch (fun k => O k ∨ k = rb) w w1) := Lib.hid (cd_tr HT0.out (ht1.mono (fun k hk => Or.inr hk))); have hs1 : Hid (w.heap.size ≤ w1.heap.size) := Lib.hid HT1.out.size; obtain ⟨c0, _, _, _, _, z5, _, z7, _, c9, c10⟩ := cc_cells HO1.out HCC.out; obtain ⟨zp, zc⟩ := HP2.out w1 ht1; have HGP := Lib.hid hGP; clear hr1 ht1 hGP))
    have hGP := HGP.out
    clear HGP zp zc z5 z7
    rcases hGP with ⟨i, hi, hbg, rfl, rfl, rfl⟩ | ⟨hno, rfl, rfl, rfl⟩
    · obtain ⟨s1, s2, s3, s4, s5⟩ := HSY.out.2.2 i HLT.out (getM_some HZW.out hi hbg)
      have HS2 := Lib.hid s2
      have HS3 := Lib.hid s3
      have HS4 := Lib.hid s4
      have HS5 := Lib.hid s5
      have f9 := (HO1.out.cell (i := 9) (by omega)).2
      have HO2 := Lib.hid (HO1.out.set 9 (.int .i64 ((cnt : Int) + 1)))
      have HC2 : Hid (CC _ N _ 0 _ t _ _ _ (ps.length + gs.length * N) (cnt + 1) false) := Lib.hid (HCC.out.s_cnt (cnt + 1))
      obtain ⟨d0, _, _, _, _, _, _, _, _, _, d10⟩ := cc_cells HO2.out (HCC.out.s_cnt (cnt + 1))
      have f10 := (HO2.out.cell (i := 10) (by omega)).2
      obtain ⟨dn, hdn⟩ : ∃ dn, decide (i + 1 = N) = dn := ⟨_, rfl⟩
      have hbq : ((i : Int) == (N : Int) - 1) = dn := by
        rw [← hdn, Bool.eq_iff_iff, beq_iff_eq, decide_eq_true_eq]
        omega
      rw [hdn] at HS5
      have HDN := Lib.hid hdn
      have hcb2 : (cnt : Int) ≤ 10000000 := by omega
      clear s2 s3 s4 s5 HSY hbg hdn
      go_wp2_with fail
      go_ret2
      have hTf : Touch (· = b) w1 ((w1.setCell ⟨b, 9, none⟩ (.int .i64 ((cnt : Int) + 1))).setCell ⟨b, 10, none⟩ (.bool dn)) := touch_cell (touch_cell (Touch.refl _ _))
      refine ⟨(i : Int), 0, ln Z i, fun k => k = b ∨ Pb k, rfl, HR1.out.other hTf (fun k hk e => HNE.out k hk (by rw [show k = b from e]; exact HOB.out)), cd_tr HT1.out (cd_b hTf HOB.out), fun k hk => ?_, HS3.out, Or.inl ⟨rfl, HS2.out, .sym t ps gs (cnt + 1) dn, ⟨_, Pb, _, _, HO2.out.set 10 _, HC2.out.s_dn _, HRP1.out.other hTf (fun k hk e => HPB.out ((show k = b from e) ▸ hk)), HCD1.out.other hTf (fun k hk e => HPB.out ((show k = b from e) ▸ hk)), Or.inl rfl, HPB.out, fun k hk => ⟨Or.inr hk, by have h1 := (HPO.out k hk).2; have h2 := hs1.out; have h3 := hTf.size; omega⟩⟩, Or.inr ⟨i, s1, rfl, by show cnt + 1 = L.length + 1; rw [HLC.out], HDN.out.symm, HS4.out, HS5.out⟩⟩⟩
      rcases hk with rfl | hk
      · exact Or.inl HOB.out
      · exact Or.inl (HPO.out k hk).1
    · have HRS := Lib.hid (HSY.out.2.1 HLT.out (getM_no hno))
      clear hno HSY
      go_wp2_with fail
      go_ret2
      refine ⟨0, 3, 0, fun k => k = b ∨ Pb k, rfl, HR1.out, HT1.out, fun k hk => ?_, Nat.zero_le _, Or.inr (Or.inr ⟨rfl, rfl, rfl, ⟨F, Pb, _, _, HO1.out, HCC.out, HRP1.out, HCD1.out, Or.inl rfl, HPB.out, fun k hk => ⟨Or.inr hk, by have h1 := (HPO.out k hk).2; have h2 := hs1.out; omega⟩⟩, HRS.out⟩)⟩
      rcases hk with rfl | hk
      · exact Or.inl HOB.out
      · exact Or.inl (HPO.out k hk).1
end Go.Proofs.YtojphcoghbiepaaGreatDoor
namespace Go.Proofs.YtojphcoghbiepaaGreatDoor
open Go.RowKit
set_option maxRecDepth 100000 in
theorem func_eqlIn (d : Nat) (f : Nat) (xs : Array Value) (W : World) : (Op.equalIn (d + 1) 43 (.func (.func f) xs #[]) .nilFunc).run Tryz.prog W = .ok false W := by
  have hu := Tryz.underlying43
  simp [Op.equalIn, run_underlying hu]
theorem func_eql (f : Nat) (xs : Array Value) (W : World) : (binOp .eql 43 (.func (.func f) xs #[]) .nilFunc).run Tryz.prog W = .ok (.bool false) W := by
  simp only [binOp]
  simp [Op.equal, Op.maxDepth, func_eqlIn 9999 f xs W]
end Go.Proofs.YtojphcoghbiepaaGreatDoor
namespace Go.Proofs.YtojphcoghbiepaaGreatDoor
open Go.RowKit BitM HufM CanM CodM
set_option linter.unusedVariables false
theorem cc_upd_other {w : World} {b k : Nat} {v : Value} : Touch (· = b) w (w.setCell ⟨b, k, none⟩ v) := touch_cell (Touch.refl _ _)
theorem IsCR.s_wr {w : World} {b N : Nat} {O : Nat → Prop} {s : CSt} (h : IsCR w b N O s) : IsCR (w.setCell ⟨b, 2, none⟩ (.int .i64 0)) b N O s := by
  have ht : Touch (· = b) w (w.setCell ⟨b, 2, none⟩ (.int .i64 0)) := cc_upd_other
  cases s with
  | fields =>
    obtain ⟨F, g, pv, o, h1, h2, h3, h4, h5⟩ := h
    exact ⟨_, g, pv, o, h1.set 2 _, h2.s_wr 0, h3.other ht (fun k hk e => (h5 k hk).2 e), h4, h5⟩
  | pick t n ps o =>
    obtain ⟨F, g, pv, h1, h2, h3, h4, h5⟩ := h
    exact ⟨_, g, pv, h1.set 2 _, h2.s_wr 0, h3.other ht (fun k hk e => (h5 k hk).2 e), h4, h5⟩
  | len t ps gs ls now =>
    obtain ⟨F, Pb, d, pu, cu, h1, h2, h3, h4, h5, h6, h7, h8, h9, h10, h11, h12⟩ := h
    exact ⟨_, Pb, d, pu, cu, h1.set 2 _, h2.s_wr 0, h3.other ht h9, h4.other ht (fun k hk e => h10 ((show k = b from e) ▸ hk)), h5.other ht (fun k hk e => h10 ((show k = b from e) ▸ hk)), h6, h7, h8, h9, h10, h11, fun k hk => ⟨(h12 k hk).1, Nat.lt_of_lt_of_le (h12 k hk).2 ht.size⟩⟩
  | sym t ps gs cnt done =>
    obtain ⟨F, Pb, pu, cu, h1, h2, h4, h5, h7, h10, h12⟩ := h
    exact ⟨_, Pb, pu, cu, h1.set 2 _, h2.s_wr 0, h4.other ht (fun k hk e => h10 ((show k = b from e) ▸ hk)), h5.other ht (fun k hk e => h10 ((show k = b from e) ▸ hk)), h7, h10, fun k hk => ⟨(h12 k hk).1, Nat.lt_of_lt_of_le (h12 k hk).2 ht.size⟩⟩
theorem IsCR.obj {w : World} {b N : Nat} {O : Nat → Prop} {s : CSt} (h : IsCR w b N O s) : (∃ F, ObjF 11 101 w b F) ∧ O b := by
  cases s with
  | fields =>
    obtain ⟨F, g, pv, o, h1, h2, h3, h4, h5⟩ := h
    exact ⟨⟨F, h1⟩, h4⟩
  | pick t n ps o =>
    obtain ⟨F, g, pv, h1, h2, h3, h4, h5⟩ := h
    exact ⟨⟨F, h1⟩, h4⟩
  | len t ps gs ls now =>
    obtain ⟨F, Pb, d, pu, cu, h1, h2, h3, h4, h5, h6, h7, _⟩ := h
    exact ⟨⟨F, h1⟩, h7⟩
  | sym t ps gs cnt done =>
    obtain ⟨F, Pb, pu, cu, h1, h2, h4, h5, h7, _⟩ := h
    exact ⟨⟨F, h1⟩, h7⟩
theorem IsCR.shrink {w : World} {b N : Nat} {O : Nat → Prop} {s : CSt} (h : IsCR w b N O s) : IsCR w b N (fun k => O k ∧ k < w.heap.size) s := by
  cases s with
  | fields =>
    obtain ⟨F, g, pv, o, h1, h2, h3, h4, h5⟩ := h
    exact ⟨F, g, pv, o, h1, h2, h3, ⟨h4, h1.lt⟩, fun k hk => ⟨⟨(h5 k hk).1, (h3.lt k hk).2⟩, (h5 k hk).2⟩⟩
  | pick t n ps o =>
    obtain ⟨F, g, pv, h1, h2, h3, h4, h5⟩ := h
    exact ⟨F, g, pv, h1, h2, h3, ⟨h4, h1.lt⟩, fun k hk => ⟨⟨(h5 k hk).1, (h3.lt k hk).2⟩, (h5 k hk).2⟩⟩
  | len t ps gs ls now =>
    obtain ⟨F, Pb, d, pu, cu, h1, h2, h3, h4, h5, h6, h7, h8, h9, h10, h11, h12⟩ := h
    exact ⟨F, Pb, d, pu, cu, h1, h2, h3, h4, h5, h6, ⟨h7, h1.lt⟩, ⟨h8, h3.lt⟩, h9, h10, h11, fun k hk => ⟨⟨(h12 k hk).1, (h12 k hk).2⟩, (h12 k hk).2⟩⟩
  | sym t ps gs cnt done =>
    obtain ⟨F, Pb, pu, cu, h1, h2, h4, h5, h7, h10, h12⟩ := h
    exact ⟨F, Pb, pu, cu, h1, h2, h4, h5, ⟨h7, h1.lt⟩, h10, fun k hk => ⟨⟨(h12 k hk).1, (h12 k hk).2⟩, (h12 k hk).2⟩⟩
set_option maxRecDepth 100000 in
set_option maxHeartbeats 1000000 in
theorem cstep_done (b rb f : Nat) (w : World) (h1 : w.cell? ⟨b, 1, none⟩ = some (.func (.func f) #[.pointer (some ⟨b, 0, none⟩)] #[])) (h10 : w.cell? ⟨b, 10, none⟩ = some (.bool true)) : Calls Tryz.prog 23 #[.pointer (some ⟨b, 0, none⟩), .pointer (some ⟨rb, 0, none⟩)] w fun e w' => e = .returned (.tuple #[.int .i64 0, .int .i64 7]) ∧ w' = w := by
  have hfn := fun f xs W => func_eql f xs W
  go_enter Tryz.func23, Tryz.ntmps23
  go_wp2_with fail
  go_ret2
  exact ⟨rfl, rfl⟩
set_option maxRecDepth 100000 in
set_option maxHeartbeats 1000000 in
theorem cstep_bad (b rb : Nat) (er : Int) (O : Nat → Prop) (w : World) (h : IsCB w b er O) (he : er ≠ 0) : Calls Tryz.prog 23 #[.pointer (some ⟨b, 0, none⟩), .pointer (some ⟨rb, 0, none⟩)] w fun e w' => e = .returned (.tuple #[.int .i64 0, .int .i64 er]) ∧ ∃ m, w' = w.drewN m := by
  obtain ⟨F, f, N, hd, T, pu, tb, cu, held, cnt, h1, h2, _⟩ := h
  obtain ⟨c0, c1, c2, _, _, _, _, _, _, _, c10⟩ := cc_cells h1 h2
  unfold mth at c1
  have hb : (er == 0) = false := by rw [beq_eq_false_iff_ne]; exact he
  have hb2 : (er != 0) = true := by simp [he]
  clear h1 h2 he
  have hfn := fun f xs W => func_eql f xs W
  go_enter Tryz.func23, Tryz.ntmps23
  go_wp2_with fail
  go_quiet (fail)
  go_wp2_with fail
  go_ret2
  exact ⟨rfl, _, rfl⟩
set_option maxRecDepth 100000 in
set_option maxHeartbeats 4000000 in
theorem cstepF (b rb N : Nat)  (O : Nat → Prop) (v : Value) (l : List UInt8) (dr sp p : Nat) (w : World) (Q r : List Bool) (most a : Nat) (L : List Int) (hC : IsCR w b N O (.fields)) (hR : IsReader w rb v l dr sp p) (hs : dr + l.length ≤ 1099511627776)
    (hne : ∀ k, foot rb v k → ¬ O k) (hq : Q.drop a = (bitsOf l).drop (p - 8 * dr) ++ r) (hrt : RtC Q N most a L (.fields)) (h3 : 3 ≤ N) (h258 : N ≤ 258)  :
    Calls Tryz.prog 23 #[.pointer (some ⟨b, 0, none⟩), .pointer (some ⟨rb, 0, none⟩)] w fun e w' => OutC (fun er => er) w w' b rb N O v l dr sp p Q ((bitsOf l).drop (p - 8 * dr)) r most a L (.fields) e := by
  have hce := hC.cells
  have HOB := Lib.hid hC.obj.2
  have HNE := Lib.hid hne
  obtain ⟨c1', c2, c8, c9, c10⟩ := hce
  have hc1 : w.cell? ⟨b, 1, none⟩ = some (.func (.func 61) #[.pointer (some ⟨b, 0, none⟩)] #[]) := by
    obtain ⟨F, g, pv, o, h1, h2, _⟩ := hC
    exact (cc_cells h1 h2).2.1
  have HM : Hid (Calls Tryz.prog 61 #[.pointer (some ⟨b, 0, none⟩), .pointer (some ⟨rb, 0, none⟩)] w fun e w' => OutC (fun _ => 0) w w' b rb N O v l dr sp p Q ((bitsOf l).drop (p - 8 * dr)) r most a L .fields e) := Lib.hid (by
    obtain ⟨rfl, rfl⟩ := hrt
    exact cfields_any b rb N O v l dr sp p w Q r most hC hR hs hne hq)
  obtain ⟨st, hst⟩ : ∃ st : CSt, .fields = st := ⟨_, rfl⟩
  have c10' : w.cell? ⟨b, 10, none⟩ = some (.bool false) := c10
  rw [hst] at HM ⊢
  clear c1' c8 c9 c10 hC hR hne hq hrt hst
  have hfn := fun f xs W => func_eql f xs W
  go_enter Tryz.func23, Tryz.ntmps23
  go_wp2_with fail
  refine HM.out.mono ?_
  rintro e w1 ⟨x, er, used, O', rfl, hr1, ht1, hO1, hu1, hcase⟩
  have HR1 := Lib.hid hr1
  have HT1 := Lib.hid ht1
  have HO1 := Lib.hid hO1
  have HU1 := Lib.hid hu1
  clear hr1 ht1 hO1 hu1 HM
  rcases hcase with ⟨rfl, hus, s', hC', hx⟩ | ⟨he0, he3, rfl, hB, hrd⟩ | ⟨rfl, rfl, rfl, hC', hrd⟩
  · have HUS := Lib.hid hus
    have HC' := Lib.hid hC'
    have HX := Lib.hid hx
    obtain ⟨_, d2, _⟩ := hC'.cells
    obtain ⟨F', hF'⟩ := hC'.obj.1
    have f2 := (hF'.cell (i := 2) (by omega)).2
    clear hus hC' hx hF'
    go_wp2_with fail
    go_ret2
    have hT : Touch (· = b) w1 (w1.setCell ⟨b, 2, none⟩ (.int .i64 0)) := cc_upd_other
    exact ⟨x, 0, used, O', rfl, HR1.out.other hT (fun k hk e => HNE.out k hk (by rw [show k = b from e]; exact HOB.out)), cd_tr HT1.out (cd_b hT HOB.out), HO1.out, HU1.out, Or.inl ⟨rfl, HUS.out, s', HC'.out.s_wr, HX.out⟩⟩
  · have hb3 : (er == 3) = false := by rw [beq_eq_false_iff_ne]; exact he3
    have hb3' : (er != 3) = true := by simp [he3]
    have HRD := Lib.hid hrd
    have HE0 := Lib.hid he0
    have HE3 := Lib.hid he3
    obtain ⟨F', f, N', hd', T', pu', tb', cu', held', cnt', hF', hcc', hob'⟩ := hB
    have HF' := Lib.hid hF'
    have HCC' := Lib.hid hcc'
    obtain ⟨_, _, d2, _⟩ := cc_cells hF' hcc'
    have f2 := (hF'.cell (i := 2) (by omega)).2
    clear hrd he0 he3 hF' hcc'
    go_wp2_with fail
    go_ret2
    have hT : Touch (· = b) w1 (w1.setCell ⟨b, 2, none⟩ (.int .i64 er)) := cc_upd_other
    exact ⟨0, er, used, O', rfl, HR1.out.other hT (fun k hk e => HNE.out k hk (by rw [show k = b from e]; exact HOB.out)), cd_tr HT1.out (cd_b hT HOB.out), HO1.out, HU1.out, Or.inr (Or.inl ⟨HE0.out, HE3.out, rfl, ⟨_, f, N', hd', T', pu', tb', cu', held', cnt', HF'.out.set 2 _, HCC'.out.s_wr er, hob'⟩, HRD.out⟩)⟩
  · have HRD := Lib.hid hrd
    have HC' := Lib.hid hC'
    clear hrd hC'
    go_wp2_with fail
    go_ret2
    exact ⟨0, 3, 0, O', rfl, HR1.out, HT1.out, HO1.out, HU1.out, Or.inr (Or.inr ⟨rfl, rfl, rfl, HC'.out, HRD.out⟩)⟩
set_option maxRecDepth 100000 in
set_option maxHeartbeats 4000000 in
theorem cstepP (b rb N : Nat) (t n : Nat) (ps o : List Nat) (O : Nat → Prop) (v : Value) (l : List UInt8) (dr sp p : Nat) (w : World) (Q r : List Bool) (most a : Nat) (L : List Int) (hC : IsCR w b N O (.pick t n ps o)) (hR : IsReader w rb v l dr sp p) (hs : dr + l.length ≤ 1099511627776)
    (hne : ∀ k, foot rb v k → ¬ O k) (hq : Q.drop a = (bitsOf l).drop (p - 8 * dr) ++ r) (hrt : RtC Q N most a L (.pick t n ps o)) (h3 : 3 ≤ N) (h258 : N ≤ 258)  :
    Calls Tryz.prog 23 #[.pointer (some ⟨b, 0, none⟩), .pointer (some ⟨rb, 0, none⟩)] w fun e w' => OutC (fun er => er) w w' b rb N O v l dr sp p Q ((bitsOf l).drop (p - 8 * dr)) r most a L (.pick t n ps o) e := by
  have hce := hC.cells
  have HOB := Lib.hid hC.obj.2
  have HNE := Lib.hid hne
  obtain ⟨c1', c2, c8, c9, c10⟩ := hce
  have hc1 : w.cell? ⟨b, 1, none⟩ = some (.func (.func 111) #[.pointer (some ⟨b, 0, none⟩)] #[]) := by
    obtain ⟨F, g, pv, h1, h2, _⟩ := hC
    exact (cc_cells h1 h2).2.1
  have HM := Lib.hid (cpick_any b rb N t n ps o O v l dr sp p w Q r most a L hC hR hs hne hq hrt h3 h258)
  obtain ⟨st, hst⟩ : ∃ st : CSt, .pick t n ps o = st := ⟨_, rfl⟩
  have c10' : w.cell? ⟨b, 10, none⟩ = some (.bool false) := c10
  rw [hst] at HM ⊢
  clear c1' c8 c9 c10 hC hR hne hq hrt hst
  have hfn := fun f xs W => func_eql f xs W
  go_enter Tryz.func23, Tryz.ntmps23
  go_wp2_with fail
  refine HM.out.mono ?_
  rintro e w1 ⟨x, er, used, O', rfl, hr1, ht1, hO1, hu1, hcase⟩
  have HR1 := Lib.hid hr1
  have HT1 := Lib.hid ht1
  have HO1 := Lib.hid hO1
  have HU1 := Lib.hid hu1
  clear hr1 ht1 hO1 hu1 HM
  rcases hcase with ⟨rfl, hus, s', hC', hx⟩ | ⟨he0, he3, rfl, hB, hrd⟩ | ⟨rfl, rfl, rfl, hC', hrd⟩
  · have HUS := Lib.hid hus
    have HC' := Lib.hid hC'
    have HX := Lib.hid hx
    obtain ⟨_, d2, _⟩ := hC'.cells
    obtain ⟨F', hF'⟩ := hC'.obj.1
    have f2 := (hF'.cell (i := 2) (by omega)).2
    clear hus hC' hx hF'
    go_wp2_with fail
    go_ret2
    have hT : Touch (· = b) w1 (w1.setCell ⟨b, 2, none⟩ (.int .i64 0)) := cc_upd_other
    exact ⟨x, 0, used, O', rfl, HR1.out.other hT (fun k hk e => HNE.out k hk (by rw [show k = b from e]; exact HOB.out)), cd_tr HT1.out (cd_b hT HOB.out), HO1.out, HU1.out, Or.inl ⟨rfl, HUS.out, s', HC'.out.s_wr, HX.out⟩⟩
  · have hb3 : (er == 3) = false := by rw [beq_eq_false_iff_ne]; exact he3
    have hb3' : (er != 3) = true := by simp [he3]
    have HRD := Lib.hid hrd
    have HE0 := Lib.hid he0
    have HE3 := Lib.hid he3
    obtain ⟨F', f, N', hd', T', pu', tb', cu', held', cnt', hF', hcc', hob'⟩ := hB
    have HF' := Lib.hid hF'
    have HCC' := Lib.hid hcc'
    obtain ⟨_, _, d2, _⟩ := cc_cells hF' hcc'
    have f2 := (hF'.cell (i := 2) (by omega)).2
    clear hrd he0 he3 hF' hcc'
    go_wp2_with fail
    go_ret2
    have hT : Touch (· = b) w1 (w1.setCell ⟨b, 2, none⟩ (.int .i64 er)) := cc_upd_other
    exact ⟨0, er, used, O', rfl, HR1.out.other hT (fun k hk e => HNE.out k hk (by rw [show k = b from e]; exact HOB.out)), cd_tr HT1.out (cd_b hT HOB.out), HO1.out, HU1.out, Or.inr (Or.inl ⟨HE0.out, HE3.out, rfl, ⟨_, f, N', hd', T', pu', tb', cu', held', cnt', HF'.out.set 2 _, HCC'.out.s_wr er, hob'⟩, HRD.out⟩)⟩
  · have HRD := Lib.hid hrd
    have HC' := Lib.hid hC'
    clear hrd hC'
    go_wp2_with fail
    go_ret2
    exact ⟨0, 3, 0, O', rfl, HR1.out, HT1.out, HO1.out, HU1.out, Or.inr (Or.inr ⟨rfl, rfl, rfl, HC'.out, HRD.out⟩)⟩
set_option maxRecDepth 100000 in
set_option maxHeartbeats 4000000 in
theorem cstepL (b rb N : Nat) (t : Nat) (ps : List Nat) (gs : List (List Int)) (ls : List Int) (now : Int) (O : Nat → Prop) (v : Value) (l : List UInt8) (dr sp p : Nat) (w : World) (Q r : List Bool) (most a : Nat) (L : List Int) (hC : IsCR w b N O (.len t ps gs ls now)) (hR : IsReader w rb v l dr sp p) (hs : dr + l.length ≤ 1099511627776)
    (hne : ∀ k, foot rb v k → ¬ O k) (hq : Q.drop a = (bitsOf l).drop (p - 8 * dr) ++ r) (hrt : RtC Q N most a L (.len t ps gs ls now)) (h3 : 3 ≤ N) (h258 : N ≤ 258)  :
    Calls Tryz.prog 23 #[.pointer (some ⟨b, 0, none⟩), .pointer (some ⟨rb, 0, none⟩)] w fun e w' => OutC (fun er => er) w w' b rb N O v l dr sp p Q ((bitsOf l).drop (p - 8 * dr)) r most a L (.len t ps gs ls now) e := by
  have hce := hC.cells
  have HOB := Lib.hid hC.obj.2
  have HNE := Lib.hid hne
  obtain ⟨c1', c2, c8, c9, c10⟩ := hce
  have hc1 : w.cell? ⟨b, 1, none⟩ = some (.func (.func 227) #[.pointer (some ⟨b, 0, none⟩)] #[]) := by
    obtain ⟨F, Pb, d, pu, cu, h1, h2, _⟩ := hC
    exact (cc_cells h1 h2).2.1
  have HM := Lib.hid (clength_any b rb N t ps gs ls now O v l dr sp p w Q r most a L hC hR hs hne hq hrt h3 h258)
  obtain ⟨st, hst⟩ : ∃ st : CSt, .len t ps gs ls now = st := ⟨_, rfl⟩
  have c10' : w.cell? ⟨b, 10, none⟩ = some (.bool false) := c10
  rw [hst] at HM ⊢
  clear c1' c8 c9 c10 hC hR hne hq hrt hst
  have hfn := fun f xs W => func_eql f xs W
  go_enter Tryz.func23, Tryz.ntmps23
  go_wp2_with fail
  refine HM.out.mono ?_
  rintro e w1 ⟨x, er, used, O', rfl, hr1, ht1, hO1, hu1, hcase⟩
  have HR1 := Lib.hid hr1
  have HT1 := Lib.hid ht1
  have HO1 := Lib.hid hO1
  have HU1 := Lib.hid hu1
  clear hr1 ht1 hO1 hu1 HM
  rcases hcase with ⟨rfl, hus, s', hC', hx⟩ | ⟨he0, he3, rfl, hB, hrd⟩ | ⟨rfl, rfl, rfl, hC', hrd⟩
  · have HUS := Lib.hid hus
    have HC' := Lib.hid hC'
    have HX := Lib.hid hx
    obtain ⟨_, d2, _⟩ := hC'.cells
    obtain ⟨F', hF'⟩ := hC'.obj.1
    have f2 := (hF'.cell (i := 2) (by omega)).2
    clear hus hC' hx hF'
    go_wp2_with fail
    go_ret2
    have hT : Touch (· = b) w1 (w1.setCell ⟨b, 2, none⟩ (.int .i64 0)) := cc_upd_other
    exact ⟨x, 0, used, O', rfl, HR1.out.other hT (fun k hk e => HNE.out k hk (by rw [show k = b from e]; exact HOB.out)), cd_tr HT1.out (cd_b hT HOB.out), HO1.out, HU1.out, Or.inl ⟨rfl, HUS.out, s', HC'.out.s_wr, HX.out⟩⟩
  · have hb3 : (er == 3) = false := by rw [beq_eq_false_iff_ne]; exact he3
    have hb3' : (er != 3) = true := by simp [he3]
    have HRD := Lib.hid hrd
    have HE0 := Lib.hid he0
    have HE3 := Lib.hid he3
    obtain ⟨F', f, N', hd', T', pu', tb', cu', held', cnt', hF', hcc', hob'⟩ := hB
    have HF' := Lib.hid hF'
    have HCC' := Lib.hid hcc'
    obtain ⟨_, _, d2, _⟩ := cc_cells hF' hcc'
    have f2 := (hF'.cell (i := 2) (by omega)).2
    clear hrd he0 he3 hF' hcc'
    go_wp2_with fail
    go_ret2
    have hT : Touch (· = b) w1 (w1.setCell ⟨b, 2, none⟩ (.int .i64 er)) := cc_upd_other
    exact ⟨0, er, used, O', rfl, HR1.out.other hT (fun k hk e => HNE.out k hk (by rw [show k = b from e]; exact HOB.out)), cd_tr HT1.out (cd_b hT HOB.out), HO1.out, HU1.out, Or.inr (Or.inl ⟨HE0.out, HE3.out, rfl, ⟨_, f, N', hd', T', pu', tb', cu', held', cnt', HF'.out.set 2 _, HCC'.out.s_wr er, hob'⟩, HRD.out⟩)⟩
  · have HRD := Lib.hid hrd
    have HC' := Lib.hid hC'
    clear hrd hC'
    go_wp2_with fail
    go_ret2
    exact ⟨0, 3, 0, O', rfl, HR1.out, HT1.out, HO1.out, HU1.out, Or.inr (Or.inr ⟨rfl, rfl, rfl, HC'.out, HRD.out⟩)⟩
set_option maxRecDepth 100000 in
set_option maxHeartbeats 4000000 in
theorem cstepS (b rb N : Nat) (t : Nat) (ps : List Nat) (gs : List (List Int)) (cnt : Nat) (O : Nat → Prop) (v : Value) (l : List UInt8) (dr sp p : Nat) (w : World) (Q r : List Bool) (most a : Nat) (L : List Int) (hC : IsCR w b N O (.sym t ps gs cnt false)) (hR : IsReader w rb v l dr sp p) (hs : dr + l.length ≤ 1099511627776)
    (hne : ∀ k, foot rb v k → ¬ O k) (hq : Q.drop a = (bitsOf l).drop (p - 8 * dr) ++ r) (hrt : RtC Q N most a L (.sym t ps gs cnt false)) (h3 : 3 ≤ N) (h258 : N ≤ 258) (hcnt : cnt ≤ 10000000) :
    Calls Tryz.prog 23 #[.pointer (some ⟨b, 0, none⟩), .pointer (some ⟨rb, 0, none⟩)] w fun e w' => OutC (fun er => er) w w' b rb N O v l dr sp p Q ((bitsOf l).drop (p - 8 * dr)) r most a L (.sym t ps gs cnt false) e := by
  have hce := hC.cells
  have HOB := Lib.hid hC.obj.2
  have HNE := Lib.hid hne
  obtain ⟨c1', c2, c8, c9, c10⟩ := hce
  have hc1 : w.cell? ⟨b, 1, none⟩ = some (.func (.func 225) #[.pointer (some ⟨b, 0, none⟩)] #[]) := by
    obtain ⟨F, Pb, pu, cu, h1, h2, _⟩ := hC
    exact (cc_cells h1 h2).2.1
  have HM := Lib.hid (csymbol_any b rb N t ps gs cnt O v l dr sp p w Q r most a L hC hR hs hne hq hrt h3 h258 hcnt)
  obtain ⟨st, hst⟩ : ∃ st : CSt, .sym t ps gs cnt false = st := ⟨_, rfl⟩
  have c10' : w.cell? ⟨b, 10, none⟩ = some (.bool false) := c10
  rw [hst] at HM ⊢
  clear c1' c8 c9 c10 hC hR hne hq hrt hst
  have hfn := fun f xs W => func_eql f xs W
  go_enter Tryz.func23, Tryz.ntmps23
  go_wp2_with fail
  refine HM.out.mono ?_
  rintro e w1 ⟨x, er, used, O', rfl, hr1, ht1, hO1, hu1, hcase⟩
  have HR1 := Lib.hid hr1
  have HT1 := Lib.hid ht1
  have HO1 := Lib.hid hO1
  have HU1 := Lib.hid hu1
  clear hr1 ht1 hO1 hu1 HM
  rcases hcase with ⟨rfl, hus, s', hC', hx⟩ | ⟨he0, he3, rfl, hB, hrd⟩ | ⟨rfl, rfl, rfl, hC', hrd⟩
  · have HUS := Lib.hid hus
    have HC' := Lib.hid hC'
    have HX := Lib.hid hx
    obtain ⟨_, d2, _⟩ := hC'.cells
    obtain ⟨F', hF'⟩ := hC'.obj.1
    have f2 := (hF'.cell (i := 2) (by omega)).2
    clear hus hC' hx hF'
    go_wp2_with fail
    go_ret2
    have hT : Touch (· = b) w1 (w1.setCell ⟨b, 2, none⟩ (.int .i64 0)) := cc_upd_other
    exact ⟨x, 0, used, O', rfl, HR1.out.other hT (fun k hk e => HNE.out k hk (by rw [show k = b from e]; exact HOB.out)), cd_tr HT1.out (cd_b hT HOB.out), HO1.out, HU1.out, Or.inl ⟨rfl, HUS.out, s', HC'.out.s_wr, HX.out⟩⟩
  · have hb3 : (er == 3) = false := by rw [beq_eq_false_iff_ne]; exact he3
    have hb3' : (er != 3) = true := by simp [he3]
    have HRD := Lib.hid hrd
    have HE0 := Lib.hid he0
    have HE3 := Lib.hid he3
    obtain ⟨F', f, N', hd', T', pu', tb', cu', held', cnt', hF', hcc', hob'⟩ := hB
    have HF' := Lib.hid hF'
    have HCC' := Lib.hid hcc'
    obtain ⟨_, _, d2, _⟩ := cc_cells hF' hcc'
    have f2 := (hF'.cell (i := 2) (by omega)).2
    clear hrd he0 he3 hF' hcc'
    go_wp2_with fail
    go_ret2
    have hT : Touch (· = b) w1 (w1.setCell ⟨b, 2, none⟩ (.int .i64 er)) := cc_upd_other
    exact ⟨0, er, used, O', rfl, HR1.out.other hT (fun k hk e => HNE.out k hk (by rw [show k = b from e]; exact HOB.out)), cd_tr HT1.out (cd_b hT HOB.out), HO1.out, HU1.out, Or.inr (Or.inl ⟨HE0.out, HE3.out, rfl, ⟨_, f, N', hd', T', pu', tb', cu', held', cnt', HF'.out.set 2 _, HCC'.out.s_wr er, hob'⟩, HRD.out⟩)⟩
  · have HRD := Lib.hid hrd
    have HC' := Lib.hid hC'
    clear hrd hC'
    go_wp2_with fail
    go_ret2
    exact ⟨0, 3, 0, O', rfl, HR1.out, HT1.out, HO1.out, HU1.out, Or.inr (Or.inr ⟨rfl, rfl, rfl, HC'.out, HRD.out⟩)⟩
theorem cstep_any (b rb N : Nat) (s : CSt) (O : Nat → Prop) (v : Value) (l : List UInt8) (dr sp p : Nat) (w : World) (Q r : List Bool) (most a : Nat) (L : List Int) (hC : IsCR w b N O s) (hR : IsReader w rb v l dr sp p) (hs : dr + l.length ≤ 1099511627776)
    (hne : ∀ k, foot rb v k → ¬ O k) (hq : Q.drop a = (bitsOf l).drop (p - 8 * dr) ++ r) (hrt : RtC Q N most a L s) (h3 : 3 ≤ N) (h258 : N ≤ 258) (hd : s.done = false) (hcnt : s.cnt ≤ 10000000) :
    Calls Tryz.prog 23 #[.pointer (some ⟨b, 0, none⟩), .pointer (some ⟨rb, 0, none⟩)] w fun e w' => OutC (fun er => er) w w' b rb N O v l dr sp p Q ((bitsOf l).drop (p - 8 * dr)) r most a L s e := by
  cases s with
  | fields => exact cstepF b rb N O v l dr sp p w Q r most a L hC hR hs hne hq hrt h3 h258
  | pick t n ps o => exact cstepP b rb N t n ps o O v l dr sp p w Q r most a L hC hR hs hne hq hrt h3 h258
  | len t ps gs ls now => exact cstepL b rb N t ps gs ls now O v l dr sp p w Q r most a L hC hR hs hne hq hrt h3 h258
  | sym t ps gs cnt done =>
    have hd2 : done = false := hd
    subst hd2
    exact cstepS b rb N t ps gs cnt O v l dr sp p w Q r most a L hC hR hs hne hq hrt h3 h258 hcnt
end Go.Proofs.YtojphcoghbiepaaGreatDoor
namespace Go.Proofs.YtojphcoghbiepaaGreatDoor
open Go.RowKit BitM HufM CanM CodM
set_option linter.unusedVariables false
theorem RtC.le {Q : List Bool} {N most a : Nat} {L : List Int} {s : CSt} (h : RtC Q N most a L s) (hd : s.done = false) : L.length ≤ most := by
  cases s with
  | fields => rw [h.2]; exact Nat.zero_le _
  | pick t n ps o => rw [h.2.2.2]; exact Nat.zero_le _
  | len t ps gs ls now => rw [h.2.2.2.2.1]; exact Nat.zero_le _
  | sym t ps gs cnt done =>
    have hd2 : done = false := hd
    subst hd2
    obtain ⟨_, _, _, _, _, h⟩ := h
    rw [if_neg (by simp)] at h
    exact h.1
theorem RtC.cnt_is {Q : List Bool} {N most a : Nat} {L : List Int} {s : CSt} (h : RtC Q N most a L s) : s.cnt = L.length := by
  cases s with
  | fields => rw [h.2]; rfl
  | pick t n ps o => rw [h.2.2.2]; rfl
  | len t ps gs ls now => rw [h.2.2.2.2.1]; rfl
  | sym t ps gs cnt done => exact h.2.2.2.1.symm
theorem RtC.fin {Q : List Bool} {N most a : Nat} {L : List Int} {s : CSt} (h : RtC Q N most a L s) (hd : s.done = true) : rdC Q N most = .ok L a := by
  cases s with
  | fields => cases hd
  | pick t n ps o => cases hd
  | len t ps gs ls now => cases hd
  | sym t ps gs cnt done =>
    have hd2 : done = true := hd
    subst hd2
    obtain ⟨_, _, _, _, _, h⟩ := h
    rw [if_pos rfl] at h
    exact h
/-- What Read tells of bits, and how far the reader went on. -/
def RdP14 (Q : List Bool) (N most : Nat) (ls : List Int) (er : Int) (k : Nat) : Prop :=
  match rdC Q N most with
  | .ok l n => ls = l ∧ er = 0 ∧ k = n
  | .err e _ => ls = [] ∧ er = e ∧ k = 0
theorem RdP14.ok {Q : List Bool} {N most n : Nat} {l : List Int} (h : rdC Q N most = .ok l n) : RdP14 Q N most l 0 n := by unfold RdP14; rw [h]; exact ⟨rfl, rfl, rfl⟩
theorem RdP14.err {Q : List Bool} {N most : Nat} {e : Int} {l : List Int} (h : rdC Q N most = .err e l) : RdP14 Q N most [] e 0 := by unfold RdP14; rw [h]; exact ⟨rfl, rfl, rfl⟩
set_option maxRecDepth 100000 in
set_option maxHeartbeats 8000000 in
theorem crest_any (b rb N : Nat) (O : Nat → Prop) (v : Value) (l : List UInt8) (dr sp p : Nat) (w : World) (most : Nat) (hC : IsCR w b N O .fields) (hR : IsReader w rb v l dr sp p) (hs : dr + l.length ≤ 1099511627776)
    (hne : ∀ k, foot rb v k → ¬ O k) (h3 : 3 ≤ N) (h258 : N ≤ 258) (hsm : 8 * (dr + l.length) - p ≤ 10000000) :
    Calls Tryz.prog 54 #[.pointer (some ⟨b, 0, none⟩), .pointer (some ⟨rb, 0, none⟩), .int .i64 (most : Int)] w fun e w' => ∃ (u : Value) (ls : List Int) (er : Int) (k p' : Nat), e = .returned (.tuple #[u, .int .i64 er]) ∧ IsInts w' u ls ∧ RdP14 ((bitsOf l).drop (p - 8 * dr)) N most ls er k ∧ IsReader w' rb v l dr sp p' ∧ (er = 0 → p' = p + k) ∧ Touch (fun k => O k ∨ k = rb) w w' := by
  have HNE := Lib.hid hne
  have hbl := Lib.hid hR.lt
  have h1 := hR.2.2.2.1
  have h2 := hR.2.2.2.2
  have hql : Hid (((bitsOf l).drop (p - 8 * dr)).length = 8 * (dr + l.length) - p) := Lib.hid (by rw [List.length_drop, bitsOf_length]; omega)
  have hQd : Hid (∀ a, (bitsOf l).drop (p + a - 8 * dr) = ((bitsOf l).drop (p - 8 * dr)).drop a) := Lib.hid (fun a => by rw [List.drop_drop]; congr 1; omega)
  generalize hQ : (bitsOf l).drop (p - 8 * dr) = Q at *
  have HC := Lib.hid hC
  have HR := Lib.hid hR
  obtain ⟨B, hB⟩ : ∃ B, w.heap.size = B := ⟨_, rfl⟩
  have HB := Lib.hid hB
  clear hne hC hR hQ hB
  go_enter Tryz.func54, Tryz.ntmps54
  go_wp2_with fail
  go_loopw [8] (fun vl wr => ∃ (a : Nat) (s : CSt) (O' : Nat → Prop) (L : List Int), IsCR wr b N O' s ∧ RtC Q N most a L s ∧ IsReader wr rb v l dr sp (p + a) ∧ a ≤ 8 * (dr + l.length) - p ∧ L.length ≤ a ∧ OwnI wr B vl L ∧ (∀ k, vl.ownBlock = some k → ¬ O' k) ∧ (∀ k, O' k → O k ∨ B ≤ k) ∧ Touch (fun k => O k ∨ k = rb) w wr) (fun _ wr => 8 * (dr + l.length) - (match wr.cell? ⟨rb, 3, none⟩ with | some (.int _ z) => z.toNat | _ => 0))
  case atStart => exact ⟨0, .fields, O, [], HC.out, RtC.start _ _ _, HR.out, Nat.zero_le _, Nat.zero_le _, OwnI.nil _ _, fun k hk => (by cases hk), fun k hk => Or.inl hk, Touch.refl _ _⟩
  case round =>
    clear HC HR
    rename_i vl _
    obtain ⟨a, s, O', L, hC, hRt, hRd, ha, hLa, hOw, hOO, hO', hT⟩ := hrel
    have HRt := Lib.hid hRt
    have HRd := Lib.hid hRd
    have HT := Lib.hid hT
    have HOO := Lib.hid hOO
    have HO' := Lib.hid hO'
    have HOW := Lib.hid hOw
    obtain ⟨⟨f, c1⟩, c2, c8, c9, c10⟩ := hC.cells
    obtain ⟨al, cl, rfl⟩ := hOw.slice
    have HC := Lib.hid hC
    clear hRt hRd hT hOO hO' hOw hC c1 c2 c8
    cases hd : s.done with
    | true =>
      rw [hd] at c10
      have HRP := Lib.hid (RdP14.ok (RtC.fin (Q := Q) (N := N) (most := most) (a := a) (L := L) (s := s) HRt.out hd))
      clear hd c9
      go_wp2_with fail
      go_ret2
      exact ⟨_, L, 0, a, p + a, rfl, HOW.out.ints, HRP.out, HRd.out, fun _ => rfl, HT.out⟩
    | false =>
      rw [hd] at c10
      have hcl : s.cnt ≤ 10000000 := by rw [RtC.cnt_is (Q := Q) (N := N) (most := most) (a := a) (L := L) (s := s) HRt.out]; omega
      have hLm : L.length ≤ most := RtC.le (Q := Q) (N := N) (most := most) (a := a) (L := L) (s := s) HRt.out hd
      have HNE' : Hid (∀ k, foot rb v k → ¬ O' k) := Lib.hid (fun k hk hh => by
        rcases HO'.out k hh with e | e
        · exact HNE.out k hk e
        · have h1 := hbl.out k hk; have h2 := HB.out; omega)
      have hm0 := HRd.out.cells.2.2.2.1
      have HST := Lib.hid (cstep_any b rb N s O' v l dr sp (p + a) wr Q [] most a L HC.out HRd.out hs HNE'.out (by rw [hQd.out a, List.append_nil]) HRt.out h3 h258 hd hcl)
      rw [hQd.out a] at HST
      have HQL : Hid ((Q.drop a).length = 8 * (dr + l.length) - p - a) := Lib.hid (by rw [List.length_drop, hql.out])
      clear hcl hd c9
      go_wp2_with fail
      refine HST.out.mono ?_
      rintro e w1 ⟨x, er, used, O1, rfl, hr1, ht1, hO1, hu1, hcase⟩
      have HR1 := Lib.hid hr1
      have hBr : B ≤ wr.heap.size := by have h1 := HT.out.size; have h2 := HB.out; omega
      have HBR := Lib.hid hBr
      have HT1 : Hid (Touch (fun k => O k ∨ k = rb) w w1) := Lib.hid (HT.out.trans ht1 (fun k hk => by
        rcases hk with hk | hk
        · rcases HO'.out k hk with e | e
          · exact Or.inl (Or.inl e)
          · exact Or.inr (by have h2 := HB.out; omega)
        · exact Or.inl (Or.inr hk)))
      have hrbB : rb < B := by have h1 := hbl.out rb (Or.inl rfl); have h2 := HB.out; omega
      have HOW1 := Lib.hid (HOW.out.same (fun k hk => ht1.block k (HOW.out.lt k hk).2 (fun hh => by
        rcases hh with e | e
        · exact HOO.out k hk e
        · have h1 := (HOW.out.lt k hk).1; omega)))
      have HO1 : Hid (∀ k, O1 k → O k ∨ B ≤ k) := Lib.hid (fun k hk => by
        rcases hO1 k hk with e | e
        · exact HO'.out k e
        · exact Or.inr (by omega))
      have HOO1 : Hid (∀ k, (Value.slice al L.length cl).ownBlock = some k → ¬ O1 k) := Lib.hid (fun k hk hh => by
        rcases hO1 k hh with e | e
        · exact HOO.out k hk e
        · have h1 := (HOW.out.lt k hk).2; omega)
      have hua : used ≤ 8 * (dr + l.length) - p - a := by have := HQL.out; omega
      have hs1 := Lib.hid ht1.size
      have hm1 := hr1.cells.2.2.2.1
      clear hr1 ht1 hO1 hu1 HST hBr
      rcases hcase with ⟨rfl, hus, s', hC', hx⟩ | ⟨he0, he3, rfl, hB', hrd⟩ | ⟨rfl, rfl, rfl, hC', hrd⟩
      · obtain ⟨_, _, _, c9, _⟩ := hC'.cells
        have HC' := Lib.hid hC'
        rcases hx with ⟨rfl, hdn, hrt, hcn⟩ | ⟨i, hiN, rfl, hcn, _, hre, hrt⟩
        · rw [hcn] at c9
          have HRT := Lib.hid hrt
          have hLmi : ¬ (most : Int) < (L.length : Int) := by omega
          clear hdn hrt hcn hC'
          go_wp2_with fail
          go_roundw
          case rel => exact ⟨a + used, s', O1, L, HC'.out, HRT.out, by rw [← Nat.add_assoc]; exact HR1.out, by omega, by omega, HOW1.out, HOO1.out, HO1.out, HT1.out⟩
          case measure =>
            rw [hm0, hm1]
            simp
            omega
        · rw [hcn] at c9
          by_cases hLe : L.length = most
          · have HRP := Lib.hid (RdP14.err (hre hLe))
            have hLmi : (most : Int) < ((L.length + 1 : Nat) : Int) := by omega
            clear hre hrt hcn hC'
            go_wp2_with fail
            go_ret2
            exact ⟨.slice none 0 0, [], 2, 0, _, rfl, IsInts.nil _, HRP.out, HR1.out, fun h => absurd h (by decide), HT1.out⟩
          · have HRT := Lib.hid (hrt (by omega))
            have hLmi : ¬ (most : Int) < ((L.length + 1 : Nat) : Int) := by omega
            have hix : ((i : Int) == -1) = false := by rw [beq_eq_false_iff_ne]; omega
            have hix2 : ((i : Int) != -1) = true := by rw [bne, hix]; rfl
            have hlen : L.length + 1 ≤ 17592186044416 := by omega
            have HUS := Lib.hid hus
            clear hre hrt hcn hC' hLe
            go_wp2_with (at_builtin; refine push_int2 w1 rfl _ _ rfl B _ L (i : Int) HOW1.out rfl rfl hlen (by have h1 := hs1.out; have h2 := HBR.out; omega) ?_)
            intro v2 w2 hO2 hB2 hsame hfr
            have HO2 := Lib.hid hO2
            have hT2 : Touch (fun k => (Value.slice al L.length cl).ownBlock = some k) w1 w2 := ⟨hB2.os, hB2.tape, hB2.output, hB2.size, fun k hk hn => hsame k hk hn⟩
            have HC2 := Lib.hid ((HC'.out.shrink).other hT2 (fun k hk e => HOO1.out k e hk.1))
            have HR2 := Lib.hid (HR1.out.other hT2 (fun k hk e => by have h1 := (HOW1.out.lt k e).1; have h2 := hbl.out k hk; have h3 := HB.out; omega))
            have HT2 : Hid (Touch (fun k => O k ∨ k = rb) w w2) := Lib.hid (HT1.out.trans hT2 (fun k hk => Or.inr (by have h1 := (HOW1.out.lt k hk).1; have h3 := HB.out; omega)))
            have HOO2 : Hid (∀ k, v2.ownBlock = some k → ¬ (O1 k ∧ k < w1.heap.size)) := Lib.hid (fun k hk hh => by
              rcases hfr k hk with e | e
              · exact HOO1.out k e hh.1
              · omega)
            have hm2 := HR2.out.cells.2.2.2.1
            clear hO2 hB2 hsame hfr hT2 hm1
            go_wp2_with fail
            go_roundw
            case rel => exact ⟨a + used, s', _, L ++ [(i : Int)], HC2.out, HRT.out, by rw [← Nat.add_assoc]; exact HR2.out, by omega, by have := HUS.out; rw [List.length_append]; show L.length + 1 ≤ a + used; omega, HO2.out, HOO2.out, fun k hk => HO1.out k hk.1, HT2.out⟩
            case measure =>
              have := HUS.out
              rw [hm0, hm2]
              simp
              omega
      · have HRP := Lib.hid (RdP14.err hrd)
        have hb0 : (er == 0) = false := by rw [beq_eq_false_iff_ne]; exact he0
        have hb0' : (er != 0) = true := by simp [he0]
        have HE0 := Lib.hid he0
        clear he0 he3 hB' hrd
        go_wp2_with fail
        go_ret2
        exact ⟨.slice none 0 0, [], er, 0, _, rfl, IsInts.nil _, HRP.out, HR1.out, fun h => absurd h HE0.out, HT1.out⟩
      · have HRP := Lib.hid (RdP14.err (hrd rfl))
        clear hC' hrd
        go_wp2_with fail
        go_ret2
        exact ⟨.slice none 0 0, [], 3, 0, _, rfl, IsInts.nil _, HRP.out, HR1.out, fun h => absurd h (by decide), HT1.out⟩
/-! ### Read -/
set_option maxHeartbeats 1000000 in
theorem cread_arg (rb : Nat) (n m : Int) (w : World) (h : ¬ (3 ≤ n ∧ n ≤ 258) ∨ m < 0) : Calls Tryz.prog 15 #[.pointer (some ⟨rb, 0, none⟩), .int .i64 n, .int .i64 m] w fun e w' => e = .returned (.tuple #[.slice none 0 0, .int .i64 1]) ∧ Below w.heap.size w w' := by
  by_cases hn : 3 ≤ n ∧ n ≤ 258
  · have hm : m < 0 := h.resolve_left (fun e => e hn)
    obtain ⟨N, rfl⟩ : ∃ N : Nat, n = (N : Int) := ⟨n.toNat, by omega⟩
    have HN := Lib.hid (cnew_yes N w (by omega) (by omega))
    clear h hn
    go_enter Tryz.func15, Tryz.ntmps15
    go_wp2_with fail
    refine HN.out.mono ?_
    rintro e w1 ⟨b, rfl, _, hb1⟩
    have HB1 := Lib.hid hb1
    clear hb1
    go_wp2_with fail
    go_ret2
    exact ⟨rfl, HB1.out⟩
  · have HN := Lib.hid (cnew_no n w (by omega))
    clear h hn
    go_enter Tryz.func15, Tryz.ntmps15
    go_wp2_with fail
    refine HN.out.mono ?_
    rintro e w1 ⟨rfl, rfl⟩
    go_wp2_with fail
    go_ret2
    exact ⟨rfl, Below.refl _ _⟩
set_option maxRecDepth 100000 in
set_option maxHeartbeats 2000000 in
theorem cread_any (rb N most : Nat) (v : Value) (l : List UInt8) (dr sp p : Nat) (w : World) (hR : IsReader w rb v l dr sp p) (hs : dr + l.length ≤ 1099511627776) (h3 : 3 ≤ N) (h258 : N ≤ 258) (hsm : 8 * (dr + l.length) - p ≤ 10000000) :
    Calls Tryz.prog 15 #[.pointer (some ⟨rb, 0, none⟩), .int .i64 (N : Int), .int .i64 (most : Int)] w fun e w' => ∃ (u : Value) (ls : List Int) (er : Int) (k : Nat), e = .returned (.tuple #[u, .int .i64 er]) ∧ IsInts w' u ls ∧ RdP14 ((bitsOf l).drop (p - 8 * dr)) N most ls er k ∧ IsReader w' rb v l dr sp (p + k) ∧ Touch (· = rb) w w' := by
  have h1 := hR.2.2.2.1
  have h2 := hR.2.2.2.2
  have hbl := Lib.hid hR.lt
  have HR := Lib.hid hR
  have HN := Lib.hid (cnew_yes N w h3 h258)
  have hmz : ¬ (most : Int) < 0 := by omega
  clear hR
  go_enter Tryz.func15, Tryz.ntmps15
  go_wp2_with fail
  refine HN.out.mono ?_
  rintro e w1 ⟨b, rfl, hC1, hb1⟩
  have HC1 := Lib.hid hC1
  have HB1 := Lib.hid hb1
  have HR1 := Lib.hid (HR.out.other (Touch.ofBelow (S := fun _ => False) hb1) (fun _ _ h => h))
  clear hC1 hb1 HN
  go_wp2_with fail
  refine (rat_any rb v l dr sp p w1 HR1.out).mono ?_
  rintro e w2 ⟨rfl, rfl⟩
  have HRS := Lib.hid (crest_any b rb N _ v l dr sp p w1 most HC1.out HR1.out hs (fun k hk hh => by have h1 := hbl.out k hk; omega) h3 h258 hsm)
  go_wp2_with fail
  refine HRS.out.mono ?_
  rintro e w3 ⟨u, ls, er, k, p', rfl, hi3, hp3, hr3, hpk, ht3⟩
  have HI3 := Lib.hid hi3
  have HP3 := Lib.hid hp3
  have HR3 := Lib.hid hr3
  have HPK := Lib.hid hpk
  have HT3 : Hid (Touch (· = rb) w w3) := Lib.hid ((Touch.ofBelow (S := (· = rb)) HB1.out).trans ht3 (fun j hj => by
    rcases hj with hj | hj
    · exact Or.inr hj.1
    · exact Or.inl hj))
  clear hi3 hp3 hr3 hpk ht3 HRS
  by_cases he : er = 0
  · subst he
    have hr4 := HR3.out
    rw [HPK.out rfl] at hr4
    have HR4 := Lib.hid hr4
    clear hr4
    go_wp2_with fail
    go_ret2
    exact ⟨u, ls, 0, k, rfl, HI3.out, HP3.out, HR4.out, HT3.out⟩
  · have hb0 : (er == 0) = false := by rw [beq_eq_false_iff_ne]; exact he
    have hb0' : (er != 0) = true := by simp [he]
    have HE := Lib.hid he
    clear he
    go_wp2_with fail
    refine (seek_yes rb v l dr sp p' p w3 HR3.out hs h1 h2).mono ?_
    rintro e w4 ⟨rfl, hr4, ht4⟩
    have HR4 := Lib.hid hr4
    have HT4 := Lib.hid (HT3.out.trans ht4 (fun _ h => Or.inl h))
    clear hr4 ht4
    go_wp2_with fail
    go_ret2
    refine ⟨.slice none 0 0, [], er, 0, rfl, IsInts.nil _, ?_, HR4.out, HT4.out⟩
    have h5 := HP3.out
    unfold RdP14 at h5 ⊢
    cases hr : rdC ((bitsOf l).drop (p - 8 * dr)) N most with
    | ok l' n =>
      rw [hr] at h5
      exact absurd h5.2.1 HE.out
    | err e' _ =>
      rw [hr] at h5
      exact ⟨rfl, h5.2.1, rfl⟩
end Go.Proofs.YtojphcoghbiepaaGreatDoor
namespace Go.Proofs.YtojphcoghbiepaaGreatDoor
open Go.RowKit BitM
set_option linter.unusedVariables false
theorem pad_bytes (Q : List Bool) : ∃ n, (Q ++ padding Q).length = 8 * n ∧ 8 * n ≤ Q.length + 7 := by
  have h : (Q ++ padding Q).length = Q.length + (8 - Q.length % 8) % 8 := by
    rw [List.length_append]
    unfold padding
    rw [field_length]
  exact ⟨(Q.length + (8 - Q.length % 8) % 8) / 8, by omega, by omega⟩
theorem app_list (a b : ByteArray) : (a ++ b).data.toList = a.data.toList ++ b.data.toList := by
  rw [ByteArray.data_append, Array.toList_append]
/-- The bits of the taken bytes and what is behind them. -/
theorem taken_bits (Q : List Bool) (s : ByteArray) : bitsOf ((⟨(byts (Q ++ padding Q)).toArray⟩ : ByteArray) ++ s).data.toList = Q ++ (padding Q ++ bitsOf s.data.toList) := by
  obtain ⟨n, hn, _⟩ := pad_bytes Q
  rw [app_list, bitsOf_append]
  show bitsOf (byts (Q ++ padding Q)) ++ _ = _
  rw [bitsOf_byts n _ hn, List.append_assoc]
end Go.Proofs.YtojphcoghbiepaaGreatDoor
