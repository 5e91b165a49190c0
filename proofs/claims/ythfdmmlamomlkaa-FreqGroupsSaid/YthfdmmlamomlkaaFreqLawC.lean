/-
  LAYER 8's STATEMENTS: rows of rows (balerref08.Groups); FreqGroups.
-/
import Derived.Test.YthfdmmlamomlkaaFreqLawA
import Derived.Deep.Cut
namespace Go.Proofs.Ythfdmmlamomlkaa
open Go.RowKit FreqM
set_option linter.unusedVariables false
theorem info_slice : (Try.prog.info? 22).map (fun i => (i.zero, i.size, i.bytes)) = some (some (.slice none 0 0), 1, 24) := by kernel_rfl
/-- v is a row of rows, each in blocks below bn, the call's own. -/
def OwnRR (W : World) (B bn : Nat) (v : Value) (gs : List (List Int)) : Prop :=
  B ≤ bn ∧ bn ≤ W.heap.size ∧ (∀ k, v.ownBlock = some k → k < bn) ∧ ∃ vs : List Value, vs.length = gs.length ∧ W.ownsRow B 22 1 v gs.length vs ∧
    ∀ (i : Nat) (u : Value), vs[i]? = some u → ∃ g, gs[i]? = some g ∧ OwnI W 0 u g ∧ ∀ k, u.ownBlock = some k → k < bn ∧ v.ownBlock ≠ some k
theorem OwnRR.nil (W : World) (B : Nat) (hB : B ≤ W.heap.size) : OwnRR W B B (.slice none 0 0) [] :=
  ⟨Nat.le_refl _, hB, fun k h => by simp [Value.ownBlock] at h, [], rfl, World.ownsRow_nil _ _ _ _, fun i u h => by simp at h⟩
theorem OwnRR.below {W W' : World} {B bn : Nat} {v : Value} {gs : List (List Int)} (h : OwnRR W B bn v gs) (hb : Below bn W W') : OwnRR W' B bn v gs := by
  obtain ⟨h1, h2, h3, vs, h4, h5, h6⟩ := h
  refine ⟨h1, Nat.le_trans h2 hb.size, h3, vs, h4, ownsRow_other h5 (fun k hk => hb.block k (h3 k hk)), fun i u hu => ?_⟩
  obtain ⟨g, hg, ho, hk⟩ := h6 i u hu
  exact ⟨g, hg, ho.same (fun k hkk => hb.block k (hk k hkk).1), hk⟩
/-- v reads as a row of rows. -/
def IsRR (w : World) (v : Value) (gs : List (List Int)) : Prop := ∃ a cap, v = .slice a gs.length cap ∧ ∀ (i : Nat) (g : List Int), gs[i]? = some g → ∃ b off u, a = some ⟨b, off, none⟩ ∧ w.cell? ⟨b, off + i, none⟩ = some u ∧ IsInts w u g
theorem IsRR.below {w w' : World} {v : Value} {gs : List (List Int)} (h : IsRR w v gs) (hb : Below w.heap.size w w') : IsRR w' v gs := by
  obtain ⟨a, cap, hv, hc⟩ := h
  refine ⟨a, cap, hv, fun i g hg => ?_⟩
  obtain ⟨b, off, u, ha, hcell, hi⟩ := hc i g hg
  exact ⟨b, off, u, ha, (hb.cell (cell_lt hcell)).trans hcell, hi.below hb⟩
theorem OwnRR.rr {W : World} {B bn : Nat} {v : Value} {gs : List (List Int)} (h : OwnRR W B bn v gs) : IsRR W v gs := by
  obtain ⟨h1, h2, h3, vs, h4, h5, h6⟩ := h
  rcases h5.2 with ⟨rfl, h0⟩ | ⟨g, cap, cur, rfl, _, hg, _⟩
  · obtain rfl : gs = [] := List.eq_nil_of_length_eq_zero h0
    exact ⟨none, 0, rfl, fun i g hg => by simp at hg⟩
  · refine ⟨_, cap, rfl, fun i x hx => ?_⟩
    have hi := (List.getElem?_eq_some_iff.1 hx).1
    have hvi : vs[i]? = some (vs[i]'(by omega)) := List.getElem?_eq_getElem (by omega)
    obtain ⟨g', hg', ho, _⟩ := h6 i _ hvi
    rw [hx] at hg'
    cases hg'
    exact ⟨g, 0, _, rfl, by rw [Nat.zero_add, h5.cellAt i (by omega), hvi], ho.ints⟩
set_option maxHeartbeats 1000000 in
theorem push_row {ops : Array Oper} {rest : List Oper} {o : Oper} {a : Act} {Q : Exit → Act → World → Prop} (W : World) (hgd : o.guard = none) (s x : Operand)
    (ho : o.op = .call { callee := .builtin .append, args := #[s, x], argTypes := #[50, 50] })
    (B bn : Nat) (v : Value) (gs : List (List Int)) (u : Value) (g : List Int) (hown : OwnRR W B bn v gs) (hu : OwnI W bn u g) (hs : a.eval s = v) (hx : a.eval x = .slice (some ⟨W.heap.size, 0, none⟩) 1 1)
    (hlen : gs.length + 1 ≤ 1099511627776)
    (h : ∀ v' w', OwnRR w' B w'.heap.size v' (gs ++ [g]) → Below B W w' → wpList Try.prog ops Q rest (a.put o.dst v') w') :
    wpList Try.prog ops Q (o :: rest) a (W.alloc (.cells #[u] 22)) := by
  obtain ⟨i0, hi, hz0, hz1, hz2⟩ := info_parts info_slice
  obtain ⟨h1, h2, h3, vs, h4, h5, h6⟩ := hown
  refine wpList_append_own2 hgd s x 50 ho B 22 i0 (.slice none 0 0) 1 24 Try.underlying50 hi hz0 hz1 hz2 rfl (by decide) v gs.length vs (World.ownsRow.alloc h5 _) hs ⟨W.heap.size, 0, none⟩ 1 1 [u] hx rfl ?_ ?_ ?_ ?_ ?_ ?_
  · exact news_new _ _ _ _ rfl
  · intro y hy
    rw [List.mem_singleton] at hy
    subst hy
    obtain ⟨a1, c1, rfl⟩ := hu.slice
    rfl
  · unfold maxLen; omega
  · omega
  · simp; omega
  · intro v' w' hown' hg hv
    have hBW : Below B W w' := Below.grown ((Below.refl B W).alloc (by omega) _) hg (by simp; omega) (fun j hj => (World.ownsRow.lt h5 j hj).1)
    have keep : ∀ k, k < W.heap.size → v.ownBlock ≠ some k → w'.heap[k]? = W.heap[k]? := fun k hk hne => (hg.block k (by simp; omega) (fun e => hne e.symm)).trans (alloc_old hk)
    have hvv : ∀ k, v'.ownBlock = some k → v.ownBlock = some k ∨ W.heap.size ≤ k := fun k hk => (hv k hk).imp id (fun h => by simp at h; omega)
    refine h v' w' ⟨Nat.le_trans (by omega) hBW.size, Nat.le_refl _, fun k hk => (World.ownsRow.lt hown' k hk).2, vs ++ [u], by simp [h4], by rw [List.length_append]; exact hown', fun i y hy => ?_⟩ hBW
    rw [List.getElem?_append] at hy
    split at hy
    · rename_i hlt
      obtain ⟨g', hg', ho', hk'⟩ := h6 i y hy
      refine ⟨g', by rw [List.getElem?_append_left (by omega)]; exact hg', ho'.same (fun k hk => keep k (by have := (hk' k hk).1; omega) (hk' k hk).2), fun k hk => ⟨by have := (hk' k hk).1; have := hBW.size; omega, fun e => ?_⟩⟩
      rcases hvv k e with h | h
      · exact (hk' k hk).2 h
      · have := (hk' k hk).1; omega
    · rename_i hge
      have hi0 : i - vs.length = 0 := by
        by_cases h0 : i - vs.length = 0
        · exact h0
        · exfalso
          rw [List.getElem?_eq_none (by simp; omega)] at hy
          cases hy
      rw [hi0] at hy
      simp only [List.getElem?_cons_zero, Option.some.injEq] at hy
      subst hy
      have hne : ∀ k, u.ownBlock = some k → v.ownBlock ≠ some k := fun k hk e => by have h7 := (hu.lt k hk).1; have h8 := h3 k e; omega
      refine ⟨g, by rw [show i = gs.length by omega]; simp, (hu.lower (Nat.zero_le _)).same (fun k hk => keep k (hu.lt k hk).2 (hne k hk)), fun k hk => ⟨by have := (hu.lt k hk).2; have := hBW.size; omega, fun e => ?_⟩⟩
      rcases hvv k e with h | h
      · exact hne k hk h
      · have := (hu.lt k hk).2; omega
/-- How far Groups has come behind k symbols: q groups are whole, now is what is open. -/
def GrS (zs : List Int) (k q : Nat) (now : List Int) : Prop := (k < zs.length ∧ 50 * q ≤ k ∧ k < 50 * q + 50 ∧ now = (zs.take k).drop (50 * q)) ∨ (k = zs.length ∧ q = ng zs.length)
theorem now_next (zs : List Int) (k q : Nat) (h : k < zs.length) (hq : 50 * q ≤ k) : (zs.take k).drop (50 * q) ++ [zs.getD k 0] = (zs.take (k + 1)).drop (50 * q) := by
  rw [List.take_succ_eq_append_getElem h, List.drop_append_of_le_length (by rw [List.length_take]; omega), List.getD_eq_getElem?_getD, List.getElem?_eq_getElem h]
  rfl
theorem now_full (zs : List Int) (k q : Nat) (h : k < zs.length) (hf : k + 1 = 50 * q + 50 ∨ k + 1 = zs.length) (hk : k < 50 * q + 50) : (zs.take (k + 1)).drop (50 * q) = grp zs q := by
  unfold grp
  rw [List.drop_take]
  rcases hf with h1 | h1
  · rw [show k + 1 - 50 * q = 50 by omega]
  · rw [List.take_of_length_le (by rw [List.length_drop]; omega), List.take_of_length_le (by rw [List.length_drop]; omega)]
set_option maxRecDepth 100000 in
set_option maxHeartbeats 4000000 in
theorem rGroups_any (v0 : Value) (zs : List Int) (w : World) (hv : IsInts w v0 zs) (hz : zs.length ≤ 300) :
    Calls Try.prog 36 #[v0] w fun e w' => ∃ r, e = .returned r ∧ IsRR w' r (grps zs (ng zs.length)) ∧ Below w.heap.size w w' := by
  have HV := Lib.hid hv
  obtain ⟨a, cap, rfl, _⟩ := hv
  go_enter Try.func36, Try.ntmps36
  go_wp2_with fail
  go_loopw [3, 4, 9] (fun o n i wr => ∃ (k q bn : Nat) (now : List Int) (v u : Value), k ≤ zs.length ∧ i = .int .i64 k ∧ v = o ∧ u = n ∧ GrS zs k q now ∧ OwnRR wr w.heap.size bn v (grps zs q) ∧ OwnI wr bn u now ∧ Below w.heap.size w wr) (fun _ _ i _ => zs.length - (intOf i).toNat)
  case atStart =>
    refine ⟨0, 0, w.heap.size, [], .slice none 0 0, .slice none 0 0, by omega, rfl, rfl, rfl, ?_, OwnRR.nil _ _ (Nat.le_refl _), OwnI.nil _ _, Below.refl _ _⟩
    by_cases h : zs.length = 0
    · exact Or.inr ⟨h.symm, by rw [h]; rfl⟩
    · exact Or.inl ⟨by omega, by omega, by omega, by simp⟩
  case round =>
    obtain ⟨k, q, bn, now, v, u, hk, rfl, rfl, rfl, hG, hR, hU, hB⟩ := hrel
    have HR := Lib.hid hR
    have HU := Lib.hid hU
    have HB := Lib.hid hB
    have hbn := hR.2.1
    have hBbn := hR.1
    clear hR hU hB
    by_cases hlk : k < zs.length
    · have hki : (k : Int) < (zs.length : Int) := by omega
      obtain ⟨_, hq1, hq2, rfl⟩ := hG.resolve_right (fun h => by omega)
      have HV2 := Lib.hid (HV.out.below HB.out)
      obtain ⟨b1, o1, k1, he1, c1⟩ := HV2.out.cell hlk
      simp only [Value.slice.injEq] at he1
      obtain ⟨rfl, _, rfl⟩ := he1
      have HNX := Lib.hid (now_next zs k q hlk hq1)
      have HFU := Lib.hid (now_full zs k q hlk)
      have HGO : Hid (¬ k + 1 = 50 * q + 50 → ¬ k + 1 = zs.length → GrS zs (k + 1) q ((zs.take (k + 1)).drop (50 * q))) := Lib.hid (fun h1 h2 => Or.inl ⟨by omega, by omega, by omega, rfl⟩)
      have hnl : ((zs.take k).drop (50 * q)).length = k - 50 * q := by rw [List.length_drop, List.length_take]; omega
      have hnl2 : ((zs.take (k + 1)).drop (50 * q)).length = k + 1 - 50 * q := by rw [List.length_drop, List.length_take]; omega
      have hln : ((zs.take k).drop (50 * q)).length + 1 ≤ 17592186044416 := by omega
      have hna : ((zs.take (k + 1)).drop (50 * q)).length + 50 * q ≤ k + 1 := by omega
      have hnb : k + 1 ≤ ((zs.take (k + 1)).drop (50 * q)).length + 50 * q := by omega
      clear hnl hnl2 hG
      generalize zs.getD k 0 = x at *
      generalize (zs.take k).drop (50 * q) = now at *
      go_upto_region 7 with (at_builtin; go_loud (refine push_int wr rfl _ _ rfl bn _ now x HU.out rfl rfl hln hbn ?_))
      intro u2 w2 hO2 hB2
      rw [HNX.out] at hO2
      have HU2 := Lib.hid hO2
      have HR2 := Lib.hid (HR.out.below hB2)
      have HB2 := Lib.hid (HB.out.trans (hB2.mono hBbn))
      have hbn2 : bn ≤ w2.heap.size := Nat.le_trans hbn hB2.size
      have hBw2 : w.heap.size ≤ w2.heap.size := HB2.out.size
      clear hO2 hB2 HR HU HB HNX hln
      generalize (zs.take (k + 1)).drop (50 * q) = now2 at *
      obtain ⟨au, cu, rfl⟩ := HU2.out.slice
      generalize now2.length = N at *
      have hgl : (grps zs q).length + 1 ≤ 1099511627776 := by rw [grps_len]; omega
      have hwk : IntKind.i64.wrap ((k : Int) + 1) = (k : Int) + 1 := IntWalk.i64_in _ (by omega)
      by_cases hA : k + 1 = 50 * q + 50
      · have hN50 : ((N : Int) == 50) = true := by rw [beq_iff_eq]; omega
        have hN50' : N = 50 := by omega
        have e1 := HFU.out (Or.inl hA) hq2
        subst e1
        have HGS : Hid (GrS zs (k + 1) (q + 1) []) := Lib.hid (by
          by_cases h : k + 1 < zs.length
          · exact Or.inl ⟨h, by omega, by omega, by rw [List.drop_eq_nil_of_le (by rw [List.length_take]; omega)]⟩
          · exact Or.inr ⟨by omega, by unfold ng; omega⟩)
        subst hN50'
        go_wp2_with (at_builtin; go_loud (refine push_row w2 rfl _ _ rfl w.heap.size bn _ (grps zs q) _ (grp zs q) HR2.out HU2.out rfl rfl hgl ?_))
        intro v3 w3 hR3 hB3
        rw [← grps_succ] at hR3
        have HR3 := Lib.hid hR3
        have HB3 := Lib.hid (HB2.out.trans hB3)
        clear hR3 hB3
        go_wp2_with fail
        go_roundw
        case rel => exact ⟨k + 1, q + 1, w3.heap.size, [], v3, _, by omega, by go_num, rfl, rfl, HGS.out, HR3.out, OwnI.nil _ _, HB3.out⟩
        case measure => simp [intOf]; omega
      · have hN50 : ((N : Int) == 50) = false := by rw [beq_eq_false_iff_ne]; omega
        by_cases hC : k + 1 = zs.length
        · have hCI : ((k : Int) + 1 == (zs.length : Int)) = true := by rw [beq_iff_eq]; omega
          have e1 := HFU.out (Or.inr hC) hq2
          subst e1
          have HGS : Hid (GrS zs (k + 1) (q + 1) []) := Lib.hid (Or.inr ⟨hC, by unfold ng; omega⟩)
          go_wp2_with (at_builtin; go_loud (refine push_row w2 rfl _ _ rfl w.heap.size bn _ (grps zs q) _ (grp zs q) HR2.out HU2.out rfl rfl hgl ?_))
          intro v3 w3 hR3 hB3
          rw [← grps_succ] at hR3
          have HR3 := Lib.hid hR3
          have HB3 := Lib.hid (HB2.out.trans hB3)
          clear hR3 hB3
          go_wp2_with fail
          go_roundw
          case rel => exact ⟨k + 1, q + 1, w3.heap.size, [], v3, _, by omega, by go_num, rfl, rfl, HGS.out, HR3.out, OwnI.nil _ _, HB3.out⟩
          case measure => simp [intOf]; omega
        · have hCI : ((k : Int) + 1 == (zs.length : Int)) = false := by rw [beq_eq_false_iff_ne]; omega
          have HGS := Lib.hid (HGO.out hA hC)
          clear HGO HFU
          go_wp2_with fail
          go_roundw
          case rel => exact ⟨k + 1, q, bn, now2, v, _, by omega, by go_num, rfl, rfl, HGS.out, HR2.out, HU2.out, HB2.out⟩
          case measure => simp [intOf]; omega
    · obtain rfl : k = zs.length := by omega
      have hq : q = ng zs.length := by
        rcases hG with ⟨h, _⟩ | ⟨_, h⟩
        · omega
        · exact h
      subst hq
      go_wp2_with fail
      go_ret
      exact ⟨_, rfl, HR.out.rr, HB.out⟩
theorem wf_i64 {n : Int} (h : (Lit.int .i64 n).wf = true) : -9223372036854775808 ≤ n ∧ n ≤ 9223372036854775807 := by
  simp [Lit.wf, IntKind.min, IntKind.max, IntKind.signed, IntKind.bits] at h
  omega
set_option maxRecDepth 100000 in
set_option maxHeartbeats 4000000 in
theorem freqGroups.walk (l : Option Addr) (llen lcap : Nat) (lz : List Int) (i n : Int) (w : World) (hl : IsRow .i64 w l llen lcap lz) (_ : (Lit.int .i64 i).wf = true) (hnw : (Lit.int .i64 n).wf = true) :
    Calls Try.prog 11 #[.slice l llen lcap, .int .i64 i, .int .i64 n] w fun e w' => e = .returned (.bool true) ∧ Below w.heap.size w w' := by
  obtain ⟨hlc, hcc⟩ := isRow_len hl
  obtain ⟨hn1, hn2⟩ := wf_i64 hnw
  obtain ⟨hI, hlen⟩ := ints_in hl
  have HI := Lib.hid hI
  clear hl hI
  generalize lz.take llen = zs at *
  by_cases h1 : llen ≤ 300
  · have h1i : (llen : Int) ≤ 300 := by omega
    have HRG := Lib.hid (rGroups_any _ zs w HI.out (by omega))
    rw [hlen] at HRG
    have HGN := Lib.hid (fun W => groups_any n W hn1 hn2)
    have HGL := Lib.hid (fun W => groups_any (llen : Int) W (by omega) (by omega))
    rw [gn_nat] at HGL
    obtain ⟨Q, hq⟩ : ∃ Q, ng llen = Q := ⟨_, rfl⟩
    rw [hq] at HRG HGL
    by_cases hn0 : n ≤ 0
    · have hgn : gn n = 0 := if_pos hn0
      by_cases hi0 : i < 0
      · clear hq
        go_enter Try.func11, Try.ntmps11
        go_wp2_with fail
        refine HRG.out.mono ?_
        rintro e w1 ⟨r, rfl, hR1, hB1⟩
        have HR1 := Lib.hid hR1
        have HB1 := Lib.hid hB1
        have HI1 := Lib.hid (HI.out.below HB1.out)
        obtain ⟨ra, rcap, rfl, _⟩ := hR1
        have hgl := grps_len zs Q
        generalize (grps zs Q).length = L at *
        obtain rfl : Q = L := hgl.symm
        clear hB1 HRG
        go_wp2_with fail
        refine (group_any l llen lcap zs _ w1 HI1.out hlen (by omega) hlc hcc).mono ?_
        rintro e w2 ⟨v, gs, err, rfl, hI2, hB2, hP⟩
        have HI2 := Lib.hid hI2
        have HB2 := Lib.hid (HB1.out.trans (hB2.mono HB1.out.size))
        have HR2 := Lib.hid (HR1.out.below hB2)
        obtain ⟨rfl, rfl⟩ : gs = [] ∧ err = 1 := by
          rcases hP with ⟨_, h1, h2⟩ | ⟨h1, _⟩
          · exact ⟨h1, h2⟩
          · omega
        obtain ⟨ga, gcap, rfl, _⟩ := hI2
        clear hB2 hP HR1 HB1
        go_wp2_with fail
        refine (HGN.out _).mono ?_
        rintro e w' ⟨rfl, rfl⟩
        rw [hgn]
        go_wp2_with fail
        refine (HGL.out _).mono ?_
        rintro e w' ⟨rfl, rfl⟩
        go_wp2_with fail
        refine (three_any _).mono ?_
        rintro e w9 ⟨rfl, hb⟩
        have HB9 := Lib.hid (HB2.out.trans (hb.mono HB2.out.size))
        clear hb
        go_wp2_with fail
        go_ret
        exact ⟨rfl, HB9.out⟩
      · by_cases hi1 : (Q : Int) ≤ i
        · have hq2 := hq
          clear hq
          go_enter Try.func11, Try.ntmps11
          go_wp2_with fail
          refine HRG.out.mono ?_
          rintro e w1 ⟨r, rfl, hR1, hB1⟩
          have HR1 := Lib.hid hR1
          have HB1 := Lib.hid hB1
          have HI1 := Lib.hid (HI.out.below HB1.out)
          obtain ⟨ra, rcap, rfl, _⟩ := hR1
          have hgl := grps_len zs Q
          generalize (grps zs Q).length = L at *
          obtain rfl : Q = L := hgl.symm
          clear hB1 HRG
          go_wp2_with fail
          refine (group_any l llen lcap zs _ w1 HI1.out hlen (by omega) hlc hcc).mono ?_
          rintro e w2 ⟨v, gs, err, rfl, hI2, hB2, hP⟩
          have HI2 := Lib.hid hI2
          have HB2 := Lib.hid (HB1.out.trans (hB2.mono HB1.out.size))
          have HR2 := Lib.hid (HR1.out.below hB2)
          obtain ⟨rfl, rfl⟩ : gs = [] ∧ err = 1 := by
            rcases hP with ⟨_, h1, h2⟩ | ⟨_, h1, _⟩
            · exact ⟨h1, h2⟩
            · rw [hlen, hq2] at h1; omega
          obtain ⟨ga, gcap, rfl, _⟩ := hI2
          clear hB2 hP HR1 HB1 hq2
          go_wp2_with fail
          refine (HGN.out _).mono ?_
          rintro e w' ⟨rfl, rfl⟩
          rw [hgn]
          go_wp2_with fail
          refine (HGL.out _).mono ?_
          rintro e w' ⟨rfl, rfl⟩
          go_wp2_with fail
          refine (three_any _).mono ?_
          rintro e w9 ⟨rfl, hb⟩
          have HB9 := Lib.hid (HB2.out.trans (hb.mono HB2.out.size))
          clear hb
          go_wp2_with fail
          go_ret
          exact ⟨rfl, HB9.out⟩
        · obtain ⟨k, rfl⟩ : ∃ k : Nat, i = (k : Int) := ⟨i.toNat, by omega⟩
          have hq2 := hq
          clear hq
          go_enter Try.func11, Try.ntmps11
          go_wp2_with fail
          refine HRG.out.mono ?_
          rintro e w1 ⟨r, rfl, hR1, hB1⟩
          have HR1 := Lib.hid hR1
          have HB1 := Lib.hid hB1
          have HI1 := Lib.hid (HI.out.below HB1.out)
          obtain ⟨ra, rcap, rfl, _⟩ := hR1
          have hgl := grps_len zs Q
          generalize (grps zs Q).length = L at *
          obtain rfl : Q = L := hgl.symm
          clear hB1 HRG
          go_wp2_with fail
          refine (group_any l llen lcap zs _ w1 HI1.out hlen (by omega) hlc hcc).mono ?_
          rintro e w2 ⟨v, gs, err, rfl, hI2, hB2, hP⟩
          have HI2 := Lib.hid hI2
          have HB2 := Lib.hid (HB1.out.trans (hB2.mono HB1.out.size))
          have HR2 := Lib.hid (HR1.out.below hB2)
          obtain ⟨rfl, rfl⟩ : gs = grp zs k ∧ err = 0 := by
            rcases hP with ⟨h, _⟩ | ⟨_, _, h1, h2⟩
            · exfalso; rw [hlen, hq2] at h; omega
            · simp only [Int.toNat_natCast] at h1; exact ⟨h1, h2⟩
          have hgk : (grps zs Q)[k]? = some (grp zs k) := by
            rw [List.getElem?_eq_getElem (by rw [grps_len]; omega), grps_get]
          obtain ⟨ra2, rcap2, he, hcc2⟩ := HR2.out
          obtain ⟨b5, o5, u5, hra, hcell, hiu⟩ := hcc2 k _ hgk
          simp only [Value.slice.injEq] at he
          obtain ⟨rfl, hQx, rfl⟩ := he
          clear hQx
          subst hra
          have HU5 := Lib.hid hiu
          have hgl2 : (grp zs k).length ≤ 50 := by rw [grp_len]; omega
          obtain ⟨ua, ucap, rfl, _⟩ := hiu
          have hk0 : (0 : Int) ≤ (k : Int) := by omega
          have hkQ : (k : Int) < (Q : Int) := by omega
          clear hB2 hP HR1 HB1 hq2 hI2 hgk hcc2
          go_wp2_with fail
          refine (HGN.out _).mono ?_
          rintro e w' ⟨rfl, rfl⟩
          rw [hgn]
          go_wp2_with fail
          refine (HGL.out _).mono ?_
          rintro e w' ⟨rfl, rfl⟩
          go_wp2_with fail
          refine (ints_any v _ (grp zs k) (grp zs k) true w2 HI2.out (by exact HU5.out) ⟨fun _ => rfl, fun _ => rfl⟩ (by omega) (by omega)).mono ?_
          rintro e w3 ⟨rfl, j, hj⟩
          have hb3 : Below w2.heap.size w2 w3 := by rw [hj]; exact below_drewN w2 j
          have HB3 := Lib.hid (HB2.out.trans (hb3.mono HB2.out.size))
          clear hj hb3
          go_wp2_with fail
          refine (three_any _).mono ?_
          rintro e w9 ⟨rfl, hb⟩
          have HB9 := Lib.hid (HB3.out.trans (hb.mono HB3.out.size))
          clear hb
          go_wp2_with fail
          go_ret
          exact ⟨rfl, HB9.out⟩
    · have hn0' : 0 < n := by omega
      have hgn : gn n = (n - 1) / 50 + 1 := if_neg hn0
      have t1 : IntKind.i64.wrap (n - 1) = n - 1 := IntWalk.i64_in _ (by omega)
      have t2 : (n - 1).tdiv 50 = (n - 1) / 50 := Int.tdiv_eq_ediv_of_nonneg (by omega)
      have t3 : IntKind.i64.wrap ((n - 1) / 50) = (n - 1) / 50 := IntWalk.i64_in _ (by omega)
      have t4 : IntKind.i64.wrap ((n - 1) / 50 + 1 - 1) = (n - 1) / 50 := by rw [show (n - 1) / 50 + 1 - 1 = (n - 1) / 50 by omega]; exact t3
      have t5 : (((n - 1) / 50) != ((n - 1) / 50)) = false := by simp
      by_cases hi0 : i < 0
      · clear hq
        go_enter Try.func11, Try.ntmps11
        go_wp2_with fail
        refine HRG.out.mono ?_
        rintro e w1 ⟨r, rfl, hR1, hB1⟩
        have HR1 := Lib.hid hR1
        have HB1 := Lib.hid hB1
        have HI1 := Lib.hid (HI.out.below HB1.out)
        obtain ⟨ra, rcap, rfl, _⟩ := hR1
        have hgl := grps_len zs Q
        generalize (grps zs Q).length = L at *
        obtain rfl : Q = L := hgl.symm
        clear hB1 HRG
        go_wp2_with fail
        refine (group_any l llen lcap zs _ w1 HI1.out hlen (by omega) hlc hcc).mono ?_
        rintro e w2 ⟨v, gs, err, rfl, hI2, hB2, hP⟩
        have HI2 := Lib.hid hI2
        have HB2 := Lib.hid (HB1.out.trans (hB2.mono HB1.out.size))
        have HR2 := Lib.hid (HR1.out.below hB2)
        obtain ⟨rfl, rfl⟩ : gs = [] ∧ err = 1 := by
          rcases hP with ⟨_, h1, h2⟩ | ⟨h1, _⟩
          · exact ⟨h1, h2⟩
          · omega
        obtain ⟨ga, gcap, rfl, _⟩ := hI2
        clear hB2 hP HR1 HB1
        go_wp2_with fail
        refine (HGN.out _).mono ?_
        rintro e w' ⟨rfl, rfl⟩
        rw [hgn]
        go_wp2_with fail
        refine (HGL.out _).mono ?_
        rintro e w' ⟨rfl, rfl⟩
        go_wp2_with fail
        refine (three_any _).mono ?_
        rintro e w9 ⟨rfl, hb⟩
        have HB9 := Lib.hid (HB2.out.trans (hb.mono HB2.out.size))
        clear hb
        go_wp2_with fail
        go_ret
        exact ⟨rfl, HB9.out⟩
      · by_cases hi1 : (Q : Int) ≤ i
        · have hq2 := hq
          clear hq
          go_enter Try.func11, Try.ntmps11
          go_wp2_with fail
          refine HRG.out.mono ?_
          rintro e w1 ⟨r, rfl, hR1, hB1⟩
          have HR1 := Lib.hid hR1
          have HB1 := Lib.hid hB1
          have HI1 := Lib.hid (HI.out.below HB1.out)
          obtain ⟨ra, rcap, rfl, _⟩ := hR1
          have hgl := grps_len zs Q
          generalize (grps zs Q).length = L at *
          obtain rfl : Q = L := hgl.symm
          clear hB1 HRG
          go_wp2_with fail
          refine (group_any l llen lcap zs _ w1 HI1.out hlen (by omega) hlc hcc).mono ?_
          rintro e w2 ⟨v, gs, err, rfl, hI2, hB2, hP⟩
          have HI2 := Lib.hid hI2
          have HB2 := Lib.hid (HB1.out.trans (hB2.mono HB1.out.size))
          have HR2 := Lib.hid (HR1.out.below hB2)
          obtain ⟨rfl, rfl⟩ : gs = [] ∧ err = 1 := by
            rcases hP with ⟨_, h1, h2⟩ | ⟨_, h1, _⟩
            · exact ⟨h1, h2⟩
            · rw [hlen, hq2] at h1; omega
          obtain ⟨ga, gcap, rfl, _⟩ := hI2
          clear hB2 hP HR1 HB1 hq2
          go_wp2_with fail
          refine (HGN.out _).mono ?_
          rintro e w' ⟨rfl, rfl⟩
          rw [hgn]
          go_wp2_with fail
          refine (HGL.out _).mono ?_
          rintro e w' ⟨rfl, rfl⟩
          go_wp2_with fail
          refine (three_any _).mono ?_
          rintro e w9 ⟨rfl, hb⟩
          have HB9 := Lib.hid (HB2.out.trans (hb.mono HB2.out.size))
          clear hb
          go_wp2_with fail
          go_ret
          exact ⟨rfl, HB9.out⟩
        · obtain ⟨k, rfl⟩ : ∃ k : Nat, i = (k : Int) := ⟨i.toNat, by omega⟩
          have hq2 := hq
          clear hq
          go_enter Try.func11, Try.ntmps11
          go_wp2_with fail
          refine HRG.out.mono ?_
          rintro e w1 ⟨r, rfl, hR1, hB1⟩
          have HR1 := Lib.hid hR1
          have HB1 := Lib.hid hB1
          have HI1 := Lib.hid (HI.out.below HB1.out)
          obtain ⟨ra, rcap, rfl, _⟩ := hR1
          have hgl := grps_len zs Q
          generalize (grps zs Q).length = L at *
          obtain rfl : Q = L := hgl.symm
          clear hB1 HRG
          go_wp2_with fail
          refine (group_any l llen lcap zs _ w1 HI1.out hlen (by omega) hlc hcc).mono ?_
          rintro e w2 ⟨v, gs, err, rfl, hI2, hB2, hP⟩
          have HI2 := Lib.hid hI2
          have HB2 := Lib.hid (HB1.out.trans (hB2.mono HB1.out.size))
          have HR2 := Lib.hid (HR1.out.below hB2)
          obtain ⟨rfl, rfl⟩ : gs = grp zs k ∧ err = 0 := by
            rcases hP with ⟨h, _⟩ | ⟨_, _, h1, h2⟩
            · exfalso; rw [hlen, hq2] at h; omega
            · simp only [Int.toNat_natCast] at h1; exact ⟨h1, h2⟩
          have hgk : (grps zs Q)[k]? = some (grp zs k) := by
            rw [List.getElem?_eq_getElem (by rw [grps_len]; omega), grps_get]
          obtain ⟨ra2, rcap2, he, hcc2⟩ := HR2.out
          obtain ⟨b5, o5, u5, hra, hcell, hiu⟩ := hcc2 k _ hgk
          simp only [Value.slice.injEq] at he
          obtain ⟨rfl, hQx, rfl⟩ := he
          clear hQx
          subst hra
          have HU5 := Lib.hid hiu
          have hgl2 : (grp zs k).length ≤ 50 := by rw [grp_len]; omega
          obtain ⟨ua, ucap, rfl, _⟩ := hiu
          have hk0 : (0 : Int) ≤ (k : Int) := by omega
          have hkQ : (k : Int) < (Q : Int) := by omega
          clear hB2 hP HR1 HB1 hq2 hI2 hgk hcc2
          go_wp2_with fail
          refine (HGN.out _).mono ?_
          rintro e w' ⟨rfl, rfl⟩
          rw [hgn]
          go_wp2_with fail
          refine (HGL.out _).mono ?_
          rintro e w' ⟨rfl, rfl⟩
          go_wp2_with fail
          refine (ints_any v _ (grp zs k) (grp zs k) true w2 HI2.out (by exact HU5.out) ⟨fun _ => rfl, fun _ => rfl⟩ (by omega) (by omega)).mono ?_
          rintro e w3 ⟨rfl, j, hj⟩
          have hb3 : Below w2.heap.size w2 w3 := by rw [hj]; exact below_drewN w2 j
          have HB3 := Lib.hid (HB2.out.trans (hb3.mono HB2.out.size))
          clear hj hb3
          go_wp2_with fail
          refine (three_any _).mono ?_
          rintro e w9 ⟨rfl, hb⟩
          have HB9 := Lib.hid (HB3.out.trans (hb.mono HB3.out.size))
          clear hb
          go_wp2_with fail
          go_ret
          exact ⟨rfl, HB9.out⟩
  · have h1i : (300 : Int) < (llen : Int) := by omega
    go_enter Try.func11, Try.ntmps11
    go_wp2_with fail
    refine (three_any _).mono ?_
    rintro e w4 ⟨rfl, hb⟩
    have HB4 := Lib.hid hb
    clear hb
    go_wp2_with fail
    go_ret
    exact ⟨rfl, HB4.out⟩
end Go.Proofs.Ythfdmmlamomlkaa
