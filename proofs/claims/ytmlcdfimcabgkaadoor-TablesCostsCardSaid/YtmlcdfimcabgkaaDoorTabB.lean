/-
  THE WALKS OF LAYER 12's CODE (package tables): rows that are written; the first lengths.
-/
import Derived.Test.YtmlcdfimcabgkaaDoorTabA
import Derived.Test.YtmlcdfimcabgkaaDoorRowsRR
import Derived.Test.YtmlcdfimcabgkaaDoorFreqD
import Derived.Deep.Cut
namespace Go.Proofs.YtmlcdfimcabgkaaDoor
open Go.RowKit TabM FreqM HufM
set_option linter.unusedVariables false
def rv (n : Nat) (b : Nat) : Value := .slice (some ⟨b, 0, none⟩) n n
/-- v is a row of rows of n numbers, each in a block of its own: bs. -/
def TabW (w : World) (B : Nat) (v : Value) (bs : List Nat) (gs : List (List Int)) (n : Nat) : Prop :=
  bs.length = gs.length ∧ w.ownsRow B 22 1 v gs.length (bs.map (rv n)) ∧ (∀ (i b : Nat), bs[i]? = some b → B ≤ b ∧ v.ownBlock ≠ some b ∧ ∃ g, gs[i]? = some g ∧ g.length = n ∧ RowI w b g) ∧ bs.Nodup
theorem TabW.nil (w : World) (B n : Nat) : TabW w B (.slice none 0 0) [] [] n := ⟨rfl, World.ownsRow_nil _ _ _ _, fun i b h => by simp at h, List.nodup_nil⟩
theorem TabW.slice {w : World} {B : Nat} {v : Value} {bs : List Nat} {gs : List (List Int)} {n : Nat} (h : TabW w B v bs gs n) : ∃ a cap, v = .slice a gs.length cap := slice_of_own h.2.1
theorem TabW.below {w w' : World} {B : Nat} {v : Value} {bs : List Nat} {gs : List (List Int)} {n : Nat} (h : TabW w B v bs gs n) (hb : Below w.heap.size w w') : TabW w' B v bs gs n := by
  obtain ⟨h1, h2, h3, h4⟩ := h
  refine ⟨h1, ownsRow_other h2 (fun k hk => hb.block k (World.ownsRow.lt h2 k hk).2), fun i b hi => ?_, h4⟩
  obtain ⟨k1, k2, g, k3, k4, k5⟩ := h3 i b hi
  exact ⟨k1, k2, g, k3, k4, k5.below hb⟩
theorem TabW.rr {w : World} {B : Nat} {v : Value} {bs : List Nat} {gs : List (List Int)} {n : Nat} (h : TabW w B v bs gs n) : IsRR w v gs := by
  obtain ⟨h1, h2, h3, h4⟩ := h
  rcases h2.2 with ⟨rfl, h0⟩ | ⟨g, cap, cur, rfl, _, hg, _⟩
  · obtain rfl : gs = [] := List.eq_nil_of_length_eq_zero h0
    exact ⟨none, 0, rfl, fun i g hg => by simp at hg⟩
  · refine ⟨_, cap, rfl, fun i x hx => ?_⟩
    have hi := (List.getElem?_eq_some_iff.1 hx).1
    have hbi : bs[i]? = some (bs[i]'(by omega)) := List.getElem?_eq_getElem (by omega)
    obtain ⟨k1, k2, g', k3, k4, k5⟩ := h3 i _ hbi
    rw [hx] at k3
    cases k3
    refine ⟨g, 0, rv n (bs[i]'(by omega)), rfl, ?_, k5.ints n n k4.symm⟩
    rw [Nat.zero_add, h2.cellAt i (by omega), List.getElem?_map, hbi]
    rfl
set_option maxHeartbeats 1000000 in
theorem push_tab {ops : Array Oper} {rest : List Oper} {o : Oper} {a : Act} {Q : Exit → Act → World → Prop} (W : World) (hgd : o.guard = none) (s x : Operand)
    (ho : o.op = .call { callee := .builtin .append, args := #[s, x], argTypes := #[24, 24] })
    (B : Nat) (v : Value) (bs : List Nat) (gs : List (List Int)) (n b : Nat) (g : List Int) (hown : TabW W B v bs gs n) (hu : RowI W b g) (hn : g.length = n) (hb : ∀ c ∈ bs, c < b) (hvb : ∀ k, v.ownBlock = some k → k < b) (hBb : B ≤ b) (hs : a.eval s = v) (hx : a.eval x = .slice (some ⟨W.heap.size, 0, none⟩) 1 1)
    (hlen : gs.length + 1 ≤ 1099511627776)
    (h : ∀ v' w', TabW w' B v' (bs ++ [b]) (gs ++ [g]) n → Below B W w' → wpList Tryd.prog ops Q rest (a.put o.dst v') w') :
    wpList Tryd.prog ops Q (o :: rest) a (W.alloc (.cells #[rv n b] 22)) := by
  obtain ⟨i0, hi, hz0, hz1, hz2⟩ := info_parts info_slice
  obtain ⟨h1, h2, h3, h4⟩ := hown
  have hbl := hu.lt
  refine wpList_append_own2 hgd s x 24 ho B 22 i0 (.slice none 0 0) 1 24 Tryd.underlying24 hi hz0 hz1 hz2 rfl (by decide) v gs.length (bs.map (rv n)) (World.ownsRow.alloc h2 _) hs ⟨W.heap.size, 0, none⟩ 1 1 [rv n b] hx rfl ?_ ?_ ?_ ?_ ?_ ?_
  · exact news_new _ _ _ _ rfl
  · intro y hy
    rw [List.mem_singleton] at hy
    subst hy
    rfl
  · unfold maxLen; omega
  · omega
  · simp; omega
  · intro v' w' hown' hg hv
    have hBW : Below B W w' := Below.grown ((Below.refl B W).alloc (by omega) _) hg (by simp; omega) (fun j hj => (World.ownsRow.lt h2 j hj).1)
    have keep : ∀ k, k < W.heap.size → v.ownBlock ≠ some k → w'.heap[k]? = W.heap[k]? := fun k hk hne => (hg.block k (by simp; omega) (fun e => hne e.symm)).trans (alloc_old hk)
    have hvv : ∀ k, v'.ownBlock = some k → v.ownBlock = some k ∨ W.heap.size ≤ k := fun k hk => (hv k hk).imp id (fun h => by simp at h; omega)
    refine h v' w' ⟨by rw [List.length_append, List.length_append, h1]; rfl, by rw [List.length_append, List.map_append]; exact hown', fun i c hc => ?_, ?_⟩ hBW
    · rw [List.getElem?_append] at hc
      split at hc
      · rename_i hlt
        obtain ⟨k1, k2, g', k3, k4, k5⟩ := h3 i c hc
        refine ⟨k1, fun e => ?_, g', by rw [List.getElem?_append_left (by omega)]; exact k3, k4, (keep c k5.lt k2).trans k5⟩
        rcases hvv c e with h | h
        · exact k2 h
        · have := k5.lt; omega
      · rename_i hge
        have hi0 : i - bs.length = 0 := by
          by_cases h0 : i - bs.length = 0
          · exact h0
          · exfalso
            rw [List.getElem?_eq_none (by simp; omega)] at hc
            cases hc
        rw [hi0] at hc
        simp only [List.getElem?_cons_zero, Option.some.injEq] at hc
        subst hc
        have hne : v.ownBlock ≠ some b := fun e => by have := hvb b e; omega
        refine ⟨hBb, fun e => ?_, g, by rw [show i = gs.length by omega]; simp, hn, (keep b hbl hne).trans hu⟩
        rcases hvv b e with h | h
        · exact hne h
        · omega
    · rw [List.nodup_append]
      exact ⟨h4, List.nodup_cons.2 ⟨by simp, List.nodup_nil⟩, fun c hc d hd e => by rw [List.mem_singleton] at hd; have := hb c hc; omega⟩
/-- One number of one row told anew. -/
theorem TabW.set {w : World} {B : Nat} {v : Value} {bs : List Nat} {gs : List (List Int)} {n : Nat} (h : TabW w B v bs gs n) {t s : Nat} (ht : t < gs.length) (hs : s < n) :
    ∃ gv cap b y, v = .slice (some ⟨gv, 0, none⟩) gs.length cap ∧ w.cell? ⟨gv, t, none⟩ = some (.slice (some ⟨b, 0, none⟩) n n) ∧ w.cell? ⟨b, s, none⟩ = some (.int .i64 y) ∧ w.frozen? ⟨b, s, none⟩ = false ∧ B ≤ b ∧
      ∀ x : Int, TabW (w.setCell ⟨b, s, none⟩ (.int .i64 x)) B v bs (gs.set t ((gs.getD t []).set s x)) n := by
  obtain ⟨h1, h2, h3, h4⟩ := h
  have hbt : bs[t]? = some (bs[t]'(by omega)) := List.getElem?_eq_getElem (by omega)
  obtain ⟨k1, k2, g, k3, k4, k5⟩ := h3 t _ hbt
  obtain ⟨c1, c2, c3⟩ := k5.cell (i := s) (by omega)
  have h2' := h2
  rcases h2'.2 with ⟨rfl, h0⟩ | ⟨gv, cap, cur, rfl, hgB, hg, _⟩
  · omega
  have hgt : gs.getD t [] = g := by rw [List.getD_eq_getElem?_getD, k3]; rfl
  have hgtb : gs[t]'ht = g := by
    have := List.getElem?_eq_getElem ht
    rw [k3] at this
    exact (Option.some.inj this).symm
  refine ⟨gv, cap, bs[t]'(by omega), _, rfl, ?_, c1, c2, k1, fun x => ?_⟩
  · rw [h2.cellAt t (by omega), List.getElem?_map, hbt]
    rfl
  · rw [hgt]
    refine ⟨by rw [List.length_set, h1], by rw [List.length_set]; exact ownsRow_other h2 (fun k hk => heap_setCell_other _ _ _ _ (fun e => k2 (by have e' : k = bs[t]'(by omega) := e; rw [← e']; exact hk))), fun i b hi => ?_, h4⟩
    obtain ⟨m1, m2, g', m3, m4, m5⟩ := h3 i b hi
    by_cases e : i = t
    · subst e
      rw [hbt] at hi
      cases hi
      exact ⟨m1, m2, g.set s x, by rw [List.getElem?_set_self ht], by rw [List.length_set]; exact k4, c3 x⟩
    · refine ⟨m1, m2, g', by rw [List.getElem?_set_ne (fun h => e h.symm)]; exact m3, m4, (heap_setCell_other _ _ _ _ (fun h => ?_)).trans m5⟩
      have hib := (List.getElem?_eq_some_iff.1 hi)
      obtain ⟨hib1, hib2⟩ := hib
      have := (List.getElem_inj (h₀ := hib1) (h₁ := by omega) h4 (i := i) (j := t)).1 (by rw [hib2]; exact h)
      exact e this
set_option maxRecDepth 100000 in
set_option maxHeartbeats 4000000 in
theorem first12_any (v : Value) (cs : List Int) (n : Int) (w : World) (hv : IsInts w v cs) (hB : Bnds w) (hcs : Nums cs) (h3 : 3 ≤ cs.length) (h258 : cs.length ≤ 258) (hn1 : 1 ≤ n) (hn2 : n ≤ 1099511627776) :
    Calls Tryd.prog 31 #[v, .int .i64 n] w fun e w' => ∃ u, e = .returned u ∧ IsRR w' u (firstM cs n) ∧ Below w.heap.size w w' := by
  have HV := Lib.hid hv
  have HCS := Lib.hid hcs
  obtain ⟨ad, cap, rfl, _⟩ := hv
  obtain ⟨N, hN⟩ : ∃ N, cs.length = N := ⟨_, rfl⟩
  have HN := Lib.hid hN
  rw [hN] at h3 h258 HV ⊢
  obtain ⟨T, hT⟩ : ∃ T, nTab n = T := ⟨_, rfl⟩
  have HT := Lib.hid hT
  have hTb := nTab_bd n
  rw [hT] at hTb
  obtain ⟨hT2, hT6⟩ := hTb
  have HNU := Lib.hid (number12_any n w hB)
  rw [hT] at HNU
  have HR0 : Hid (∀ p, fRow cs n 0 p = List.replicate N 15) := Lib.hid (fun p => by rw [fRow_zero, hN])
  have HTB : Hid (∀ k, min (sm cs k) (n - 1) * (T : Int) / n = (tb cs n k : Int) ∧ tb cs n k < T) := Lib.hid (fun k => by rw [← hT]; exact tb_is (fun x hx => (hcs x hx).1) hn1 k)
  have HSM : Hid (∀ k, k ≤ N → 0 ≤ sm cs k ∧ sm cs k ≤ 1099511627776 * (k : Int)) := Lib.hid (fun k hk => ⟨sm_nn (fun x hx => (hcs x hx).1) k, sm_le hcs (by omega)⟩)
  have HSS : Hid (∀ k, k < N → sm cs (k + 1) = sm cs k + cs.getD k 0) := Lib.hid (fun k hk => sm_succ cs (by omega))
  have HFK : Hid (∀ k, k < N → firstK cs n (k + 1) = (firstK cs n k).set (tb cs n k) (((firstK cs n k).getD (tb cs n k) []).set k 0)) := Lib.hid (fun k hk => firstK_succ cs n k (by omega) (tb_is (fun x hx => (hcs x hx).1) hn1 k).2)
  have HFL : Hid (∀ k, (firstK cs n k).length = T) := Lib.hid (fun k => by rw [firstK_len, hT])
  have HF0 : Hid (∀ j, j ≤ T → List.replicate j (List.replicate N (15 : Int)) = (List.range j).map (fRow cs n 0)) := Lib.hid (fun j hj => by
    apply List.ext_getElem
    · simp
    · intro i h1 h2
      simp only [List.getElem_replicate, List.getElem_map, List.getElem_range]
      exact (HR0.out i).symm)
  clear hcs hN hT hB
  go_enter Tryd.func31, Tryd.ntmps31
  go_wp2_with fail
  refine HNU.out.mono ?_
  rintro e w' ⟨rfl, rfl⟩
  go_wp2_with fail
  go_loopw [5, 12] (fun vt vj wr => ∃ (j : Nat) (bs : List Nat), vj = .int .i64 (j : Int) ∧ j ≤ T ∧ TabW wr w'.heap.size vt bs (List.replicate j (List.replicate N 15)) N ∧ Below w'.heap.size w' wr) (fun _ vj _ => T - (intOf vj).toNat)
  case atStart => exact ⟨0, [], rfl, by omega, TabW.nil _ _ _, Below.refl _ _⟩
  case round =>
    rename_i vt _
    obtain ⟨j, bs, rfl, hj, hW, hB⟩ := hrel
    have HW := Lib.hid hW
    have HB := Lib.hid hB
    obtain ⟨av, cv, rfl⟩ := hW.slice
    rw [List.length_replicate] at HW ⊢
    clear hW hB
    by_cases hjT : j < T
    · have hji : (j : Int) < (T : Int) := by omega
      have hB1 := (Below.refl wr.heap.size wr).alloc (Nat.le_refl _) (.cells #[.int .i64 15] 3)
      have HI1 : Hid (IsInts (wr.alloc (.cells #[.int .i64 15] 3)) (.slice (some ⟨wr.heap.size, 0, none⟩) 1 1) [15]) := Lib.hid (ints_of_row (rest := []) (heap_alloc_new wr _) rfl)
      have HRP := Lib.hid (repeat_any _ 15 N _ HI1.out (by omega) (by omega))
      have hs1 : (wr.alloc (.cells #[.int .i64 15] 3)).heap.size = wr.heap.size + 1 := by simp
      rw [hs1] at HRP
      have HB1 := Lib.hid hB1
      clear hB1 hs1
      go_wp2_with fail
      refine HRP.out.mono ?_
      rintro e w2 ⟨rfl, hR2, hB2⟩
      have HR2 := Lib.hid hR2
      have HB2 : Hid (Below wr.heap.size wr w2) := Lib.hid (HB1.out.trans (hB2.mono (Nat.le_succ _)))
      have HW2 := Lib.hid (HW.out.below HB2.out)
      have hlb : ∀ c ∈ bs, c < wr.heap.size + 1 := fun c hc => by
        obtain ⟨i, hi, rfl⟩ := List.mem_iff_getElem.1 hc
        obtain ⟨_, _, g, _, _, k5⟩ := HW.out.2.2.1 i _ (List.getElem?_eq_getElem hi)
        have := k5.lt
        omega
      have hlv : ∀ k, (Value.slice av j cv).ownBlock = some k → k < wr.heap.size + 1 := fun k hk => by have := (World.ownsRow.lt HW.out.2.1 k hk).2; omega
      have hBs := HB.out.size
      have HLB := Lib.hid hlb
      have HLV := Lib.hid hlv
      clear hR2 hB2 hlb hlv HRP HI1
      go_wp2_with (at_builtin; refine push_tab w2 rfl _ _ rfl w'.heap.size _ bs _ N (wr.heap.size + 1) (List.replicate N 15) HW2.out HR2.out (by simp) HLB.out HLV.out (by omega) rfl rfl (by simp; omega) ?_)
      intro v3 w3 hW3 hB3
      have HW3 : Hid (TabW w3 w'.heap.size v3 (bs ++ [wr.heap.size + 1]) (List.replicate (j + 1) (List.replicate N 15)) N) := Lib.hid (by rw [List.replicate_succ']; exact hW3)
      have HB3 : Hid (Below w'.heap.size w' w3) := Lib.hid (HB.out.trans ((HB2.out.mono hBs).trans hB3))
      clear hW3 hB3
      go_wp2_with fail
      go_roundw
      case rel => exact ⟨j + 1, _, by go_num, by omega, HW3.out, HB3.out⟩
      case measure => simp [intOf]; omega
    · obtain rfl : j = T := by omega
      have HW0 : Hid (TabW wr w'.heap.size (.slice av j cv) bs (firstK cs n 0) N) := Lib.hid (by
        have := HW.out
        rw [HF0.out j (Nat.le_refl _)] at this
        unfold firstK
        rw [HT.out]
        exact this)
      have hji : ¬ (j : Int) < (j : Int) := by omega
      clear HW
      go_wp2_with fail
      obtain ⟨wz, rfl⟩ : ∃ wz : World, wz = wr := ⟨_, rfl⟩
      go_loopw [6, 24] (fun vb vk wr => ∃ (k : Nat), vk = .int .i64 (k : Int) ∧ k ≤ N ∧ vb = .int .i64 (sm cs k) ∧ TabW wr w'.heap.size (.slice av j cv) bs (firstK cs n k) N ∧ Below w'.heap.size w' wr) (fun _ vk _ => N - (intOf vk).toNat)
      case atStart => exact ⟨0, rfl, by omega, by rw [sm_zero], HW0.out, HB.out⟩
      case round =>
        clear HW0 HB
        obtain ⟨k, rfl, hk, rfl, hW, hB⟩ := hrel
        have HW := Lib.hid hW
        have HB := Lib.hid hB
        have hsmk := HSM.out k hk
        clear hW hB
        by_cases hkN : k < N
        · have hki : (k : Int) < (N : Int) := by omega
          have HV2 := Lib.hid (HV.out.below HB.out)
          obtain ⟨b1, o1, k1, he1, c1⟩ := HV2.out.cell (show k < cs.length by rw [HN.out]; exact hkN)
          rw [HN.out] at he1
          simp only [Value.slice.injEq] at he1
          obtain ⟨rfl, _, rfl⟩ := he1
          have hxm := HCS.out _ (FreqM.getD_mem cs k (by rw [HN.out]; exact hkN))
          have hss := HSS.out k hkN
          obtain ⟨x, hx⟩ : ∃ x, cs.getD k 0 = x := ⟨_, rfl⟩
          rw [hx] at c1 hxm hss
          obtain ⟨hq, htT⟩ := HTB.out k
          have hfk := HFK.out k hkN
          obtain ⟨t, htt⟩ : ∃ t, tb cs n k = t := ⟨_, rfl⟩
          rw [htt] at hq htT hfk
          obtain ⟨gv, capv, b, y, he2, c2, c3, f3, hbB, hset⟩ := HW.out.set (t := t) (s := k) (by rw [HFL.out]; exact htT) hkN
          simp only [Value.slice.injEq] at he2
          obtain ⟨rfl, he2b, rfl⟩ := he2
          clear he2b
          have HNX : Hid (TabW (wr.setCell ⟨b, k, none⟩ (.int .i64 0)) w'.heap.size (.slice (some ⟨gv, 0, none⟩) j cv) bs (firstK cs n (k + 1)) N) := Lib.hid (by rw [hfk]; exact hset 0)
          have HBN : Hid (Below w'.heap.size w' (wr.setCell ⟨b, k, none⟩ (.int .i64 0))) := Lib.hid (HB.out.setCell (p := ⟨b, k, none⟩) hbB _)
          obtain ⟨S, hS⟩ : ∃ S, sm cs k = S := ⟨_, rfl⟩
          rw [hS] at hss hsmk hq ⊢
          obtain ⟨hS0, hS1⟩ := hsmk
          have hti : (t : Int) < (j : Int) := by omega
          have HSS2 := Lib.hid hss
          have hSb : S ≤ 283673999966208 := by omega
          clear hx htt hfk hset hS hss
          by_cases hmin : n - 1 < S
          · have hme : min S (n - 1) = n - 1 := by omega
            rw [hme] at hq
            have hP0 : 0 ≤ (n - 1) * (j : Int) := Int.mul_nonneg (by omega) (by omega)
            have hP1 : (n - 1) * (j : Int) ≤ 1099511627776 * 6 := Int.mul_le_mul (by omega) (by omega) (by omega) (by omega)
            obtain ⟨P, hP⟩ : ∃ P, (n - 1) * (j : Int) = P := ⟨_, rfl⟩
            rw [hP] at hq hP0 hP1
            have hPt : P.tdiv n = (t : Int) := by rw [Int.tdiv_eq_ediv_of_nonneg hP0, hq]
            have hn0 : ¬ n = 0 := by omega
            clear hme hq
            go_wp2_with fail
            go_roundw
            case rel => exact ⟨k + 1, by go_num, by omega, by rw [HSS2.out], HNX.out, HBN.out⟩
            case measure => simp [intOf]; omega
          · have hme : min S (n - 1) = S := by omega
            rw [hme] at hq
            have hP0 : 0 ≤ S * (j : Int) := Int.mul_nonneg (by omega) (by omega)
            have hP1 : S * (j : Int) ≤ 1099511627776 * 6 := Int.mul_le_mul (by omega) (by omega) (by omega) (by omega)
            obtain ⟨P, hP⟩ : ∃ P, S * (j : Int) = P := ⟨_, rfl⟩
            rw [hP] at hq hP0 hP1
            have hPt : P.tdiv n = (t : Int) := by rw [Int.tdiv_eq_ediv_of_nonneg hP0, hq]
            have hn0 : ¬ n = 0 := by omega
            clear hme hq
            go_wp2_with fail
            go_roundw
            case rel => exact ⟨k + 1, by go_num, by omega, by rw [HSS2.out], HNX.out, HBN.out⟩
            case measure => simp [intOf]; omega
        · obtain rfl : k = N := by omega
          have hki : ¬ (k : Int) < (k : Int) := by omega
          have HRR : Hid (IsRR wr (.slice av j cv) (firstM cs n)) := Lib.hid (by unfold firstM; rw [HN.out]; exact HW.out.rr)
          go_wp2_with fail
          go_ret
          exact ⟨_, rfl, HRR.out, HB.out⟩
end Go.Proofs.YtmlcdfimcabgkaaDoor
