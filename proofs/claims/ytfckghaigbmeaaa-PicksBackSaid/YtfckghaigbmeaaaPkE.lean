/-
  THE WALKS OF LAYER 13's CODE (package picks): next.
-/
import Derived.Test.YtfckghaigbmeaaaPkD
import Derived.Deep.RegionHeld3
namespace Go.Proofs.Ytfckghaigbmeaaa
open Go.RowKit PkM BitM
set_option linter.unusedVariables false
theorem lead_next : ∀ (q : List Bool) (i : Nat), i ≤ lead q → i < q.length → q.getD i false = true → i + 1 ≤ lead q
  | [], i, _, h, _ => absurd h (Nat.not_lt_zero _)
  | false :: q, i, h, _, e => by
    obtain rfl : i = 0 := Nat.le_zero.1 h
    cases e
  | true :: q, 0, h, _, e => by
    rw [lead]
    omega
  | true :: q, i + 1, h, hl, e => by
    rw [lead] at h ⊢
    rw [List.length_cons] at hl
    have := lead_next q i (by omega) (by omega) e
    omega
theorem lead_stop : ∀ (q : List Bool) (i : Nat), i ≤ lead q → i < q.length → q.getD i false = false → lead q = i
  | [], i, _, h, _ => absurd h (Nat.not_lt_zero _)
  | false :: q, i, h, _, e => by
    obtain rfl : i = 0 := Nat.le_zero.1 h
    rfl
  | true :: q, 0, h, _, e => by cases e
  | true :: q, i + 1, h, hl, e => by
    rw [lead] at h ⊢
    rw [List.length_cons] at hl
    rw [lead_stop q i (by omega) (by omega) e]
theorem num_at (q : List Bool) (i : Nat) (h : i < q.length) : num ((q.drop i).take 1) = bn (q.getD i false) := by
  rw [List.drop_eq_getElem_cons h, List.getD_eq_getElem?_getD, List.getElem?_eq_getElem h]
  show num [q[i]] = bn q[i]
  cases q[i] <;> rfl
set_option maxHeartbeats 400000 in
/-- 'append' of one number, where an operation of a region that draws its order stands. -/
theorem step_push_int {ops : Array Oper} {o : Oper} {a : Act} {K : Act → World → Prop} {Q : Exit → Act → World → Prop} {E : Prop} (W : World) (hg : o.guard = none) (s x : Operand)
    (ho : o.op = .call { callee := .builtin .append, args := #[s, x], argTypes := #[22, 22] })
    (base : Nat) (v : Value) (zs : List Int) (c : Int) (hown : OwnI W base v zs) (hs : a.eval s = v) (hx : a.eval x = .slice (some ⟨W.heap.size, 0, none⟩) 1 1)
    (hlen : zs.length + 1 ≤ 17592186044416) (hb : base ≤ W.heap.size)
    (h : ∀ v' w', OwnI w' base v' (zs ++ [c]) → Below base W w' → (∀ k, k < W.heap.size → v.ownBlock ≠ some k → w'.heap[k]? = W.heap[k]?) → (∀ k, v'.ownBlock = some k → v.ownBlock = some k ∨ W.heap.size ≤ k) → K (a.put o.dst v') w') :
    if Region.wanted o (yielded ops a.tmps) = true then Oper.wp Try.prog o a (W.alloc (.cells #[.int .i64 c] 3)) K Q else E := by
  obtain ⟨i0, hi, hz0, hz1, hz2⟩ := info_parts info_int
  refine step_append_own' hg s x 22 ho base 3 i0 (.int .i64 0) 1 8 Try.underlying22 hi hz0 hz1 hz2 rfl (by decide) v zs.length (zs.map iv64) hs (World.ownsRow.alloc hown _) ⟨W.heap.size, 0, none⟩ 1 1 [.int .i64 c] hx rfl ?_ ?_ ?_ ?_ ?_ ?_
  · exact news_new _ _ _ _ rfl
  · intro u hu; simp at hu; subst hu; rfl
  · unfold maxLen; omega
  · omega
  · simp; omega
  · intro v' w' hown' hg hv
    refine h v' w' ?_ (Below.grown ((Below.refl base W).alloc hb _) hg (by simp; omega) (fun j hj => (World.ownsRow.lt hown j hj).1)) (fun k hk hne => (hg.block k (by simp; omega) (fun e => hne e.symm)).trans (alloc_old hk)) (fun k hk => (hv k hk).imp id (fun h => by simp at h; omega))
    unfold OwnI
    rw [List.length_append, List.map_append]
    exact hown'
theorem pk_pushed {w : World} {b : Nat} {pv v2 : Value} {t n i X : Nat} {ps o : List Nat} {F F2 : Nat → Value} (h1 : ObjF 10 71 w b F2) (h2 : PF F pv t n o false) (h3 : ∀ j, j < 6 → F2 (3 + j) = ordF (tch o i) j) (h4 : ∀ k, (k < 3 ∨ 3 + 6 ≤ k) → F2 k = F k)
    (h5 : OwnI w (b + 1) v2 (toI ps ++ [(X : Int)])) (ho : o.length = 6) (hi : i < 6) (hl : ps.length + 1 ≤ 32767) : IsPk (w.setCell ⟨b, 2, none⟩ v2) b v2 t n (ps ++ [X]) (tch o i) false := by
  refine ⟨_, h1.set 2 _, ⟨?_, ?_, upd_same _ _ _, fun j hj => ?_, ?_⟩, ?_, ?_, ?_⟩
  · rw [upd_ne _ _ (by omega), h4 0 (by omega), h2.tab]
  · rw [upd_ne _ _ (by omega), h4 1 (by omega), h2.num]
  · rw [upd_ne _ _ (by omega), h3 j hj]
  · rw [upd_ne _ _ (by omega), h4 9 (by omega), h2.wrong]
  · rw [toI_app]
    exact own_touch h5 (touch_cell (Touch.refl _ _)) (Nat.lt_succ_self _)
  · rw [tch_length o i (by omega), ho]
  · rw [List.length_append]
    exact hl
theorem pk_push_touch {w1 wA w2 : World} {b : Nat} {pv x : Value} (h1 : Touch (· = b) (w1.drewN 1) wA) (h2 : Below (b + 1) wA w2) (h3 : ∀ k, k < wA.heap.size → pv.ownBlock ≠ some k → w2.heap[k]? = wA.heap[k]?) : Touch (foot b pv) (w1.drewN 1) (w2.setCell ⟨b, 2, none⟩ x) := by
  have h4 : Touch (foot b pv) wA w2 := ⟨h2.os, h2.tape, h2.output, h2.size, fun k hk hn => h3 k hk (fun e => hn (Or.inr e))⟩
  exact ((h1.mono (fun k hk => Or.inl hk)).trans h4 (fun k hk => Or.inl hk)).setCell (p := ⟨b, 2, none⟩) (Or.inl (Or.inl rfl)) _
set_option maxRecDepth 100000 in
set_option maxHeartbeats 4000000 in
theorem pnext_any (b rb : Nat) (pv : Value) (t n : Nat) (ps o : List Nat) (v : Value) (l : List UInt8) (dr sp p : Nat) (w : World) (hD : IsPk w b pv t n ps o false) (hR : IsReader w rb v l dr sp p) (hs : dr + l.length ≤ 1099511627776)
    (hne : ∀ k, foot rb v k → ¬ foot b pv k) (hn : 1 ≤ n) (hn2 : n ≤ 32767) (hl : ps.length < n) (ht6 : t ≤ 6) :
    Calls Try.prog 46 #[.pointer (some ⟨b, 0, none⟩), .pointer (some ⟨rb, 0, none⟩)] w fun e w' =>
      StepK w w' b rb pv v l dr sp p (pstep ((bitsOf l).drop (p - 8 * dr)) t n ps o false) false e := by
  have HD := Lib.hid hD
  have HR := Lib.hid hR
  have HNE := Lib.hid hne
  have h1 := hR.2.2.2.1
  have h2 := hR.2.2.2.2
  have hnb : Hid (∀ k, foot b pv k → ¬ k = rb) := Lib.hid (fun k hk e => hne rb (Or.inl rfl) (e ▸ hk))
  have hql : ((bitsOf l).drop (p - 8 * dr)).length = 8 * (dr + l.length) - p := by rw [List.length_drop, bitsOf_length]; omega
  have HDR : Hid (∀ i, (bitsOf l).drop (p + i - 8 * dr) = ((bitsOf l).drop (p - 8 * dr)).drop i) := Lib.hid (fun i => by rw [List.drop_drop]; congr 1; omega)
  obtain ⟨q, hq⟩ : ∃ q, (bitsOf l).drop (p - 8 * dr) = q := ⟨_, rfl⟩
  rw [hq] at hql HDR ⊢
  have hc0 := hD.cells.1
  have hll := lead_le q
  clear hD hR hne hq
  go_enter Try.func46, Try.ntmps46
  go_wp2_with fail
  refine (rat_any rb v l dr sp p w HR.out).mono ?_
  rintro e w' ⟨rfl, rfl⟩
  go_wp2_with fail
  go_loopw [15] (fun vi wr => ∃ i : Nat, vi = .int .i64 (i : Int) ∧ i ≤ t ∧ i ≤ lead q ∧ IsReader wr rb v l dr sp (p + i) ∧ Touch (· = rb) w wr) (fun vi _ => t - (intOf vi).toNat)
  case atStart => exact ⟨0, rfl, Nat.zero_le _, Nat.zero_le _, HR.out, Touch.refl _ _⟩
  case round =>
    clear hc0
    obtain ⟨i, rfl, hit, hil, hRi, hTi⟩ := hrel
    have HRi := Lib.hid hRi
    have HTi := Lib.hid hTi
    have HDi := Lib.hid (HD.out.other hTi (fun k hk => hnb.out k hk))
    clear hRi hTi
    by_cases hlt : i < t
    · have hlti : (i : Int) < (t : Int) := by omega
      by_cases hend : i < q.length
      · have HG := get_any rb v l dr sp (p + i) 1 wr HRi.out hs (by omega) (by omega)
        rw [HDR.out i, num_at q i hend] at HG
        have HGH := Lib.hid HG
        clear HG
        cases hb : q.getD i false with
        | true =>
          rw [hb] at HGH
          have hil2 := lead_next q i hil hend hb
          clear hb
          have hb1 : ((bn true : Nat) : Int) = 1 := rfl
          rw [hb1] at HGH
          clear hb1
          go_wp2_with fail
          refine HGH.out.mono ?_
          rintro e w1 ⟨rfl, hr1, ht1⟩
          have HR1 := Lib.hid hr1
          have HT1 : Hid (Touch (· = rb) w w1) := Lib.hid (HTi.out.trans ht1 (fun _ h => Or.inl h))
          clear hr1 ht1
          go_wp2_with fail
          go_roundw
          case rel => exact ⟨i + 1, by go_num, by omega, hil2, HR1.out, HT1.out⟩
          case measure => simp [intOf]; omega
        | false =>
          rw [hb] at HGH
          have hli := lead_stop q i hil hend hb
          have HO := Lib.hid (pstep_one q (t := t) (n := n) ps o (by omega) (by omega) (by omega))
          rw [hli] at HO
          clear hb hil hll hend hql
          have hb1 : ((bn false : Nat) : Int) = 0 := rfl
          rw [hb1] at HGH
          clear hb1 hli
          go_wp2_with fail
          refine HGH.out.mono ?_
          rintro e w1 ⟨rfl, hr1, ht1⟩
          have HR1 := Lib.hid hr1
          have HT1 : Hid (Touch (· = rb) w w1) := Lib.hid (HTi.out.trans ht1 (fun _ h => Or.inl h))
          have hD1 := HDi.out.other ht1 (fun k hk => hnb.out k hk)
          have HF1 := Lib.hid hD1.lt
          obtain ⟨⟨pa, pc, rfl⟩, _⟩ := hD1.slice
          obtain ⟨F, hO1, hP1, hW1, ho6, hp3⟩ := hD1
          have HO1 := Lib.hid hO1
          have HP1 := Lib.hid hP1
          have HW1 := Lib.hid hW1
          have c2 : w1.cell? ⟨b, 2, none⟩ = some (.slice pa ps.length pc) := by rw [(hO1.cell (i := 2) (by omega)).1, hP1.row]
          have HL1 : Hid (LstAt 10 71 (w1.drewN 1) b 3 F o) := Lib.hid ⟨hO1.drewN 1, ho6, by omega, hP1.lst⟩
          obtain ⟨X, hX⟩ : ∃ X : Nat, o.getD i 0 = X := ⟨_, rfl⟩
          have hXX : ordF o i = .int .i64 (X : Int) := by unfold ordF; rw [hX]
          have HTK := ptake_any 10 71 b 3 i F o _ HL1.out (by omega)
          rw [hXX] at HTK
          rw [hX] at HO
          have HTKH := Lib.hid HTK
          have HLE : Hid (ps.length + 1 ≤ 32767) := Lib.hid (by omega)
          have hlen := toI_length ps
          have HLEN := Lib.hid hlen
          have hbw : b < w1.heap.size := hO1.lt
          clear hr1 ht1 hO1 hP1 hW1 HTK hX hXX hlen HGH hp3
          go_wp2_with fail
          go_region_law (first
              | (refine step_push_int wA (by rfl) _ _ (by rfl) (b + 1) _ (toI ps) (X : Int) HWA.out (by rfl) (by rfl) (by have := HLE.out; have := HLEN.out; omega) hbA ?_; intro v2 w2 hO2 hB2 hsame hfr; obtain ⟨a2, c2, e2⟩ := hO2.slice; obtain ⟨L2, hL2e⟩ : ∃ L2, (toI ps ++ [(X : Int)]).length = L2 := ⟨_, rfl⟩; rw [hL2e] at e2; subst e2; clear hL2e; have hbO : w2.heap[b]? = wA.heap[b]? := (hsame b hbA (fun e => by have h9 := (HWA.out.lt b e).1; omega)); have HO2 := Lib.hid hO2; have HOB : Hid (ObjF 10 71 w2 b F2) := Lib.hid (hbO.trans HL2.out.1); have k2 : w2.cell? ⟨b, 2, none⟩ = some (.slice pa ps.length pc) := (by rw [(HOB.out.cell (i := 2) (by omega)).1, HF2.out 2 (by omega), HP1.out.row]); have k3 : w2.frozen? ⟨b, 2, none⟩ = false := (HOB.out.cell (i := 2) (by omega)).2; have HS2 := Lib.hid hsame; have HB2 := Lib.hid hB2; have HFR := Lib.hid hfr; clear hO2 hB2 hsame hfr hbO)
              | (go_simp; go_at_call 51; refine HTKH.out.mono ?_; rintro e wA ⟨rfl, ⟨F2, hL2, hF2⟩, hT2⟩; have kA : wA.cell? ⟨b, 2, none⟩ = some (.slice pa ps.length pc) := (by rw [(hL2.1.cell (i := 2) (by omega)).1, hF2 2 (by omega), HP1.out.row]); have kA2 : (wA.alloc (.cells #[.int .i64 (X : Int)] 3)).cell? ⟨b, 2, none⟩ = some (.slice pa ps.length pc) := ((World.cell?_alloc_some _ _ _ (by rw [kA]; rfl)).trans kA); have HL2 := Lib.hid hL2; have HF2 := Lib.hid hF2; have HT2 := Lib.hid hT2; have HWA : Hid (OwnI wA (b + 1) (.slice pa ps.length pc) (toI ps)) := Lib.hid (own_touch (HW1.out.drewN 1) hT2 (by omega)); have hbA : b + 1 ≤ wA.heap.size := hL2.1.lt; clear hL2 hF2 hT2))
          all_goals
            go_wp2_with fail
            go_ret
            rw [HO.out]
            exact ⟨_, rfl, pk_pushed HOB.out HP1.out HL2.out.2.2.2 HF2.out HO2.out ho6 (by omega) HLE.out, (HR1.out.drewN 1).other (pk_push_touch HT2.out HB2.out HS2.out) (fun k hk e => HNE.out k hk e), pk_tr (pk_r HT1.out) (pk_tr (pk_d 1) (pk_push_touch HT2.out HB2.out HS2.out |>.mono (fun k hk => Or.inl hk))), fun k hk => by
              rcases HFR.out k hk with h | h
              · exact Or.inl h
              · exact Or.inr (by have h3 := HT1.out.size; have h4 : w1.heap.size ≤ wA.heap.size := HT2.out.size; omega)⟩
      · have hie : i = q.length := by omega
        have HG := Lib.hid (get_short rb v l dr sp (p + i) 1 wr HRi.out hs (by omega) (by omega))
        have HO := Lib.hid (pstep_short q (t := t) (n := n) ps o (by omega) (by omega) (by omega))
        clear hie hend hql hll hil
        go_wp2_with fail
        refine HG.out.mono ?_
        rintro e w1 ⟨rfl, m, hw1⟩
        have HR1 : Hid (IsReader w1 rb v l dr sp (p + i)) := Lib.hid (by rw [hw1]; exact HRi.out.drewN m)
        have HT1 : Hid (Touch (· = rb) w w1) := Lib.hid (by rw [hw1]; exact HTi.out.trans (touch_drewN (· = rb) _ m) (fun _ h => Or.inl h))
        have HD1 : Hid (IsPk w1 b pv t n ps o false) := Lib.hid (by rw [hw1]; exact HDi.out.drewN m)
        clear hw1
        go_wp2_with fail
        refine (seek_yes rb v l dr sp (p + i) p w1 HR1.out hs h1 h2).mono ?_
        rintro e w2 ⟨rfl, hr2, ht2⟩
        have HR2 := Lib.hid hr2
        have HD2 := Lib.hid (HD1.out.other ht2 (fun k hk => hnb.out k hk))
        have HT2 : Hid (Touch (· = rb) w w2) := Lib.hid (HT1.out.trans ht2 (fun _ h => Or.inl h))
        clear hr2 ht2
        go_wp2_with fail
        go_ret
        rw [HO.out]
        exact ⟨pv, rfl, HD2.out, HR2.out, pk_r HT2.out, fun k hk => Or.inl hk⟩
    · have hlti : ¬ (i : Int) < (t : Int) := by omega
      obtain rfl : i = t := by omega
      have HO := Lib.hid (pstep_wrong q (t := i) (n := n) ps o (by omega) hil)
      go_wp2_with fail
      go_ret
      rw [HO.out]
      exact ⟨pv, rfl, HDi.out, HRi.out, pk_r HTi.out, fun k hk => Or.inl hk⟩
end Go.Proofs.Ytfckghaigbmeaaa
