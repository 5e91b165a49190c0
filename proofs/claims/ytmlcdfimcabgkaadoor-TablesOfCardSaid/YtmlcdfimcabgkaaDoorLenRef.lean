/-
  LAYER 9 (lens), THE DOCUMENT's ANSWER (balerref09): rows of trees; the least one; a row without one.
-/
import Derived.Test.YtmlcdfimcabgkaaDoorInts
import Derived.Test.YtmlcdfimcabgkaaDoorHufMathB
import Derived.StillTailTactics
namespace Go.Proofs.YtmlcdfimcabgkaaDoor
open Go.RowKit HufM
set_option linter.unusedVariables false
/-- A tree: weight, number; its leaves. -/
abbrev T3 := Tr × List Int
def tcells (t : T3) (u : Value) : List Value := [.int .i64 (t.1.1 : Int), .int .i64 (t.1.2 : Int), u]
def tflat : List T3 → List Value → List Value
  | t :: ts, u :: us => tcells t u ++ tflat ts us
  | _, _ => []
theorem tflat_len : ∀ (ts : List T3) (us : List Value), us.length = ts.length → (tflat ts us).length = ts.length * 3
  | [], [], _ => rfl
  | t :: ts, u :: us, h => by
    simp only [tflat, List.length_append, List.length_cons, tcells, List.length_nil]
    rw [tflat_len ts us (by simpa using h)]
    omega
  | [], u :: us, h => by simp at h
  | t :: ts, [], h => by simp at h
theorem tflat_append : ∀ (ts : List T3) (us : List Value) (t : T3) (u : Value), us.length = ts.length → tflat (ts ++ [t]) (us ++ [u]) = tflat ts us ++ tcells t u
  | [], [], t, u, _ => by simp [tflat]
  | x :: ts, y :: us, t, u, h => by
    simp only [List.cons_append, tflat]
    rw [tflat_append ts us t u (by simpa using h), List.append_assoc]
  | [], y :: us, t, u, h => by simp at h
  | x :: ts, [], t, u, h => by simp at h
theorem tflat_at : ∀ (ts : List T3) (us : List Value) (k : Nat) (t : T3) (u : Value), us.length = ts.length → ts[k]? = some t → us[k]? = some u →
    (tflat ts us)[k * 3]? = some (.int .i64 (t.1.1 : Int)) ∧ (tflat ts us)[k * 3 + 1]? = some (.int .i64 (t.1.2 : Int)) ∧ (tflat ts us)[k * 3 + 2]? = some u
  | [], _, k, t, u, _, h, _ => by simp at h
  | x :: ts, [], k, t, u, hl, _, _ => by simp at hl
  | x :: ts, y :: us, 0, t, u, _, h, h2 => by
    have e1 : x = t := by simpa using h
    have e2 : y = u := by simpa using h2
    subst e1 e2
    exact ⟨rfl, rfl, rfl⟩
  | x :: ts, y :: us, k + 1, t, u, hl, h, h2 => by
    have ih := tflat_at ts us k t u (by simpa using hl) (by simpa using h) (by simpa using h2)
    simp only [tflat]
    have e : (tcells x y).length = 3 := rfl
    rw [List.getElem?_append_right (by rw [e]; omega), List.getElem?_append_right (by rw [e]; omega), List.getElem?_append_right (by rw [e]; omega), e]
    rw [show (k + 1) * 3 - 3 = k * 3 from by omega, show (k + 1) * 3 + 1 - 3 = k * 3 + 1 from by omega, show (k + 1) * 3 + 2 - 3 = k * 3 + 2 from by omega]
    exact ih
variable {X : Nat}
/-- v is a row of trees, the call's own from base on; each tree's leaves are a row of their own, none of them in block X. -/
def OwnT (X : Nat) (W : World) (base : Nat) (v : Value) (ts : List T3) : Prop :=
  ∃ us : List Value, us.length = ts.length ∧ W.ownsRow base 70 3 v ts.length (tflat ts us) ∧ ∀ (i : Nat) (t : T3) (u : Value), ts[i]? = some t → us[i]? = some u → OwnI W 0 u t.2 ∧ u.ownBlock ≠ some X
theorem OwnT.nil (W : World) (base : Nat) : OwnT X W base (.slice none 0 0) [] := ⟨[], rfl, World.ownsRow_nil _ _ _ _, fun i t u h => by simp at h⟩
theorem OwnT.slice {W : World} {base : Nat} {v : Value} {ts : List T3} (h : OwnT X W base v ts) : ∃ a cap, v = .slice a ts.length cap := by
  obtain ⟨us, h1, h2, h3⟩ := h
  exact slice_of_own h2
theorem OwnT.below {W W' : World} {base : Nat} {v : Value} {ts : List T3} (h : OwnT X W base v ts) (hb : Below W.heap.size W W') : OwnT X W' base v ts := by
  obtain ⟨us, h1, h2, h3⟩ := h
  exact ⟨us, h1, ownsRow_other h2 (fun k hk => hb.block k (World.ownsRow.lt h2 k hk).2), fun i t u ht hu => ⟨(h3 i t u ht hu).1.below hb, (h3 i t u ht hu).2⟩⟩
/-- A tree of a row, as a walk reads it. -/
theorem OwnT.at {W : World} {base : Nat} {v : Value} {ts : List T3} (h : OwnT X W base v ts) {k : Nat} {t : T3} (ht : ts[k]? = some t) :
    ∃ g cap u, v = .slice (some ⟨g, 0, none⟩) ts.length cap ∧ g < W.heap.size ∧ W.cell? ⟨g, k * 3, none⟩ = some (.int .i64 (t.1.1 : Int)) ∧ W.cell? ⟨g, k * 3 + 1, none⟩ = some (.int .i64 (t.1.2 : Int)) ∧ W.cell? ⟨g, k * 3 + 2, none⟩ = some u ∧ OwnI W 0 u t.2 ∧ u.ownBlock ≠ some X := by
  obtain ⟨us, h1, h2, h3⟩ := h
  have hk := (List.getElem?_eq_some_iff.1 ht).1
  have hc := h2
  rcases h2.2 with ⟨rfl, h0⟩ | ⟨g, cap, cur, rfl, hB, hg, hr⟩
  · omega
  · have hu : us[k]? = some (us[k]'(by omega)) := List.getElem?_eq_getElem (by omega)
    obtain ⟨f1, f2, f3⟩ := tflat_at ts us k t _ h1 ht hu
    refine ⟨g, cap, _, rfl, (Array.getElem?_eq_some_iff.1 hg).1, ?_, ?_, ?_, h3 k t _ ht hu⟩
    · have := hc.cells (g := g) rfl _ _ f1
      rwa [Addr.add_lit, Nat.zero_add] at this
    · have := hc.cells (g := g) rfl _ _ f2
      rwa [Addr.add_lit, Nat.zero_add] at this
    · have := hc.cells (g := g) rfl _ _ f3
      rwa [Addr.add_lit, Nat.zero_add] at this
theorem OwnT.new {W : World} {base Y : Nat} {v : Value} {ts : List T3} (h : OwnT X W base v ts) (hY : W.heap.size ≤ Y) : OwnT Y W base v ts := by
  obtain ⟨us, h1, h2, h3⟩ := h
  refine ⟨us, h1, h2, fun i t u ht hu => ⟨(h3 i t u ht hu).1, fun e => ?_⟩⟩
  have := (World.ownsRow.lt (h3 i t u ht hu).1 Y e).2
  omega
/-- A store into block X, which holds numbers. -/
theorem OwnT.set {W W' : World} {base : Nat} {v : Value} {ts : List T3} (h : OwnT X W base v ts) {zs : List Int} (hX : RowI W X zs) (ht : Touch (· = X) W W') : OwnT X W' base v ts := by
  obtain ⟨us, h1, h2, h3⟩ := h
  have hlt : ∀ k, v.ownBlock = some k → k ≠ X := fun k hk e => by
    rcases h2.2 with ⟨rfl, _⟩ | ⟨g, cap, cur, rfl, _, hgc, _⟩
    · simp [Value.ownBlock] at hk
    · simp [Value.ownBlock] at hk
      subst hk e
      unfold RowI at hX
      rw [hgc] at hX
      simp at hX
  refine ⟨us, h1, ownsRow_other h2 (fun k hk => ht.block k (World.ownsRow.lt h2 k hk).2 (hlt k hk)), fun i t u hti hu => ⟨?_, (h3 i t u hti hu).2⟩⟩
  have ho := (h3 i t u hti hu).1
  exact ho.same (fun k hk => ht.block k (World.ownsRow.lt ho k hk).2 (fun e => by
    have e' : k = X := e
    subst e'
    exact (h3 i t u hti hu).2 hk))
theorem infoTree : (Tryd.prog.info? 70).map (fun i => (i.zero, i.size, i.bytes)) = some (some (.agg #[.int .i64 0, .int .i64 0, .slice none 0 0]), 3, 40) := by kernel_rfl
set_option maxHeartbeats 1000000 in
theorem push_tree {ops : Array Oper} {rest : List Oper} {o : Oper} {a : Act} {Q : Exit → Act → World → Prop} (W : World) (hgd : o.guard = none) (s x : Operand)
    (ho : o.op = .call { callee := .builtin .append, args := #[s, x], argTypes := #[68, 68] })
    (B G : Nat) (hG : W.heap.size = G) (v : Value) (ts : List T3) (t : T3) (u : Value) (hown : OwnT X W B v ts) (hu : OwnI W 0 u t.2) (hux : u.ownBlock ≠ some X) (hs : a.eval s = v) (hx : a.eval x = .slice (some ⟨G, 0, none⟩) 1 1)
    (hlen : ts.length + 1 ≤ 1000000) (hB : B ≤ W.heap.size)
    (h : ∀ v' w', OwnT X w' B v' (ts ++ [t]) → Below B W w' → wpList Tryd.prog ops Q rest (a.put o.dst v') w') :
    wpList Tryd.prog ops Q (o :: rest) a (W.alloc (.cells #[.int .i64 (t.1.1 : Int), .int .i64 (t.1.2 : Int), u] 70)) := by
  subst hG
  obtain ⟨i0, hi, hz0, hz1, hz2⟩ := info_parts infoTree
  obtain ⟨us, h1, h5, h6⟩ := hown
  refine wpList_append_own2 hgd s x 68 ho B 70 i0 (.agg #[.int .i64 0, .int .i64 0, .slice none 0 0]) 3 40 Tryd.underlying68 hi hz0 hz1 hz2 rfl (by decide) v ts.length (tflat ts us) (World.ownsRow.alloc h5 _) hs ⟨W.heap.size, 0, none⟩ 1 1 (tcells t u) hx rfl ?_ ?_ ?_ ?_ ?_ ?_
  · exact news_new _ _ _ _ rfl
  · intro y hy
    obtain ⟨a1, c1, rfl⟩ := hu.slice
    simp only [tcells, List.mem_cons, List.not_mem_nil, or_false] at hy
    rcases hy with rfl | rfl | rfl <;> rfl
  · unfold maxLen; omega
  · omega
  · simp; omega
  · intro v' w' hown' hg hv
    have hBW : Below B W w' := Below.grown ((Below.refl B W).alloc hB _) hg (by simp; omega) (fun j hj => (World.ownsRow.lt h5 j hj).1)
    have leaf : ∀ (y : Value) (zs : List Int), OwnI W 0 y zs → OwnI w' 0 y zs := fun y zs hy => hy.same (fun k hk => by
      have hlt := (World.ownsRow.lt hy k hk).2
      refine (hg.block k (by simp; omega) (fun e => ?_)).trans (alloc_old hlt)
      -- the row's own block holds trees, the leaves' holds numbers
      rcases h5.2 with ⟨rfl, _⟩ | ⟨g, cap, cur, rfl, _, hgc, _⟩
      · simp [Value.ownBlock] at e
      · simp [Value.ownBlock] at e
        rcases hy.2 with ⟨rfl, _⟩ | ⟨g2, cap2, cur2, rfl, _, hgc2, _⟩
        · simp [Value.ownBlock] at hk
        · simp [Value.ownBlock] at hk
          subst e hk
          rw [hgc] at hgc2
          simp at hgc2)
    refine h v' w' ⟨us ++ [u], by simp [h1], by rw [List.length_append, tflat_append ts us t u h1]; exact hown', fun i y z hy hz => ?_⟩ hBW
    rw [List.getElem?_append] at hy hz
    by_cases hlt : i < ts.length
    · rw [if_pos hlt] at hy
      rw [if_pos (by omega)] at hz
      exact ⟨leaf _ _ (h6 i y z hy hz).1, (h6 i y z hy hz).2⟩
    · rw [if_neg hlt] at hy
      rw [if_neg (by omega)] at hz
      have hi0 : i - ts.length = 0 := by
        by_cases h0 : i - ts.length = 0
        · exact h0
        · rw [List.getElem?_eq_none (by simp; omega)] at hy; cases hy
      rw [hi0] at hy
      rw [h1, hi0] at hz
      simp at hy hz
      subst hy hz
      exact ⟨leaf _ _ hu, hux⟩
def tv (t : T3) (u : Value) : Value := .agg #[.int .i64 (t.1.1 : Int), .int .i64 (t.1.2 : Int), u]
set_option maxRecDepth 100000 in
set_option maxHeartbeats 2000000 in
theorem tless_any (s t : T3) (u v : Value) (r : Bool) (w : World) (hr : r = true ↔ lt s.1 t.1) :
    Calls Tryd.prog 65 #[tv s u, tv t v] w fun e w' => e = .returned (.bool r) ∧ Below w.heap.size w w' := by
  obtain ⟨⟨a, b⟩, l⟩ := s
  obtain ⟨⟨c, d⟩, m⟩ := t
  unfold lt at hr
  simp only at hr
  have HR := Lib.hid hr
  have HB : Hid (∀ o o', Below w.heap.size w ((w.alloc o).alloc o')) := Lib.hid (fun o o' => ((Below.refl _ w).alloc (Nat.le_refl _) o).alloc (by simp) o')
  clear hr
  unfold tv
  simp only
  by_cases h1 : a < c
  · have h1i : (a : Int) < (c : Int) := by omega
    obtain rfl : r = true := HR.out.2 (Or.inl h1)
    go_enter Tryd.func65, Tryd.ntmps65
    go_wp2_with fail
    go_ret
    exact ⟨rfl, HB.out _ _⟩
  · have h1i : decide ((a : Int) < (c : Int)) = false := by simp only [decide_eq_false_iff_not]; omega
    by_cases h2 : a = c
    · have h2i : ((a : Int) == (c : Int)) = true := by rw [beq_iff_eq]; omega
      have h2n : a ≤ c := by omega
      by_cases h3 : b < d
      · have h3i : (b : Int) < (d : Int) := by omega
        obtain rfl : r = true := HR.out.2 (Or.inr ⟨h2, h3⟩)
        clear h2
        go_enter Tryd.func65, Tryd.ntmps65
        go_wp2_with fail
        go_ret
        exact ⟨rfl, HB.out _ _⟩
      · have h3i : decide ((b : Int) < (d : Int)) = false := by simp only [decide_eq_false_iff_not]; omega
        obtain rfl : r = false := by
          rw [Bool.eq_false_iff, Ne, HR.out]; omega
        clear h2
        go_enter Tryd.func65, Tryd.ntmps65
        go_wp2_with fail
        go_ret
        exact ⟨rfl, HB.out _ _⟩
    · have h2i : ((a : Int) == (c : Int)) = false := by rw [beq_eq_false_iff_ne]; omega
      obtain rfl : r = false := by
        rw [Bool.eq_false_iff, Ne, HR.out]; omega
      go_enter Tryd.func65, Tryd.ntmps65
      go_wp2_with fail
      go_ret
      exact ⟨rfl, HB.out _ _⟩
/-- None of the first k trees is less than that of place m. -/
def NoneLess (ts : List T3) (m k : Nat) : Prop := ∀ (j : Nat) (t y : T3), j < k → ts[j]? = some t → ts[m]? = some y → ¬ lt t.1 y.1
set_option maxRecDepth 100000 in
set_option maxHeartbeats 2000000 in
theorem tleast_any (v : Value) (ts : List T3) (w : World) (base : Nat) (hv : OwnT X w base v ts) (h1 : 1 ≤ ts.length) (hn : ts.length ≤ 1000) :
    Calls Tryd.prog 59 #[v] w fun e w' => ∃ at_ : Nat, e = .returned (.int .i64 (at_ : Int)) ∧ at_ < ts.length ∧ NoneLess ts at_ ts.length ∧ Below w.heap.size w w' := by
  have HV := Lib.hid hv
  obtain ⟨a0, cap0, rfl⟩ := hv.slice
  clear hv
  go_enter Tryd.func59, Tryd.ntmps59
  go_wp2_with fail
  go_loopw [3, 8] (fun va vi wr => ∃ k m : Nat, vi = .int .i64 k ∧ k ≤ ts.length ∧ va = .int .i64 m ∧ m < ts.length ∧ NoneLess ts m k ∧ Below w.heap.size w wr) (fun _ vi _ => ts.length - (intOf vi).toNat)
  case atStart => exact ⟨0, 0, rfl, by omega, rfl, by omega, fun j t y hj => by omega, Below.refl _ _⟩
  case round =>
    obtain ⟨k, m, rfl, hk, rfl, hm, hA, hB⟩ := hrel
    have HA := Lib.hid hA
    have HB := Lib.hid hB
    have HVW := Lib.hid (HV.out.below hB)
    clear hA hB
    by_cases hlk : k < ts.length
    · have hki : (k : Int) < (ts.length : Int) := by omega
      have hmi : (m : Int) < (ts.length : Int) := by omega
      obtain ⟨t, ht⟩ : ∃ t, ts[k]? = some t := ⟨_, List.getElem?_eq_getElem hlk⟩
      obtain ⟨y, hy⟩ : ∃ y, ts[m]? = some y := ⟨_, List.getElem?_eq_getElem hm⟩
      obtain ⟨g, cap, u, he, hg, c0, c1, c2, ho, hox⟩ := HVW.out.at ht
      obtain ⟨g2, cap2, u2, he2, hg2, d0, d1, d2, ho2, hox2⟩ := HVW.out.at hy
      simp only [Value.slice.injEq] at he he2
      obtain ⟨rfl, _, rfl⟩ := he
      simp only [Option.some.injEq, Addr.mk.injEq] at he2
      obtain ⟨⟨rfl, _⟩, _, rfl⟩ := he2
      obtain ⟨ua, uc, rfl⟩ := ho.slice
      obtain ⟨va, vc, rfl⟩ := ho2.slice
      have HT := Lib.hid ht
      have HY := Lib.hid hy
      have hkn : k * 3 < 3000 := by omega
      have hmn : m * 3 < 3000 := by omega
      have W1 : Hid (Below w.heap.size w (wr.alloc (.cells #[.int .i64 (t.1.1 : Int), .int .i64 (t.1.2 : Int), .slice ua t.2.length uc] 70))) := Lib.hid (HB.out.alloc HB.out.size _)
      have W0 : Below wr.heap.size wr (wr.alloc (.cells #[.int .i64 (t.1.1 : Int), .int .i64 (t.1.2 : Int), .slice ua t.2.length uc] 70)) := (Below.refl _ wr).alloc (Nat.le_refl _) _
      have d0' := (W0.cell (p := ⟨g, m * 3, none⟩) hg).trans d0
      have d1' := (W0.cell (p := ⟨g, m * 3 + 1, none⟩) hg).trans d1
      have d2' := (W0.cell (p := ⟨g, m * 3 + 2, none⟩) hg).trans d2
      have hnew : (wr.alloc (.cells #[.int .i64 (t.1.1 : Int), .int .i64 (t.1.2 : Int), .slice ua t.2.length uc] 70)).heap[wr.heap.size]? = some (.cells #[.int .i64 (t.1.1 : Int), .int .i64 (t.1.2 : Int), .slice ua t.2.length uc] 70 (0, 0)) := heap_alloc_new wr _
      have n0 : (wr.alloc (.cells #[.int .i64 (t.1.1 : Int), .int .i64 (t.1.2 : Int), .slice ua t.2.length uc] 70)).cell? ⟨wr.heap.size, 0, none⟩ = some (.int .i64 (t.1.1 : Int)) := by rw [cell_of_row _ _ _ _ _ _ hnew]; rfl
      have n1 : (wr.alloc (.cells #[.int .i64 (t.1.1 : Int), .int .i64 (t.1.2 : Int), .slice ua t.2.length uc] 70)).cell? ⟨wr.heap.size, 1, none⟩ = some (.int .i64 (t.1.2 : Int)) := by rw [cell_of_row _ _ _ _ _ _ hnew]; rfl
      have n2 : (wr.alloc (.cells #[.int .i64 (t.1.1 : Int), .int .i64 (t.1.2 : Int), .slice ua t.2.length uc] 70)).cell? ⟨wr.heap.size, 2, none⟩ = some (.slice ua t.2.length uc) := by rw [cell_of_row _ _ _ _ _ _ hnew]; rfl
      clear ht hy ho ho2 W0 hnew hox hox2
      by_cases hlt : lt t.1 y.1
      · have HL := Lib.hid hlt
        have HC : Hid (∀ q, Calls Tryd.prog 65 #[tv t (.slice ua t.2.length uc), tv y (.slice va y.2.length vc)] q fun e w' => e = .returned (.bool true) ∧ Below q.heap.size q w') := Lib.hid (fun q => tless_any t y _ _ true q ⟨fun _ => hlt, fun _ => rfl⟩)
        clear hlt
        go_wp2_with fail
        generalize (wr.alloc (.cells #[.int .i64 (t.1.1 : Int), .int .i64 (t.1.2 : Int), .slice ua t.2.length uc] 70)) = w2 at *
        go_still_tail 5, (by kernel_rfl)
        change wpList _ _ _ _ _ (w2.drewN 1)
        go_wp2_with fail
        refine (HC.out _).mono ?_
        rintro e w3 ⟨rfl, hb⟩
        have HB3 : Hid (Below w.heap.size w w3) := Lib.hid (W1.out.trans (((below_drewN w2 1).trans hb).mono W1.out.size))
        clear hb
        go_wp2_with fail
        go_roundw
        case rel => exact ⟨k + 1, k, by go_num, by omega, rfl, hlk, fun j s z hj hs hz => by
          rw [HT.out] at hz
          cases hz
          by_cases e : j = k
          · subst e
            rw [HT.out] at hs
            cases hs
            exact fun h => lt_asym h h
          · intro h
            exact HA.out j s y (by omega) hs HY.out (lt_trans h HL.out), HB3.out⟩
        case measure => simp [intOf]; omega
      · have HL := Lib.hid hlt
        have HC : Hid (∀ q, Calls Tryd.prog 65 #[tv t (.slice ua t.2.length uc), tv y (.slice va y.2.length vc)] q fun e w' => e = .returned (.bool false) ∧ Below q.heap.size q w') := Lib.hid (fun q => tless_any t y _ _ false q ⟨fun h => (by cases h), fun h => absurd h hlt⟩)
        clear hlt
        go_wp2_with fail
        generalize (wr.alloc (.cells #[.int .i64 (t.1.1 : Int), .int .i64 (t.1.2 : Int), .slice ua t.2.length uc] 70)) = w2 at *
        go_still_tail 5, (by kernel_rfl)
        change wpList _ _ _ _ _ (w2.drewN 1)
        go_wp2_with fail
        refine (HC.out _).mono ?_
        rintro e w3 ⟨rfl, hb⟩
        have HB3 : Hid (Below w.heap.size w w3) := Lib.hid (W1.out.trans (((below_drewN w2 1).trans hb).mono W1.out.size))
        clear hb
        go_wp2_with fail
        go_roundw
        case rel => exact ⟨k + 1, m, by go_num, by omega, rfl, hm, fun j s z hj hs hz => by
          by_cases e : j = k
          · subst e
            rw [HT.out] at hs
            rw [HY.out] at hz
            cases hs
            cases hz
            exact HL.out
          · exact HA.out j s z (by omega) hs hz, HB3.out⟩
        case measure => simp [intOf]; omega
    · have hki : ¬ (k : Int) < (ts.length : Int) := by omega
      go_wp2_with fail
      go_ret
      exact ⟨m, rfl, hm, fun j s z hj hs hz => HA.out j s z (by omega) hs hz, HB.out⟩
/-- A row, up to k, without place m. -/
def wo (ts : List T3) (m k : Nat) : List T3 := (ts.take k).eraseIdx m
theorem wo_push {ts : List T3} {m k : Nat} {t : T3} (ht : ts[k]? = some t) (hne : k ≠ m) : wo ts m (k + 1) = wo ts m k ++ [t] := by
  have hk := (List.getElem?_eq_some_iff.1 ht).1
  have hl : (ts.take k).length = k := by rw [List.length_take]; omega
  unfold wo
  rw [List.take_add_one, ht]
  show (ts.take k ++ [t]).eraseIdx m = _
  by_cases h : m < k
  · rw [List.eraseIdx_append_of_lt_length (by omega)]
  · rw [List.eraseIdx_append_of_length_le (by omega), hl, List.eraseIdx_of_length_le (l := [t]) (by simp; omega), List.eraseIdx_of_length_le (l := ts.take k) (by omega)]
theorem wo_skip {ts : List T3} {m : Nat} (hm : m < ts.length) : wo ts m (m + 1) = wo ts m m := by
  have hl : (ts.take m).length = m := by rw [List.length_take]; omega
  unfold wo
  rw [List.take_add_one, List.getElem?_eq_getElem hm]
  show (ts.take m ++ [ts[m]]).eraseIdx m = _
  rw [List.eraseIdx_append_of_length_le (by omega), hl, List.eraseIdx_of_length_le (l := ts.take m) (by omega), Nat.sub_self]
  simp
theorem wo_len (ts : List T3) (m k : Nat) : (wo ts m k).length ≤ ts.length := by
  unfold wo
  have := List.length_eraseIdx_le (ts.take k) m
  rw [List.length_take] at this
  omega
set_option maxRecDepth 100000 in
set_option maxHeartbeats 2000000 in
theorem twithout_any (v : Value) (ts : List T3) (m : Nat) (w : World) (base : Nat) (hv : OwnT X w base v ts) (hm : m < ts.length) (hn : ts.length ≤ 1000) :
    Calls Tryd.prog 60 #[v, .int .i64 (m : Int)] w fun e w' => ∃ r, e = .returned r ∧ OwnT X w' w.heap.size r (ts.eraseIdx m) ∧ Below w.heap.size w w' := by
  have HV := Lib.hid hv
  obtain ⟨a0, cap0, rfl⟩ := hv.slice
  clear hv
  go_enter Tryd.func60, Tryd.ntmps60
  go_wp2_with fail
  go_loopw [5, 10] (fun vo vi wr => ∃ (k : Nat) (o : Value), vi = .int .i64 k ∧ k ≤ ts.length ∧ o = vo ∧ OwnT X wr w.heap.size o (wo ts m k) ∧ Below w.heap.size w wr) (fun _ vi _ => ts.length - (intOf vi).toNat)
  case atStart => exact ⟨0, _, rfl, by omega, rfl, by simpa [wo] using OwnT.nil w w.heap.size, Below.refl _ _⟩
  case round =>
    obtain ⟨k, o, rfl, hk, rfl, hO, hB⟩ := hrel
    have HO := Lib.hid hO
    have HB := Lib.hid hB
    have HVW := Lib.hid (HV.out.below hB)
    obtain ⟨oa, oc, rfl⟩ := hO.slice
    have hol := wo_len ts m k
    obtain ⟨OL, hOL⟩ : ∃ OL, (wo ts m k).length = OL := ⟨_, rfl⟩
    rw [hOL] at HO hol ⊢
    have HOL := Lib.hid hOL
    clear hO hB hOL
    by_cases hlk : k < ts.length
    · have hki : (k : Int) < (ts.length : Int) := by omega
      obtain ⟨t, ht⟩ : ∃ t, ts[k]? = some t := ⟨_, List.getElem?_eq_getElem hlk⟩
      obtain ⟨g, cap, u, he, hg, c0, c1, c2, ho, hox⟩ := HVW.out.at ht
      simp only [Value.slice.injEq] at he
      obtain ⟨rfl, _, rfl⟩ := he
      obtain ⟨ua, uc, rfl⟩ := ho.slice
      have HT := Lib.hid ht
      have hkn : k * 3 < 3000 := by omega
      have W0 : Hid (Below wr.heap.size wr (wr.alloc (.cells #[.int .i64 (t.1.1 : Int), .int .i64 (t.1.2 : Int), .slice ua t.2.length uc] 70))) := Lib.hid ((Below.refl _ wr).alloc (Nat.le_refl _) _)
      have W1 : Hid (Below w.heap.size w (wr.alloc (.cells #[.int .i64 (t.1.1 : Int), .int .i64 (t.1.2 : Int), .slice ua t.2.length uc] 70))) := Lib.hid (HB.out.alloc HB.out.size _)
      have HO2 : Hid (OwnT X (wr.alloc (.cells #[.int .i64 (t.1.1 : Int), .int .i64 (t.1.2 : Int), .slice ua t.2.length uc] 70)) w.heap.size (.slice oa OL oc) (wo ts m k)) := Lib.hid (HO.out.below W0.out)
      have HU2 : Hid (OwnI (wr.alloc (.cells #[.int .i64 (t.1.1 : Int), .int .i64 (t.1.2 : Int), .slice ua t.2.length uc] 70)) 0 (.slice ua t.2.length uc) t.2) := Lib.hid (ho.below W0.out)
      have hnew : (wr.alloc (.cells #[.int .i64 (t.1.1 : Int), .int .i64 (t.1.2 : Int), .slice ua t.2.length uc] 70)).heap[wr.heap.size]? = some (.cells #[.int .i64 (t.1.1 : Int), .int .i64 (t.1.2 : Int), .slice ua t.2.length uc] 70 (0, 0)) := heap_alloc_new wr _
      have n0 : (wr.alloc (.cells #[.int .i64 (t.1.1 : Int), .int .i64 (t.1.2 : Int), .slice ua t.2.length uc] 70)).cell? ⟨wr.heap.size, 0, none⟩ = some (.int .i64 (t.1.1 : Int)) := by rw [cell_of_row _ _ _ _ _ _ hnew]; rfl
      have n1 : (wr.alloc (.cells #[.int .i64 (t.1.1 : Int), .int .i64 (t.1.2 : Int), .slice ua t.2.length uc] 70)).cell? ⟨wr.heap.size, 1, none⟩ = some (.int .i64 (t.1.2 : Int)) := by rw [cell_of_row _ _ _ _ _ _ hnew]; rfl
      have n2 : (wr.alloc (.cells #[.int .i64 (t.1.1 : Int), .int .i64 (t.1.2 : Int), .slice ua t.2.length uc] 70)).cell? ⟨wr.heap.size, 2, none⟩ = some (.slice ua t.2.length uc) := by rw [cell_of_row _ _ _ _ _ _ hnew]; rfl
      have HOX := Lib.hid hox
      clear ht ho hnew hox
      by_cases hkm : k = m
      · have hne : ((k : Int) != (m : Int)) = false := by rw [bne_eq_false_iff_eq]; omega
        have HKM := Lib.hid hkm
        clear hkm
        go_wp2_with fail
        go_roundw
        case rel => exact ⟨k + 1, _, by go_num, by omega, rfl, by
          have := HKM.out
          subst this
          rw [wo_skip hm]
          exact HO2.out, W1.out⟩
        case measure => simp [intOf]; omega
      · have hne : ((k : Int) != (m : Int)) = true := by rw [bne_iff_ne]; omega
        have HKM := Lib.hid hkm
        clear hkm
        have HS1 := W1.out.size
        go_wp2_with (at_builtin; go_loud (refine push_tree (wr.alloc (.cells #[.int .i64 (t.1.1 : Int), .int .i64 (t.1.2 : Int), .slice ua t.2.length uc] 70)) rfl _ _ rfl w.heap.size (wr.heap.size + 1) (by simp) (.slice oa OL oc) (wo ts m k) t (.slice ua t.2.length uc) HO2.out HU2.out HOX.out rfl rfl (by rw [HOL.out]; omega) HS1 ?_))
        intro v' w' hown hb
        have HOWN := Lib.hid hown
        have HBB : Hid (Below w.heap.size w w') := Lib.hid (W1.out.trans hb)
        clear hown hb
        go_wp2_with fail
        go_roundw
        case rel => exact ⟨k + 1, _, by go_num, by omega, rfl, by rw [wo_push HT.out HKM.out]; exact HOWN.out, HBB.out⟩
        case measure => simp [intOf]; omega
    · have hki : ¬ (k : Int) < (ts.length : Int) := by omega
      have e : wo ts m k = ts.eraseIdx m := by unfold wo; rw [List.take_of_length_le (by omega)]
      rw [e] at HO
      clear e
      go_wp2_with fail
      go_ret
      exact ⟨_, rfl, HO.out, HB.out⟩
end Go.Proofs.YtmlcdfimcabgkaaDoor
