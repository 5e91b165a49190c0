/-
  MERGED by seg.py out of: FreqLawA FreqLawC TabN TabH TabLawA TabK TabI TabJ LenRef TreeMath LenRefB LenRefC TabO CodRefB.
-/
import Derived.Test.YtojphcoghbiepaaGreatDoorCoSegH
import Derived.Deep.Cut
import Derived.Shelf.Abstract
import Derived.StillTailTactics
namespace Go.Proofs.YtojphcoghbiepaaGreatDoor
open Go.RowKit FreqM
set_option linter.unusedVariables false
theorem CntP.ok {l : List Int} {n : Int} {zs : List Int} {err : Nat} (h : CntP l n zs err) (hk : CntOk l n) : zs = counts l n.toNat ∧ err = 0 := by
  rcases h with ⟨h1, _⟩ | ⟨_, h1, h2⟩
  · exact absurd hk h1
  · exact ⟨h1, h2⟩
theorem CostP.ok {l ls : List Int} {n : Int} {err : Nat} (h : CostP l ls n err) (hk : CostOk l ls) : n = FreqM.cap (costS l ls) ∧ err = 0 := by
  rcases h with ⟨h1, _⟩ | ⟨_, h1, h2⟩
  · exact absurd hk h1
  · exact ⟨h1, h2⟩
theorem AddP.ok {a b : List Int} {zs : List Int} {err : Nat} (h : AddP a b zs err) (hk : AddOk a b) : zs = adds a b ∧ err = 0 := by
  rcases h with ⟨h1, _⟩ | ⟨_, h1, h2⟩
  · exact absurd hk h1
  · exact ⟨h1, h2⟩
end Go.Proofs.YtojphcoghbiepaaGreatDoor
namespace Go.Proofs.YtojphcoghbiepaaGreatDoor
open Go.RowKit FreqM
set_option linter.unusedVariables false
theorem wf_i64 {n : Int} (h : (Lit.int .i64 n).wf = true) : -9223372036854775808 ≤ n ∧ n ≤ 9223372036854775807 := by
  simp [Lit.wf, IntKind.min, IntKind.max, IntKind.signed, IntKind.bits] at h
  omega
end Go.Proofs.YtojphcoghbiepaaGreatDoor
namespace Go.Proofs.YtojphcoghbiepaaGreatDoor
open Go.RowKit FreqM
set_option linter.unusedVariables false
end Go.Proofs.YtojphcoghbiepaaGreatDoor
namespace Go.Proofs.YtojphcoghbiepaaGreatDoor
open Go.RowKit TabM FreqM HufM
set_option linter.unusedVariables false
end Go.Proofs.YtojphcoghbiepaaGreatDoor
namespace Go.Proofs.YtojphcoghbiepaaGreatDoor
open Go.RowKit TabM FreqM HufM
set_option linter.unusedVariables false
end Go.Proofs.YtojphcoghbiepaaGreatDoor
namespace Go.Proofs.YtojphcoghbiepaaGreatDoor
open Go.RowKit TabM FreqM HufM
set_option linter.unusedVariables false
end Go.Proofs.YtojphcoghbiepaaGreatDoor
namespace Go.Proofs.YtojphcoghbiepaaGreatDoor
open Go.RowKit TabM FreqM HufM
set_option linter.unusedVariables false
end Go.Proofs.YtojphcoghbiepaaGreatDoor
namespace Go.Proofs.YtojphcoghbiepaaGreatDoor
open Go.RowKit TabM FreqM HufM
set_option linter.unusedVariables false
/-- A choice's two rows, small enough to be held against others. -/
def ChIs (w : World) (vL vP : Value) (gs : List (List Int)) (ps : List Int) : Prop := IsRR w vL gs ∧ IsInts w vP ps ∧ gs.length ≤ 1000000 ∧ (∀ x ∈ gs, x.length ≤ 9223372036854775807) ∧ ps.length ≤ 9223372036854775807
theorem ChIs.below {w w' : World} {vL vP : Value} {gs : List (List Int)} {ps : List Int} (h : ChIs w vL vP gs ps) (hb : Below w.heap.size w w') : ChIs w' vL vP gs ps := ⟨h.1.below hb, h.2.1.below hb, h.2.2⟩
end Go.Proofs.YtojphcoghbiepaaGreatDoor
namespace Go.Proofs.YtojphcoghbiepaaGreatDoor
open Go.RowKit HufM
set_option linter.unusedVariables false
/-- A tree: weight, number; its leaves. -/
abbrev T3 := Tr × List Int
def tcells (t : T3) (u : Value) : List Value := [.int .i64 (t.1.1 : Int), .int .i64 (t.1.2 : Int), u]
def tflat : List T3 → List Value → List Value
  | t :: ts, u :: us => tcells t u ++ tflat ts us
  | _, _ => []
theorem tflat_at : ∀ (ts : List T3) (us : List Value) (k : Nat) (t : T3) (u : Value), us.length = ts.length → ts[k]? = some t → us[k]? = some u →
    (tflat ts us)[k * 3]? = some (.int .i64 (t.1.1 : Int)) ∧ (tflat ts us)[k * 3 + 1]? = some (.int .i64 (t.1.2 : Int)) ∧ (tflat ts us)[k * 3 + 2]? = some u
  | [], _, k, t, u, _, h, _ => by simp at h
  | x :: ts, [], k, t, u, hl, _, _ => by simp at hl
  | x :: ts, y :: us, 0, t, u, _, h, h2 => by
    have e1 : x = t := by simpa using h
    have e2 : y = u := by simpa using h2
    subst e1 e2
    exact ⟨rfl, rfl, rfl⟩
  | x :: ts, y :: us, k + 1, t, u, hl, h, h2 => by
    have ih := tflat_at ts us k t u (by simpa using hl) (by simpa using h) (by simpa using h2)
    simp only [tflat]
    have e : (tcells x y).length = 3 := rfl
    rw [List.getElem?_append_right (by rw [e]; omega), List.getElem?_append_right (by rw [e]; omega), List.getElem?_append_right (by rw [e]; omega), e]
    rw [show (k + 1) * 3 - 3 = k * 3 from by omega, show (k + 1) * 3 + 1 - 3 = k * 3 + 1 from by omega, show (k + 1) * 3 + 2 - 3 = k * 3 + 2 from by omega]
    exact ih
variable {X : Nat}
/-- v is a row of trees, the call's own from base on; each tree's leaves are a row of their own, none of them in block X. -/
def OwnT (X : Nat) (W : World) (base : Nat) (v : Value) (ts : List T3) : Prop :=
  ∃ us : List Value, us.length = ts.length ∧ W.ownsRow base 292 3 v ts.length (tflat ts us) ∧ ∀ (i : Nat) (t : T3) (u : Value), ts[i]? = some t → us[i]? = some u → OwnI W 0 u t.2 ∧ u.ownBlock ≠ some X
theorem OwnT.nil (W : World) (base : Nat) : OwnT X W base (.slice none 0 0) [] := ⟨[], rfl, World.ownsRow_nil _ _ _ _, fun i t u h => by simp at h⟩
theorem OwnT.slice {W : World} {base : Nat} {v : Value} {ts : List T3} (h : OwnT X W base v ts) : ∃ a cap, v = .slice a ts.length cap := by
  obtain ⟨us, h1, h2, h3⟩ := h
  exact slice_of_own h2
theorem OwnT.below {W W' : World} {base : Nat} {v : Value} {ts : List T3} (h : OwnT X W base v ts) (hb : Below W.heap.size W W') : OwnT X W' base v ts := by
  obtain ⟨us, h1, h2, h3⟩ := h
  exact ⟨us, h1, ownsRow_other h2 (fun k hk => hb.block k (World.ownsRow.lt h2 k hk).2), fun i t u ht hu => ⟨(h3 i t u ht hu).1.below hb, (h3 i t u ht hu).2⟩⟩
/-- A tree of a row, as a walk reads it. -/
theorem OwnT.at {W : World} {base : Nat} {v : Value} {ts : List T3} (h : OwnT X W base v ts) {k : Nat} {t : T3} (ht : ts[k]? = some t) :
    ∃ g cap u, v = .slice (some ⟨g, 0, none⟩) ts.length cap ∧ g < W.heap.size ∧ W.cell? ⟨g, k * 3, none⟩ = some (.int .i64 (t.1.1 : Int)) ∧ W.cell? ⟨g, k * 3 + 1, none⟩ = some (.int .i64 (t.1.2 : Int)) ∧ W.cell? ⟨g, k * 3 + 2, none⟩ = some u ∧ OwnI W 0 u t.2 ∧ u.ownBlock ≠ some X := by
  obtain ⟨us, h1, h2, h3⟩ := h
  have hk := (List.getElem?_eq_some_iff.1 ht).1
  have hc := h2
  rcases h2.2 with ⟨rfl, h0⟩ | ⟨g, cap, cur, rfl, hB, hg, hr⟩
  · omega
  · have hu : us[k]? = some (us[k]'(by omega)) := List.getElem?_eq_getElem (by omega)
    obtain ⟨f1, f2, f3⟩ := tflat_at ts us k t _ h1 ht hu
    refine ⟨g, cap, _, rfl, (Array.getElem?_eq_some_iff.1 hg).1, ?_, ?_, ?_, h3 k t _ ht hu⟩
    · have := hc.cells (g := g) rfl _ _ f1
      rwa [Addr.add_lit, Nat.zero_add] at this
    · have := hc.cells (g := g) rfl _ _ f2
      rwa [Addr.add_lit, Nat.zero_add] at this
    · have := hc.cells (g := g) rfl _ _ f3
      rwa [Addr.add_lit, Nat.zero_add] at this
/-- A store into block X, which holds numbers. -/
theorem OwnT.set {W W' : World} {base : Nat} {v : Value} {ts : List T3} (h : OwnT X W base v ts) {zs : List Int} (hX : RowI W X zs) (ht : Touch (· = X) W W') : OwnT X W' base v ts := by
  obtain ⟨us, h1, h2, h3⟩ := h
  have hlt : ∀ k, v.ownBlock = some k → k ≠ X := fun k hk e => by
    rcases h2.2 with ⟨rfl, _⟩ | ⟨g, cap, cur, rfl, _, hgc, _⟩
    · simp [Value.ownBlock] at hk
    · simp [Value.ownBlock] at hk
      subst hk e
      unfold RowI at hX
      rw [hgc] at hX
      simp at hX
  refine ⟨us, h1, ownsRow_other h2 (fun k hk => ht.block k (World.ownsRow.lt h2 k hk).2 (hlt k hk)), fun i t u hti hu => ⟨?_, (h3 i t u hti hu).2⟩⟩
  have ho := (h3 i t u hti hu).1
  exact ho.same (fun k hk => ht.block k (World.ownsRow.lt ho k hk).2 (fun e => by
    have e' : k = X := e
    subst e'
    exact (h3 i t u hti hu).2 hk))
/-- None of the first k trees is less than that of place m. -/
def NoneLess (ts : List T3) (m k : Nat) : Prop := ∀ (j : Nat) (t y : T3), j < k → ts[j]? = some t → ts[m]? = some y → ¬ lt t.1 y.1
end Go.Proofs.YtojphcoghbiepaaGreatDoor
namespace Go.Proofs.YtojphcoghbiepaaGreatDoor
namespace HufM
open Go.RowKit
set_option linter.unusedVariables false
/-- Each of some places counts one more. -/
def inc (o : List Int) (ls : List Int) : List Int := ls.foldl (fun o x => o.set x.toNat (o.getD x.toNat 0 + 1)) o
theorem inc_len (ls : List Int) : ∀ o : List Int, (inc o ls).length = o.length := by
  induction ls with
  | nil => intro o; rfl
  | cons x t ih => intro o; exact (ih _).trans (by simp)
theorem getD_set (o : List Int) (i j : Nat) (v : Int) (hi : i < o.length) : (o.set i v).getD j 0 = if j = i then v else o.getD j 0 := by
  rw [List.getD_eq_getElem?_getD, List.getD_eq_getElem?_getD, List.getElem?_set]
  by_cases e : i = j
  · subst e; simp [hi]
  · have : ¬ j = i := fun h => e h.symm
    simp [e, this]
theorem inc_at (ls : List Int) : ∀ (o : List Int) (j : Nat), ls.Nodup → (∀ x ∈ ls, 0 ≤ x ∧ x < (o.length : Int)) → (inc o ls).getD j 0 = o.getD j 0 + if (j : Int) ∈ ls then 1 else 0 := by
  induction ls with
  | nil => intro o j _ _; simp [inc]
  | cons x t ih =>
    intro o j hn hr
    obtain ⟨h1, h2⟩ := List.nodup_cons.1 hn
    have hx := hr x (List.mem_cons_self ..)
    have := ih (o.set x.toNat (o.getD x.toNat 0 + 1)) j h2 (fun y hy => by rw [List.length_set]; exact hr y (List.mem_cons_of_mem _ hy))
    show (inc (o.set x.toNat (o.getD x.toNat 0 + 1)) t).getD j 0 = _
    rw [this, getD_set _ _ _ _ (by omega)]
    by_cases e : j = x.toNat
    · have ej : (j : Int) = x := by omega
      rw [if_pos e, ej, if_neg h1, if_pos (List.mem_cons_self ..), e]
      omega
    · have ej : ¬ (j : Int) = x := by omega
      rw [if_neg e]
      by_cases hm : (j : Int) ∈ t
      · rw [if_pos hm, if_pos (List.mem_cons_of_mem _ hm)]
      · rw [if_neg hm, if_neg (fun h => by rcases List.mem_cons.1 h with h | h; exact ej h; exact hm h)]
theorem erase_perm {α : Type} : ∀ (l : List α) (i : Nat) (h : i < l.length), (l[i] :: l.eraseIdx i).Perm l
  | x :: t, 0, h => List.Perm.refl _
  | x :: t, i + 1, h => by
    have hi : i < t.length := by simpa using h
    have ih := erase_perm t i hi
    show (t[i] :: x :: t.eraseIdx i).Perm (x :: t)
    exact (List.Perm.swap _ _ _).trans (ih.cons x)
def trs (ts : List T3) : List Tr := ts.map (·.1)
def lvs (ts : List T3) : List Int := ts.flatMap (·.2)
/-- How far the document's answer has come. -/
structure DS (w : List Int) (d : Nat → Nat) (ts : List T3) (o : List Int) (K : Nat) : Prop where
  run0 : Run w.length (ini w) d
  run : Run K (trs ts) d
  dis : Dis (trs ts)
  low : ∀ t ∈ ts, t.1.2 < K
  lv : (lvs ts).Perm ((List.range w.length).map (fun i : Nat => (i : Int)))
  ol : o.length = w.length
  od : ∀ t ∈ ts, ∀ x ∈ t.2, o.getD x.toNat 0 + (d t.1.2 : Int) = (d x.toNat : Int)
  tot : sumN wt (trs ts) = sumN wt (ini w)
  cnt : ts.length + K = 2 * w.length
theorem range_nodup (n : Nat) : ((List.range n).map (fun i : Nat => (i : Int))).Nodup := by
  unfold List.Nodup
  rw [List.pairwise_map]
  exact List.pairwise_lt_range.imp (fun h => by omega)
theorem DS.mem {w : List Int} {d : Nat → Nat} {ts : List T3} {o : List Int} {K : Nat} (h : DS w d ts o K) {x : Int} : x ∈ lvs ts ↔ 0 ≤ x ∧ x < (w.length : Int) := by
  rw [h.lv.mem_iff, List.mem_map]
  constructor
  · rintro ⟨i, hi, rfl⟩
    have := List.mem_range.1 hi
    omega
  · rintro ⟨h1, h2⟩
    exact ⟨x.toNat, List.mem_range.2 (by omega), by omega⟩
/-- The two least are joined. -/
theorem DS.step {w : List Int} {d : Nat → Nat} {ts : List T3} {o : List Int} {K : Nat} (h : DS w d ts o K) {a b : Nat} {x y : T3} (ha : a < ts.length) (hx : ts[a]? = some x) (hna : NoneLess ts a ts.length)
    (hb : b < (ts.eraseIdx a).length) (hy : (ts.eraseIdx a)[b]? = some y) (hnb : NoneLess (ts.eraseIdx a) b (ts.eraseIdx a).length) :
    DS w d ((ts.eraseIdx a).eraseIdx b ++ [((x.1.1 + y.1.1, K), x.2 ++ y.2)]) (inc o (x.2 ++ y.2)) (K + 1) ∧ x.1.1 + y.1.1 ≤ sumN wt (ini w) ∧ (∀ z ∈ x.2 ++ y.2, 0 ≤ z ∧ z < (w.length : Int)) ∧ (x.2 ++ y.2).length ≤ w.length := by
  obtain ⟨run0, run, dis, low, lv, ol, od, tot, cnt⟩ := h
  have hx' : ts[a] = x := by rw [List.getElem?_eq_getElem ha] at hx; exact Option.some.inj hx
  have hy' : (ts.eraseIdx a)[b] = y := by rw [List.getElem?_eq_getElem hb] at hy; exact Option.some.inj hy
  have p1 : (x :: ts.eraseIdx a).Perm ts := by rw [← hx']; exact erase_perm ts a ha
  have p2 : (y :: (ts.eraseIdx a).eraseIdx b).Perm (ts.eraseIdx a) := by rw [← hy']; exact erase_perm _ b hb
  have p : ts.Perm (x :: y :: (ts.eraseIdx a).eraseIdx b) := (p1.symm).trans (p2.symm.cons x)
  have l1 : ∀ t ∈ ts.eraseIdx a, lt x.1 t.1 := fun t ht => by
    have hd := (List.pairwise_cons.1 (dis.perm (show (trs ts).Perm (trs (x :: ts.eraseIdx a)) from (p1.symm).map _))).1 t.1 (List.mem_map.2 ⟨t, ht, rfl⟩)
    obtain ⟨j, hj, hjt⟩ := List.mem_iff_getElem.1 (p1.mem_iff.1 (List.mem_cons_of_mem _ ht))
    have := hna j t x hj (by rw [List.getElem?_eq_getElem hj, hjt]) hx
    rcases lt_or x.1 t.1 hd with h | h
    · exact h
    · exact absurd h this
  have dis1 : Dis (trs (ts.eraseIdx a)) := (List.pairwise_cons.1 (dis.perm (show (trs ts).Perm (trs (x :: ts.eraseIdx a)) from (p1.symm).map _))).2
  have l2 : ∀ t ∈ (ts.eraseIdx a).eraseIdx b, lt y.1 t.1 := fun t ht => by
    have hd := (List.pairwise_cons.1 (dis1.perm (show (trs (ts.eraseIdx a)).Perm (trs (y :: (ts.eraseIdx a).eraseIdx b)) from (p2.symm).map _))).1 t.1 (List.mem_map.2 ⟨t, ht, rfl⟩)
    obtain ⟨j, hj, hjt⟩ := List.mem_iff_getElem.1 (p2.mem_iff.1 (List.mem_cons_of_mem _ ht))
    have := hnb j t y hj (by rw [List.getElem?_eq_getElem hj, hjt]) hy
    rcases lt_or y.1 t.1 hd with h | h
    · exact h
    · exact absurd h this
  have hym : y ∈ ts.eraseIdx a := p2.mem_iff.1 (List.mem_cons_self ..)
  have hxm : x ∈ ts := p1.mem_iff.1 (List.mem_cons_self ..)
  have hyt : y ∈ ts := p1.mem_iff.1 (List.mem_cons_of_mem _ hym)
  have hrest : ∀ t ∈ (ts.eraseIdx a).eraseIdx b, t ∈ ts := fun t ht => p.mem_iff.2 (List.mem_cons_of_mem _ (List.mem_cons_of_mem _ ht))
  obtain ⟨run', dx, dy⟩ := run.next (show (trs ts).Perm (x.1 :: y.1 :: trs ((ts.eraseIdx a).eraseIdx b)) from p.map _) (l1 y hym) (fun t ht => by
    obtain ⟨t', ht', rfl⟩ := List.mem_map.1 ht
    exact l2 t' ht')
  have plv : (lvs ts).Perm (x.2 ++ (y.2 ++ lvs ((ts.eraseIdx a).eraseIdx b))) := p.flatMap_right _
  have hnd : (x.2 ++ (y.2 ++ lvs ((ts.eraseIdx a).eraseIdx b))).Nodup := plv.nodup_iff.1 (lv.nodup_iff.2 (range_nodup _))
  rw [← List.append_assoc] at hnd plv
  obtain ⟨n1, n2, n3⟩ := List.nodup_append.1 hnd
  have hall : ∀ z ∈ lvs ts, 0 ≤ z ∧ z < (w.length : Int) := fun z hz => by
    obtain ⟨i, hi, rfl⟩ := List.mem_map.1 (lv.mem_iff.1 hz)
    have := List.mem_range.1 hi
    omega
  have hz : ∀ z ∈ x.2 ++ y.2, 0 ≤ z ∧ z < (w.length : Int) := fun z hz => hall z (plv.mem_iff.2 (List.mem_append_left _ hz))
  have hinc : ∀ j, (inc o (x.2 ++ y.2)).getD j 0 = o.getD j 0 + if (j : Int) ∈ x.2 ++ y.2 then 1 else 0 := fun j => inc_at _ o j n1 (fun z h => by rw [ol]; exact hz z h)
  have hsum : sumN wt (trs ts) = x.1.1 + (y.1.1 + sumN wt (trs ((ts.eraseIdx a).eraseIdx b))) := by
    rw [sumN_perm wt (show (trs ts).Perm (x.1 :: y.1 :: trs ((ts.eraseIdx a).eraseIdx b)) from p.map _)]; rfl
  have hlen := p.length_eq
  simp only [List.length_cons] at hlen
  refine ⟨⟨run0, ?_, ?_, fun t ht => ?_, ?_, by rw [inc_len, ol], fun t ht z hzt => ?_, ?_, by simp; omega⟩, by omega, hz, ?_⟩
  · refine run'.perm ?_
    unfold trs
    rw [List.map_append]
    exact (List.perm_append_singleton _ _).symm
  · unfold trs
    rw [List.map_append]
    have hd2 := (List.pairwise_cons.1 (List.pairwise_cons.1 (dis.perm (show (trs ts).Perm (x.1 :: y.1 :: trs ((ts.eraseIdx a).eraseIdx b)) from p.map _))).2).2
    refine List.pairwise_append.2 ⟨hd2, List.pairwise_singleton _ _, fun t ht u hu => ?_⟩
    simp only [List.map_cons, List.map_nil, List.mem_singleton] at hu
    subst hu
    obtain ⟨t', ht', rfl⟩ := List.mem_map.1 ht
    have := low t' (hrest t' ht')
    simp only
    omega
  · rcases List.mem_append.1 ht with ht | ht
    · have := low t (hrest t ht); omega
    · rw [List.mem_singleton] at ht; subst ht; simp only; omega
  · have e : lvs ((ts.eraseIdx a).eraseIdx b ++ [((x.1.1 + y.1.1, K), x.2 ++ y.2)]) = lvs ((ts.eraseIdx a).eraseIdx b) ++ (x.2 ++ y.2) := by unfold lvs; simp
    rw [e]
    exact (List.perm_append_comm.trans plv.symm).trans lv
  · have ezn : ∀ z : Int, z ∈ lvs ts → ((z.toNat : Nat) : Int) = z := fun z hz => by have := hall z hz; omega
    rw [hinc]
    rcases List.mem_append.1 ht with ht | ht
    · have hzl : z ∈ lvs ((ts.eraseIdx a).eraseIdx b) := List.mem_flatMap.2 ⟨t, ht, hzt⟩
      have hzall : z ∈ lvs ts := plv.mem_iff.2 (List.mem_append_right _ hzl)
      have hno : z ∉ x.2 ++ y.2 := fun h => n3 z h z hzl rfl
      rw [ezn z hzall, if_neg hno, Int.add_zero]
      exact od t (hrest t ht) z hzt
    · rw [List.mem_singleton] at ht
      subst ht
      simp only at hzt ⊢
      have hzall : z ∈ lvs ts := plv.mem_iff.2 (List.mem_append_left _ hzt)
      rw [ezn z hzall, if_pos hzt]
      rcases List.mem_append.1 hzt with h | h
      · have := od x hxm z h
        rw [dx] at this
        omega
      · have := od y hyt z h
        rw [dy] at this
        omega
  · unfold trs
    rw [List.map_append, sumN_append, ← tot, hsum]
    simp only [List.map_cons, List.map_nil, sumN, wt]
    unfold trs
    omega
  · have := (plv.symm.trans lv).length_eq
    rw [List.length_append] at this
    simp only [List.length_map, List.length_range] at this
    omega
theorem DS.end_ {w : List Int} {d : Nat → Nat} {ts : List T3} {o : List Int} {K : Nat} (h : DS w d ts o K) (h1 : ts.length = 1) : DepP w o := by
  obtain ⟨t, rfl⟩ := List.length_eq_one_iff.1 h1
  have h0 := h.run.end_
  refine ⟨d, h.run0, ?_⟩
  apply List.ext_getElem
  · simp [h.ol]
  · intro i h2 h3
    have hi : i < w.length := by rw [← h.ol]; exact h2
    have hm : (i : Int) ∈ lvs [t] := h.mem.2 ⟨by omega, by omega⟩
    obtain ⟨t', ht', hx⟩ := List.mem_flatMap.1 hm
    rw [List.mem_singleton] at ht'
    subst ht'
    have := h.od t' (List.mem_singleton.2 rfl) _ hx
    rw [h0, Int.toNat_natCast, List.getD_eq_getElem?_getD, List.getElem?_eq_getElem h2] at this
    simp only [Option.getD_some] at this
    rw [List.getElem_map, List.getElem_range]
    omega
/-- Each symbol by itself. -/
def sgl (w : List Int) (k : Nat) : List T3 := (List.range k).map fun i => (((w.getD i 0).toNat, i), [(i : Int)])
theorem sgl_succ (w : List Int) (k : Nat) : sgl w (k + 1) = sgl w k ++ [(((w.getD k 0).toNat, k), [(k : Int)])] := by
  unfold sgl; rw [List.range_succ, List.map_append]; rfl
theorem sgl_len (w : List Int) (k : Nat) : (sgl w k).length = k := by simp [sgl]
theorem DS.start {w : List Int} (h1 : 1 ≤ w.length) : ∃ d, DS w d (sgl w w.length) (List.replicate w.length 0) w.length := by
  obtain ⟨d, hd⟩ := Run.exists (w.length - 1) w.length (ini w) (by rw [ini_len]; omega) (ini_dis w) (fun t ht => (ini_mem ht).1)
  have e : trs (sgl w w.length) = ini w := by unfold trs sgl ini; rw [List.map_map]; rfl
  refine ⟨d, ⟨hd, by rw [e]; exact hd, by rw [e]; exact ini_dis w, fun t ht => ?_, ?_, by simp, fun t ht x hx => ?_, by rw [e], by rw [sgl_len]; omega⟩⟩
  · obtain ⟨i, hi, rfl⟩ := List.mem_map.1 ht
    exact List.mem_range.1 hi
  · have e2 : ∀ k, lvs (sgl w k) = (List.range k).map (fun i : Nat => (i : Int)) := by
      intro k
      induction k with
      | zero => rfl
      | succ k ih =>
        rw [sgl_succ, List.range_succ, List.map_append, ← ih]
        unfold lvs
        simp
    rw [e2]
  · obtain ⟨i, hi, rfl⟩ := List.mem_map.1 ht
    simp only [List.mem_singleton] at hx
    subst hx
    have hi' := List.mem_range.1 hi
    rw [Int.toNat_natCast, List.getD_eq_getElem?_getD, List.getElem?_replicate, if_pos hi']
    simp
end HufM
end Go.Proofs.YtojphcoghbiepaaGreatDoor
namespace Go.Proofs.YtojphcoghbiepaaGreatDoor
open Go.RowKit HufM
set_option linter.unusedVariables false
end Go.Proofs.YtojphcoghbiepaaGreatDoor
namespace Go.Proofs.YtojphcoghbiepaaGreatDoor
open Go.RowKit HufM
set_option linter.unusedVariables false
end Go.Proofs.YtojphcoghbiepaaGreatDoor
namespace Go.Proofs.YtojphcoghbiepaaGreatDoor
open Go.RowKit TabM FreqM HufM
set_option linter.unusedVariables false
end Go.Proofs.YtojphcoghbiepaaGreatDoor
namespace Go.Proofs.YtojphcoghbiepaaGreatDoor
open Go.RowKit BitM HufM CanM CodM TabM FreqM
set_option linter.unusedVariables false
/-! ### A row of rows of texts -/
def rowV (N b : Nat) : Value := .slice (some ⟨b, 0, none⟩) N N
def SCodes (w : World) (base N : Nat) (v : Value) (gs : List (List Int)) : Prop :=
  ∃ bs : List Nat, w.ownsRow base 93 1 v bs.length (bs.map (rowV N)) ∧ bs.length = gs.length ∧ base ≤ w.heap.size ∧ ∀ i, i < gs.length → RowS w (bs.getD i 0) N (fun j => txt (code (gs.getD i []) j)) ∧ base ≤ bs.getD i 0 ∧ v.ownBlock ≠ some (bs.getD i 0)
theorem SCodes.nil (w : World) (base N : Nat) (h : base ≤ w.heap.size) : SCodes w base N (.slice none 0 0) [] := ⟨[], World.ownsRow_nil _ _ _ _, rfl, h, fun i hi => absurd hi (Nat.not_lt_zero _)⟩
theorem SCodes.below {w w' : World} {base N : Nat} {v : Value} {gs : List (List Int)} (h : SCodes w base N v gs) (hb : Below w.heap.size w w') : SCodes w' base N v gs := by
  obtain ⟨bs, h1, h2, h3, h4⟩ := h
  exact ⟨bs, ownsRow_other h1 (fun k hk => hb.block k (World.ownsRow.lt h1 k hk).2), h2, Nat.le_trans h3 hb.size, fun i hi => ⟨(h4 i hi).1.below hb, (h4 i hi).2⟩⟩
theorem SCodes.slice {w : World} {base N : Nat} {v : Value} {gs : List (List Int)} (h : SCodes w base N v gs) : ∃ a cap, v = .slice a gs.length cap := by
  obtain ⟨bs, h1, h2, _⟩ := h
  obtain ⟨a, c, e⟩ := slice_of_own h1
  exact ⟨a, c, by rw [e, h2]⟩
theorem SCodes.at_ {w : World} {base N : Nat} {v : Value} {gs : List (List Int)} (h : SCodes w base N v gs) {i : Nat} (hi : i < gs.length) : ∃ g cap b, v = .slice (some ⟨g, 0, none⟩) gs.length cap ∧ w.cell? ⟨g, i, none⟩ = some (.slice (some ⟨b, 0, none⟩) N N) ∧ RowS w b N (fun j => txt (code (gs.getD i []) j)) := by
  obtain ⟨bs, h1, h2, h3, h4⟩ := h
  have hib : i < bs.length := by omega
  rcases h1.2 with ⟨rfl, h0⟩ | ⟨g, cap, cur, rfl, _, hg, _⟩
  · omega
  · have h5 := World.ownsRow.cells h1 (g := g) rfl i (rowV N (bs.getD i 0)) (by rw [List.getElem?_map, List.getElem?_eq_getElem hib, List.getD_eq_getElem?_getD, List.getElem?_eq_getElem hib]; rfl)
    rw [Addr.add_lit, Nat.zero_add] at h5
    exact ⟨g, cap, bs.getD i 0, by rw [h2], h5, (h4 i hi).1⟩
theorem info_ss : (Tryz.prog.info? 93).map (fun i => (i.zero, i.size, i.bytes)) = some (some (.slice none 0 0), 1, 24) := by kernel_rfl
theorem SCodes.old {w : World} {base N : Nat} {v : Value} {gs : List (List Int)} (h : SCodes w base N v gs) : ∀ k, v.ownBlock = some k → k < w.heap.size := fun k hk => by
  obtain ⟨bs, h1, _⟩ := h
  exact (World.ownsRow.lt h1 k hk).2
/-! ### Bits -/
end Go.Proofs.YtojphcoghbiepaaGreatDoor
