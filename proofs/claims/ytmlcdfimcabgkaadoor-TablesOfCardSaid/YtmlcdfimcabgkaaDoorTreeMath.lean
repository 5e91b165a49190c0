/-
  PLAIN MATHEMATICS OF LAYER 9 (lens): trees with their leaves, joined as the document tells it. No program is named here.
-/
import Derived.Test.YtmlcdfimcabgkaaDoorLenMath
import Derived.Test.YtmlcdfimcabgkaaDoorLenRef
namespace Go.Proofs.YtmlcdfimcabgkaaDoor
namespace HufM
open Go.RowKit
set_option linter.unusedVariables false
/-- Each of some places counts one more. -/
def inc (o : List Int) (ls : List Int) : List Int := ls.foldl (fun o x => o.set x.toNat (o.getD x.toNat 0 + 1)) o
theorem inc_len (ls : List Int) : ∀ o : List Int, (inc o ls).length = o.length := by
  induction ls with
  | nil => intro o; rfl
  | cons x t ih => intro o; exact (ih _).trans (by simp)
theorem getD_set (o : List Int) (i j : Nat) (v : Int) (hi : i < o.length) : (o.set i v).getD j 0 = if j = i then v else o.getD j 0 := by
  rw [List.getD_eq_getElem?_getD, List.getD_eq_getElem?_getD, List.getElem?_set]
  by_cases e : i = j
  · subst e; simp [hi]
  · have : ¬ j = i := fun h => e h.symm
    simp [e, this]
theorem inc_take (o ls : List Int) {k : Nat} (h : k < ls.length) : inc o (ls.take (k + 1)) = (inc o (ls.take k)).set (ls.getD k 0).toNat ((inc o (ls.take k)).getD (ls.getD k 0).toNat 0 + 1) := by
  unfold inc
  rw [List.take_add_one, List.foldl_append, List.getD_eq_getElem?_getD, List.getElem?_eq_getElem h]
  rfl
theorem inc_at (ls : List Int) : ∀ (o : List Int) (j : Nat), ls.Nodup → (∀ x ∈ ls, 0 ≤ x ∧ x < (o.length : Int)) → (inc o ls).getD j 0 = o.getD j 0 + if (j : Int) ∈ ls then 1 else 0 := by
  induction ls with
  | nil => intro o j _ _; simp [inc]
  | cons x t ih =>
    intro o j hn hr
    obtain ⟨h1, h2⟩ := List.nodup_cons.1 hn
    have hx := hr x (List.mem_cons_self ..)
    have := ih (o.set x.toNat (o.getD x.toNat 0 + 1)) j h2 (fun y hy => by rw [List.length_set]; exact hr y (List.mem_cons_of_mem _ hy))
    show (inc (o.set x.toNat (o.getD x.toNat 0 + 1)) t).getD j 0 = _
    rw [this, getD_set _ _ _ _ (by omega)]
    by_cases e : j = x.toNat
    · have ej : (j : Int) = x := by omega
      rw [if_pos e, ej, if_neg h1, if_pos (List.mem_cons_self ..), e]
      omega
    · have ej : ¬ (j : Int) = x := by omega
      rw [if_neg e]
      by_cases hm : (j : Int) ∈ t
      · rw [if_pos hm, if_pos (List.mem_cons_of_mem _ hm)]
      · rw [if_neg hm, if_neg (fun h => by rcases List.mem_cons.1 h with h | h; exact ej h; exact hm h)]
theorem inc_near (ls : List Int) : ∀ (o : List Int) (j : Nat), o.getD j 0 ≤ (inc o ls).getD j 0 ∧ (inc o ls).getD j 0 ≤ o.getD j 0 + (ls.length : Int) := by
  induction ls with
  | nil => intro o j; simp [inc]
  | cons x t ih =>
    intro o j
    have := ih (o.set x.toNat (o.getD x.toNat 0 + 1)) j
    have h2 : o.getD j 0 ≤ (o.set x.toNat (o.getD x.toNat 0 + 1)).getD j 0 ∧ (o.set x.toNat (o.getD x.toNat 0 + 1)).getD j 0 ≤ o.getD j 0 + 1 := by
      by_cases hi : x.toNat < o.length
      · rw [getD_set _ _ _ _ hi]
        split
        · rename_i e; subst e; omega
        · omega
      · rw [List.set_eq_of_length_le (by omega)]; omega
    show o.getD j 0 ≤ (inc (o.set x.toNat (o.getD x.toNat 0 + 1)) t).getD j 0 ∧ (inc (o.set x.toNat (o.getD x.toNat 0 + 1)) t).getD j 0 ≤ _
    simp only [List.length_cons]
    omega
theorem erase_perm {α : Type} : ∀ (l : List α) (i : Nat) (h : i < l.length), (l[i] :: l.eraseIdx i).Perm l
  | x :: t, 0, h => List.Perm.refl _
  | x :: t, i + 1, h => by
    have hi : i < t.length := by simpa using h
    have ih := erase_perm t i hi
    show (t[i] :: x :: t.eraseIdx i).Perm (x :: t)
    exact (List.Perm.swap _ _ _).trans (ih.cons x)
def trs (ts : List T3) : List Tr := ts.map (·.1)
def lvs (ts : List T3) : List Int := ts.flatMap (·.2)
/-- How far the document's answer has come. -/
structure DS (w : List Int) (d : Nat → Nat) (ts : List T3) (o : List Int) (K : Nat) : Prop where
  run0 : Run w.length (ini w) d
  run : Run K (trs ts) d
  dis : Dis (trs ts)
  low : ∀ t ∈ ts, t.1.2 < K
  lv : (lvs ts).Perm ((List.range w.length).map (fun i : Nat => (i : Int)))
  ol : o.length = w.length
  od : ∀ t ∈ ts, ∀ x ∈ t.2, o.getD x.toNat 0 + (d t.1.2 : Int) = (d x.toNat : Int)
  tot : sumN wt (trs ts) = sumN wt (ini w)
  cnt : ts.length + K = 2 * w.length
theorem range_nodup (n : Nat) : ((List.range n).map (fun i : Nat => (i : Int))).Nodup := by
  unfold List.Nodup
  rw [List.pairwise_map]
  exact List.pairwise_lt_range.imp (fun h => by omega)
theorem DS.mem {w : List Int} {d : Nat → Nat} {ts : List T3} {o : List Int} {K : Nat} (h : DS w d ts o K) {x : Int} : x ∈ lvs ts ↔ 0 ≤ x ∧ x < (w.length : Int) := by
  rw [h.lv.mem_iff, List.mem_map]
  constructor
  · rintro ⟨i, hi, rfl⟩
    have := List.mem_range.1 hi
    omega
  · rintro ⟨h1, h2⟩
    exact ⟨x.toNat, List.mem_range.2 (by omega), by omega⟩
theorem DS.near {w : List Int} {d : Nat → Nat} {ts : List T3} {o : List Int} {K : Nat} (h : DS w d ts o K) {i : Nat} (hi : i < w.length) : -((ts.length : Nat) : Int) ≤ o.getD i 0 ∧ o.getD i 0 ≤ (w.length : Int) := by
  have hm : (i : Int) ∈ lvs ts := h.mem.2 ⟨by omega, by omega⟩
  obtain ⟨t, ht, hx⟩ := List.mem_flatMap.1 hm
  have h1 := h.od t ht _ hx
  rw [Int.toNat_natCast] at h1
  have h2 := h.run0.short _ (ini_of hi)
  have h3 := h.run.short t.1 (List.mem_map.2 ⟨t, ht, rfl⟩)
  rw [ini_len] at h2
  simp only [trs, List.length_map] at h3
  simp only at h2
  omega
/-- The two least are joined. -/
theorem DS.step {w : List Int} {d : Nat → Nat} {ts : List T3} {o : List Int} {K : Nat} (h : DS w d ts o K) {a b : Nat} {x y : T3} (ha : a < ts.length) (hx : ts[a]? = some x) (hna : NoneLess ts a ts.length)
    (hb : b < (ts.eraseIdx a).length) (hy : (ts.eraseIdx a)[b]? = some y) (hnb : NoneLess (ts.eraseIdx a) b (ts.eraseIdx a).length) :
    DS w d ((ts.eraseIdx a).eraseIdx b ++ [((x.1.1 + y.1.1, K), x.2 ++ y.2)]) (inc o (x.2 ++ y.2)) (K + 1) ∧ x.1.1 + y.1.1 ≤ sumN wt (ini w) ∧ (∀ z ∈ x.2 ++ y.2, 0 ≤ z ∧ z < (w.length : Int)) ∧ (x.2 ++ y.2).length ≤ w.length := by
  obtain ⟨run0, run, dis, low, lv, ol, od, tot, cnt⟩ := h
  have hx' : ts[a] = x := by rw [List.getElem?_eq_getElem ha] at hx; exact Option.some.inj hx
  have hy' : (ts.eraseIdx a)[b] = y := by rw [List.getElem?_eq_getElem hb] at hy; exact Option.some.inj hy
  have p1 : (x :: ts.eraseIdx a).Perm ts := by rw [← hx']; exact erase_perm ts a ha
  have p2 : (y :: (ts.eraseIdx a).eraseIdx b).Perm (ts.eraseIdx a) := by rw [← hy']; exact erase_perm _ b hb
  have p : ts.Perm (x :: y :: (ts.eraseIdx a).eraseIdx b) := (p1.symm).trans (p2.symm.cons x)
  have l1 : ∀ t ∈ ts.eraseIdx a, lt x.1 t.1 := fun t ht => by
    have hd := (List.pairwise_cons.1 (dis.perm (show (trs ts).Perm (trs (x :: ts.eraseIdx a)) from (p1.symm).map _))).1 t.1 (List.mem_map.2 ⟨t, ht, rfl⟩)
    obtain ⟨j, hj, hjt⟩ := List.mem_iff_getElem.1 (p1.mem_iff.1 (List.mem_cons_of_mem _ ht))
    have := hna j t x hj (by rw [List.getElem?_eq_getElem hj, hjt]) hx
    rcases lt_or x.1 t.1 hd with h | h
    · exact h
    · exact absurd h this
  have dis1 : Dis (trs (ts.eraseIdx a)) := (List.pairwise_cons.1 (dis.perm (show (trs ts).Perm (trs (x :: ts.eraseIdx a)) from (p1.symm).map _))).2
  have l2 : ∀ t ∈ (ts.eraseIdx a).eraseIdx b, lt y.1 t.1 := fun t ht => by
    have hd := (List.pairwise_cons.1 (dis1.perm (show (trs (ts.eraseIdx a)).Perm (trs (y :: (ts.eraseIdx a).eraseIdx b)) from (p2.symm).map _))).1 t.1 (List.mem_map.2 ⟨t, ht, rfl⟩)
    obtain ⟨j, hj, hjt⟩ := List.mem_iff_getElem.1 (p2.mem_iff.1 (List.mem_cons_of_mem _ ht))
    have := hnb j t y hj (by rw [List.getElem?_eq_getElem hj, hjt]) hy
    rcases lt_or y.1 t.1 hd with h | h
    · exact h
    · exact absurd h this
  have hym : y ∈ ts.eraseIdx a := p2.mem_iff.1 (List.mem_cons_self ..)
  have hxm : x ∈ ts := p1.mem_iff.1 (List.mem_cons_self ..)
  have hyt : y ∈ ts := p1.mem_iff.1 (List.mem_cons_of_mem _ hym)
  have hrest : ∀ t ∈ (ts.eraseIdx a).eraseIdx b, t ∈ ts := fun t ht => p.mem_iff.2 (List.mem_cons_of_mem _ (List.mem_cons_of_mem _ ht))
  obtain ⟨run', dx, dy⟩ := run.next (show (trs ts).Perm (x.1 :: y.1 :: trs ((ts.eraseIdx a).eraseIdx b)) from p.map _) (l1 y hym) (fun t ht => by
    obtain ⟨t', ht', rfl⟩ := List.mem_map.1 ht
    exact l2 t' ht')
  have plv : (lvs ts).Perm (x.2 ++ (y.2 ++ lvs ((ts.eraseIdx a).eraseIdx b))) := p.flatMap_right _
  have hnd : (x.2 ++ (y.2 ++ lvs ((ts.eraseIdx a).eraseIdx b))).Nodup := plv.nodup_iff.1 (lv.nodup_iff.2 (range_nodup _))
  rw [← List.append_assoc] at hnd plv
  obtain ⟨n1, n2, n3⟩ := List.nodup_append.1 hnd
  have hall : ∀ z ∈ lvs ts, 0 ≤ z ∧ z < (w.length : Int) := fun z hz => by
    obtain ⟨i, hi, rfl⟩ := List.mem_map.1 (lv.mem_iff.1 hz)
    have := List.mem_range.1 hi
    omega
  have hz : ∀ z ∈ x.2 ++ y.2, 0 ≤ z ∧ z < (w.length : Int) := fun z hz => hall z (plv.mem_iff.2 (List.mem_append_left _ hz))
  have hinc : ∀ j, (inc o (x.2 ++ y.2)).getD j 0 = o.getD j 0 + if (j : Int) ∈ x.2 ++ y.2 then 1 else 0 := fun j => inc_at _ o j n1 (fun z h => by rw [ol]; exact hz z h)
  have hsum : sumN wt (trs ts) = x.1.1 + (y.1.1 + sumN wt (trs ((ts.eraseIdx a).eraseIdx b))) := by
    rw [sumN_perm wt (show (trs ts).Perm (x.1 :: y.1 :: trs ((ts.eraseIdx a).eraseIdx b)) from p.map _)]; rfl
  have hlen := p.length_eq
  simp only [List.length_cons] at hlen
  refine ⟨⟨run0, ?_, ?_, fun t ht => ?_, ?_, by rw [inc_len, ol], fun t ht z hzt => ?_, ?_, by simp; omega⟩, by omega, hz, ?_⟩
  · refine run'.perm ?_
    unfold trs
    rw [List.map_append]
    exact (List.perm_append_singleton _ _).symm
  · unfold trs
    rw [List.map_append]
    have hd2 := (List.pairwise_cons.1 (List.pairwise_cons.1 (dis.perm (show (trs ts).Perm (x.1 :: y.1 :: trs ((ts.eraseIdx a).eraseIdx b)) from p.map _))).2).2
    refine List.pairwise_append.2 ⟨hd2, List.pairwise_singleton _ _, fun t ht u hu => ?_⟩
    simp only [List.map_cons, List.map_nil, List.mem_singleton] at hu
    subst hu
    obtain ⟨t', ht', rfl⟩ := List.mem_map.1 ht
    have := low t' (hrest t' ht')
    simp only
    omega
  · rcases List.mem_append.1 ht with ht | ht
    · have := low t (hrest t ht); omega
    · rw [List.mem_singleton] at ht; subst ht; simp only; omega
  · have e : lvs ((ts.eraseIdx a).eraseIdx b ++ [((x.1.1 + y.1.1, K), x.2 ++ y.2)]) = lvs ((ts.eraseIdx a).eraseIdx b) ++ (x.2 ++ y.2) := by unfold lvs; simp
    rw [e]
    exact (List.perm_append_comm.trans plv.symm).trans lv
  · have ezn : ∀ z : Int, z ∈ lvs ts → ((z.toNat : Nat) : Int) = z := fun z hz => by have := hall z hz; omega
    rw [hinc]
    rcases List.mem_append.1 ht with ht | ht
    · have hzl : z ∈ lvs ((ts.eraseIdx a).eraseIdx b) := List.mem_flatMap.2 ⟨t, ht, hzt⟩
      have hzall : z ∈ lvs ts := plv.mem_iff.2 (List.mem_append_right _ hzl)
      have hno : z ∉ x.2 ++ y.2 := fun h => n3 z h z hzl rfl
      rw [ezn z hzall, if_neg hno, Int.add_zero]
      exact od t (hrest t ht) z hzt
    · rw [List.mem_singleton] at ht
      subst ht
      simp only at hzt ⊢
      have hzall : z ∈ lvs ts := plv.mem_iff.2 (List.mem_append_left _ hzt)
      rw [ezn z hzall, if_pos hzt]
      rcases List.mem_append.1 hzt with h | h
      · have := od x hxm z h
        rw [dx] at this
        omega
      · have := od y hyt z h
        rw [dy] at this
        omega
  · unfold trs
    rw [List.map_append, sumN_append, ← tot, hsum]
    simp only [List.map_cons, List.map_nil, sumN, wt]
    unfold trs
    omega
  · have := (plv.symm.trans lv).length_eq
    rw [List.length_append] at this
    simp only [List.length_map, List.length_range] at this
    omega
theorem DS.end_ {w : List Int} {d : Nat → Nat} {ts : List T3} {o : List Int} {K : Nat} (h : DS w d ts o K) (h1 : ts.length = 1) : DepP w o := by
  obtain ⟨t, rfl⟩ := List.length_eq_one_iff.1 h1
  have h0 := h.run.end_
  refine ⟨d, h.run0, ?_⟩
  apply List.ext_getElem
  · simp [h.ol]
  · intro i h2 h3
    have hi : i < w.length := by rw [← h.ol]; exact h2
    have hm : (i : Int) ∈ lvs [t] := h.mem.2 ⟨by omega, by omega⟩
    obtain ⟨t', ht', hx⟩ := List.mem_flatMap.1 hm
    rw [List.mem_singleton] at ht'
    subst ht'
    have := h.od t' (List.mem_singleton.2 rfl) _ hx
    rw [h0, Int.toNat_natCast, List.getD_eq_getElem?_getD, List.getElem?_eq_getElem h2] at this
    simp only [Option.getD_some] at this
    rw [List.getElem_map, List.getElem_range]
    omega
/-- Each symbol by itself. -/
def sgl (w : List Int) (k : Nat) : List T3 := (List.range k).map fun i => (((w.getD i 0).toNat, i), [(i : Int)])
theorem sgl_succ (w : List Int) (k : Nat) : sgl w (k + 1) = sgl w k ++ [(((w.getD k 0).toNat, k), [(k : Int)])] := by
  unfold sgl; rw [List.range_succ, List.map_append]; rfl
theorem sgl_len (w : List Int) (k : Nat) : (sgl w k).length = k := by simp [sgl]
theorem DS.start {w : List Int} (h1 : 1 ≤ w.length) : ∃ d, DS w d (sgl w w.length) (List.replicate w.length 0) w.length := by
  obtain ⟨d, hd⟩ := Run.exists (w.length - 1) w.length (ini w) (by rw [ini_len]; omega) (ini_dis w) (fun t ht => (ini_mem ht).1)
  have e : trs (sgl w w.length) = ini w := by unfold trs sgl ini; rw [List.map_map]; rfl
  refine ⟨d, ⟨hd, by rw [e]; exact hd, by rw [e]; exact ini_dis w, fun t ht => ?_, ?_, by simp, fun t ht x hx => ?_, by rw [e], by rw [sgl_len]; omega⟩⟩
  · obtain ⟨i, hi, rfl⟩ := List.mem_map.1 ht
    exact List.mem_range.1 hi
  · have e2 : ∀ k, lvs (sgl w k) = (List.range k).map (fun i : Nat => (i : Int)) := by
      intro k
      induction k with
      | zero => rfl
      | succ k ih =>
        rw [sgl_succ, List.range_succ, List.map_append, ← ih]
        unfold lvs
        simp
    rw [e2]
  · obtain ⟨i, hi, rfl⟩ := List.mem_map.1 ht
    simp only [List.mem_singleton] at hx
    subst hx
    have hi' := List.mem_range.1 hi
    rw [Int.toNat_natCast, List.getD_eq_getElem?_getD, List.getElem?_replicate, if_pos hi']
    simp
end HufM
end Go.Proofs.YtmlcdfimcabgkaaDoor
