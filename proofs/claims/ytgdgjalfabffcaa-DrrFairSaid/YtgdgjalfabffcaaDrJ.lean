/-
  LAYER 30 (package drr): Add and Remove as the document has them; a scheduler that the call made; the example.
-/
import Derived.Test.YtgdgjalfabffcaaDrI
namespace Go.Proofs.Ytgdgjalfabffcaa
open Go.RowKit
set_option linter.unusedVariables false
set_option linter.unusedSimpArgs false
theorem ring_lt {d : DrrM.DS} (h : DrrM.Inv d) {t : Nat} (ht : t < d.q.length) (hr : t ∉ d.r) : d.r.length < d.q.length := by
  rw [h.count]
  have e : (List.range d.q.length).length = d.q.length := List.length_range
  rw [← e, List.length_range]
  have := (List.length_filter_lt_length_iff_exists (l := List.range d.q.length) (p := fun t => !(d.job t).isEmpty)).2 ⟨t, List.mem_range.2 ht, by
    have hj : d.job t = [] := by
      cases hd : d.job t with
      | nil => rfl
      | cons x l => exact absurd ((h.iff_ t ht).2 (by rw [hd]; simp)) hr
    simp [hj]⟩
  rw [List.length_range] at this
  exact this
def addE (d : DrrM.DS) (T x : Int) : Int := if 0 ≤ T ∧ T < d.q.length then (match d.whose x with | none => 0 | some _ => 8) else 6
def addD (d : DrrM.DS) (T x : Int) : DrrM.DS := if 0 ≤ T ∧ T < d.q.length then (match d.whose x with | none => d.add T.toNat x | some _ => d) else d
def rmvE (d : DrrM.DS) (x : Int) : Int := match d.whose x with | none => 6 | some _ => 0
def rmvD (d : DrrM.DS) (x : Int) : DrrM.DS := match d.whose x with | none => d | some t => d.out t x
theorem add_fun {d : DrrM.DS} (h : DrrM.Inv d) {t : Nat} (ht : t < d.q.length) (x : Int) (hx : x ∉ d.job t) (hl : (d.job t).length < 1099511627776) :
    pushE (d.job t) 1099511627776 x = 0 ∧ (∀ i, i ≤ d.q.length → updF (updF (jobsF d) d.q.length (pushL (ringI d.r) d.q.length t)) t (pushL (d.job t) 1099511627776 x) i = jobsF (d.add t x) i) ∧ (d.add t x).q = d.q ∧ (d.add t x).c = d.c := by
  have hlj : t < d.j.length := by rw [h.lj]; exact ht
  have hne : ¬ ((d.job t).length : Int) = 1099511627776 := by omega
  have e1 : pushL (d.job t) 1099511627776 x = d.job t ++ [x] := by unfold pushL; rw [if_neg hx, if_neg hne]
  refine ⟨by unfold pushE; rw [if_neg hx, if_neg hne], fun i hi => ?_, by unfold DrrM.DS.add; split <;> rfl, by unfold DrrM.DS.add; split <;> rfl⟩
  rw [e1]
  unfold DrrM.DS.add
  by_cases hr : t ∈ d.r
  · rw [if_pos hr]
    have e2 : pushL (ringI d.r) d.q.length t = ringI d.r := by unfold pushL; rw [if_pos (mem_ringI.2 hr)]
    rw [e2, jobsF_setJ d _ hlj ht]
    refine updF_congr (fun j hj => ?_) _ _ i hi
    unfold updF
    split
    · rename_i e; rw [e, jobsF_ring]
    · rfl
  · rw [if_neg hr]
    have hlt := ring_lt h ht hr
    have e2 : pushL (ringI d.r) d.q.length t = ringI (DrrM.withT d.r t) := by
      unfold pushL
      rw [if_neg (fun e => hr (mem_ringI.1 e)), if_neg (by rw [ringI_len]; omega)]
      unfold ringI DrrM.withT
      rw [List.map_append]
      rfl
    rw [e2, jobsF_setR (d.setJ t (d.job t ++ [x])) (DrrM.withT d.r t) hi]
    show updF (updF (jobsF d) d.q.length _) t _ i = updF (jobsF (d.setJ t (d.job t ++ [x]))) d.q.length _ i
    have e3 := jobsF_setJ d (d.job t ++ [x]) hlj ht i
    unfold updF at e3 ⊢
    by_cases a : i = t
    · subst a
      rw [if_pos rfl, if_neg (by omega), e3, if_pos rfl]
    · rw [if_neg a]
      rw [if_neg a] at e3
      by_cases b : i = d.q.length
      · rw [if_pos b, if_pos b]
      · rw [if_neg b, if_neg b, e3]
section
variable {w w' : World} {B s g : Nat} {Q : Nat → Nat} {V : Nat → Value} {d : DrrM.DS}
theorem dradd_any (T x : Int) (w : World) (h : IsDr w B s g Q V d) (hl : ∀ t, t < d.q.length → (d.job t).length < 1099511627776) : Calls Try.prog 34 #[.pointer (some ⟨s, 0, none⟩), .int .i64 T, .int .i64 x] w fun e w' => e = .returned (.int .i64 (addE d T x)) ∧ DrStep w w' B s g Q V (addD d T x) := by
  have hn := h.n16
  unfold addE addD
  by_cases hT : 0 ≤ T ∧ T < d.q.length
  · rw [if_pos hT, if_pos hT]
    obtain ⟨t, rfl⟩ : ∃ t : Nat, T = (t : Int) := ⟨T.toNat, by omega⟩
    have ht : t < d.q.length := by omega
    cases hw : d.whose x with
    | some u =>
      have hu := DrrM.whoseL_some hw
      refine (dadd_same t x w h.dm (by omega) ht ⟨u, by have := h.inv.lj; omega, by rw [jobsF_job d (by have := h.inv.lj; omega)]; exact hu.2⟩).mono ?_
      rintro e w' ⟨he, hb⟩
      exact ⟨he, DrStep.below h hb⟩
    | none =>
      have hno := DrrM.whoseL_none hw
      refine (dadd_any t x w h.dm (by omega) ht (fun i hi => by rw [jobsF_job d hi]; exact hno i)).mono ?_
      rintro e w' ⟨he, hd⟩
      rw [jobsF_job d ht, jobsF_ring] at hd
      rw [jobsF_job d ht] at he
      obtain ⟨f1, f2, f3, f4⟩ := add_fun h.inv ht x (hno t) (hl t ht)
      rw [f1] at he
      refine ⟨he, ?_⟩
      show DrStep w w' B s g Q V (d.add (t : Int).toNat x)
      rw [Int.toNat_natCast]
      refine ⟨?_, h.inv.add ht hw⟩
      rw [f3]
      exact hd.ext (fun i hi => by unfold DrrM.DS.qua; rw [f3]) (fun i hi => by unfold DrrM.DS.crd; rw [f4]) f2
  · rw [if_neg hT, if_neg hT]
    refine (dadd_none T x w h.dm hn.1 hT).mono ?_
    rintro e w' ⟨he, rfl⟩
    exact ⟨he, DrStep.refl h⟩
theorem drrmv_any (x : Int) (w : World) (h : IsDr w B s g Q V d) : Calls Try.prog 37 #[.pointer (some ⟨s, 0, none⟩), .int .i64 x] w fun e w' => e = .returned (.int .i64 (rmvE d x)) ∧ DrStep w w' B s g Q V (rmvD d x) := by
  have hn := h.n16
  unfold rmvE rmvD
  cases hw : d.whose x with
  | none =>
    have hno := DrrM.whoseL_none hw
    refine (drem_none x w h.dm (by omega) (fun i hi => by rw [jobsF_job d hi]; exact hno i)).mono ?_
    rintro e w' ⟨he, hb⟩
    exact ⟨he, DrStep.below h hb⟩
  | some t =>
    obtain ⟨h1, h2⟩ := DrrM.whoseL_some hw
    have ht : t < d.q.length := by have := h.inv.lj; omega
    have hx : x ∈ d.job t := h2
    refine (drem_any t x w h.dm (by omega) ht ⟨by rw [jobsF_job d ht]; exact hx, fun u hu hxu => ?_⟩).mono ?_
    · rw [jobsF_job d (by omega)] at hxu
      have := h.inv.apart t u x ht (by omega) hx hxu
      omega
    · rintro e w' ⟨he, hd⟩
      obtain ⟨o1, o2, o3, o4, o5⟩ := out_fun h.inv ht x
      refine ⟨he, ?_, h.inv.out ht hx⟩
      rw [o3]
      exact hd.ext (fun i hi => by unfold DrrM.DS.qua; rw [o3]) o1 o2
end
/-! ### A scheduler that the call made, and blocks that it does not hold -/
structure DrP (w0 w : World) (s g : Nat) (d : DrrM.DS) (K : Nat → Prop) : Prop where
  ex : ∃ Q V, IsDr w w0.heap.size s g Q V d ∧ ∀ k, K k → k < w.heap.size ∧ ¬ dfoot s g d.q.length Q V k
  below : Below w0.heap.size w0 w
/-- Blocks that stay. -/
def Kept (K : Nat → Prop) (w w' : World) : Prop := ∀ k, K k → w'.heap[k]? = w.heap[k]?
section
variable {w0 w w' : World} {s g : Nat} {d : DrrM.DS} {K : Nat → Prop}
theorem DrP.next (h : DrP w0 w s g d K) (hb : Below w.heap.size w w') : DrP w0 w' s g d K := by
  obtain ⟨⟨Q, V, h1, h3⟩, h2⟩ := h
  exact ⟨⟨Q, V, h1.far hb, fun k hk => ⟨by have := (h3 k hk).1; have := hb.size; omega, (h3 k hk).2⟩⟩, h2.trans (hb.mono h2.size)⟩
theorem DrP.kept (h : DrP w0 w s g d K) (hb : Below w.heap.size w w') : Kept K w w' := by
  obtain ⟨⟨Q, V, h1, h3⟩, h2⟩ := h
  exact fun k hk => hb.block k (h3 k hk).1
/-- Other blocks are watched: such as were, and new ones. -/
theorem DrP.more {K' : Nat → Prop} (h : DrP w0 w s g d K) (hb : Below w.heap.size w w') (hK : ∀ k, K' k → K k ∨ (w.heap.size ≤ k ∧ k < w'.heap.size)) : DrP w0 w' s g d K' := by
  obtain ⟨⟨Q, V, h1, h3⟩, h2⟩ := h
  refine ⟨⟨Q, V, h1.far hb, fun k hk => ?_⟩, h2.trans (hb.mono h2.size)⟩
  rcases hK k hk with h | h
  · exact ⟨by have := (h3 k h).1; have := hb.size; omega, (h3 k h).2⟩
  · exact ⟨h.2, fun hf => by have := (h1.dm.lt k hf).2; omega⟩
theorem DrP.step {Q : Nat → Nat} {V : Nat → Value} {d' : DrrM.DS} (h : IsDr w w0.heap.size s g Q V d) (hK : ∀ k, K k → k < w.heap.size ∧ ¬ dfoot s g d.q.length Q V k) (hb : Below w0.heap.size w0 w) (hq : d'.q = d.q) (hs : DrStep w w' w0.heap.size s g Q V d') : DrP w0 w' s g d' K ∧ Kept K w w' := by
  obtain ⟨V', h1, h2, h3⟩ := hs.get
  rw [hq] at h2 h3
  refine ⟨⟨⟨Q, V', h1, fun k hk => ⟨by have := (hK k hk).1; have := h2.size; omega, fun hf => ?_⟩⟩, hb.trans (h2.below hb.size (fun i hi => (h.dm.lt i hi).1))⟩, fun k hk => h2.block k (hK k hk).1 (hK k hk).2⟩
  rw [hq] at hf
  rcases h3 k hf with e | e
  · exact (hK k hk).2 e
  · have := (hK k hk).1; omega
theorem DrP.new {zs : List Int} {Q : Nat → Nat} {V : Nat → Value} (h : IsDm w w0.heap.size s g zs.length Q V (quaF zs) zeroI (fun _ => [])) (hb : Below w0.heap.size w0 w) (hm : qMay zs) : DrP w0 w s g (DrrM.new zs) (fun _ => False) := by
  refine ⟨⟨Q, V, ⟨?_, DrrM.Inv.new ⟨⟨hm.1, hm.2.1⟩, hm.2.2⟩⟩, fun k hk => hk.elim⟩, hb⟩
  refine h.ext (fun _ _ => rfl) (fun i hi => ?_) (fun i hi => ?_)
  · show 0 = (List.replicate zs.length 0).getD i 0
    rw [List.getD_eq_getElem?_getD, List.getElem?_replicate]
    split <;> rfl
  · unfold jobsF
    split
    · show [] = (List.replicate zs.length []).getD i []
      rw [List.getD_eq_getElem?_getD, List.getElem?_replicate]
      split <;> rfl
    · rfl
theorem addD_q (d : DrrM.DS) (T x : Int) : (addD d T x).q = d.q := by
  unfold addD
  split
  · split
    · unfold DrrM.DS.add; split <;> rfl
    · rfl
  · rfl
theorem rmvD_q (d : DrrM.DS) (x : Int) : (rmvD d x).q = d.q := by
  unfold rmvD
  split
  · rfl
  · unfold DrrM.DS.out; split <;> rfl
theorem ended_q (d : DrrM.DS) (t : Nat) (x used : Int) (st : Bool) : (DrrM.ended d t x used st).q = d.q := by
  have hm : (DrrM.mid d t x used st).q = d.q := by
    unfold DrrM.mid
    split
    · unfold DrrM.DS.out; split <;> rfl
    · split <;> rfl
  unfold DrrM.ended
  split
  · exact hm
  · exact hm
theorem spD_q (d : DrrM.DS) (x used : Int) (st : Bool) : (spD d x used st).q = d.q := by
  unfold spD
  split
  · rfl
  · split
    · rfl
    · split
      · rfl
      · exact ended_q ..
theorem da_add (T x : Int) (h : DrP w0 w s g d K) (hl : ∀ t, t < d.q.length → (d.job t).length < 1099511627776) : Calls Try.prog 34 #[.pointer (some ⟨s, 0, none⟩), .int .i64 T, .int .i64 x] w fun e w' => e = .returned (.int .i64 (addE d T x)) ∧ DrP w0 w' s g (addD d T x) K ∧ Kept K w w' := by
  obtain ⟨⟨Q, V, h1, h3⟩, h2⟩ := h
  exact (dradd_any T x w h1 hl).mono fun e w' ⟨he, hd⟩ => ⟨he, DrP.step h1 h3 h2 (addD_q ..) hd⟩
theorem da_remove (x : Int) (h : DrP w0 w s g d K) : Calls Try.prog 37 #[.pointer (some ⟨s, 0, none⟩), .int .i64 x] w fun e w' => e = .returned (.int .i64 (rmvE d x)) ∧ DrP w0 w' s g (rmvD d x) K ∧ Kept K w w' := by
  obtain ⟨⟨Q, V, h1, h3⟩, h2⟩ := h
  exact (drrmv_any x w h1).mono fun e w' ⟨he, hd⟩ => ⟨he, DrP.step h1 h3 h2 (rmvD_q ..) hd⟩
theorem da_spent (x used : Int) (st : Bool) (h : DrP w0 w s g d K) : Calls Try.prog 36 #[.pointer (some ⟨s, 0, none⟩), .int .i64 x, .int .i64 used, .bool st] w fun e w' => e = .returned (.int .i64 (spE d x used)) ∧ DrP w0 w' s g (spD d x used st) K ∧ Kept K w w' := by
  obtain ⟨⟨Q, V, h1, h3⟩, h2⟩ := h
  exact (dspent_any x used st w h1).mono fun e w' ⟨he, hd⟩ => ⟨he, DrP.step h1 h3 h2 (spD_q ..) hd⟩
/-- Next, of a row that is watched, or older. -/
theorem da_next (b : Int) (vl : Value) (ls : List Int) (h : DrP w0 w s g d K) (hI : IsInts w vl ls) (hv : ∀ k, vl.ownBlock = some k → K k ∨ k < w0.heap.size) (hll : ls.length ≤ 9223372036854775807) :
    Calls Try.prog 35 #[.pointer (some ⟨s, 0, none⟩), .int .i64 b, vl] w fun e w' => (DrP w0 w' s g (DrrM.next d b ls).1 K ∧ Kept K w w') ∧
      (((DrrM.next d b ls).2 = none ∧ e = .returned (.tuple #[.agg (trn 0 0 0), .bool false])) ∨
       ∃ (t : Nat) (x : Int) (l : List Int), (DrrM.next d b ls).2 = some t ∧ (DrrM.next d b ls).1.job t = x :: l ∧ e = .returned (.tuple #[.agg (trn (t : Int) x (min ((DrrM.next d b ls).1.crd t) (min b (ls.getD t 0)))), .bool true])) := by
  obtain ⟨⟨Q, V, h1, h3⟩, h2⟩ := h
  refine (dnext_any b vl ls w h1 hI (fun k hk hlt hf => ?_) hll).mono fun e w' ⟨a1, a2, a3⟩ => ⟨DrP.step h1 h3 h2 a2 a1, a3⟩
  rcases hv k hk with h | h
  · exact (h3 k h).2 hf
  · have := (h1.dm.lt k hf).1; omega
theorem da_credit (t : Nat) (h : DrP w0 w s g d K) (ht : t < d.q.length) : Calls Try.prog 33 #[.pointer (some ⟨s, 0, none⟩), .int .i64 (t : Int)] w fun e w' => e = .returned (.int .i64 (d.crd t)) ∧ w' = w := by
  obtain ⟨⟨Q, V, h1, _⟩, h2⟩ := h
  exact dcredit_any t w h1.dm ht
theorem da_inv (h : DrP w0 w s g d K) : DrrM.Inv d := by
  obtain ⟨⟨Q, V, h1, _⟩, h2⟩ := h
  exact h1.inv
end
end Go.Proofs.Ytgdgjalfabffcaa
