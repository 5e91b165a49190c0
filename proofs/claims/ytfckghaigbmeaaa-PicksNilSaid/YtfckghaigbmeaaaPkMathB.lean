/-
  PLAIN MATHEMATICS OF LAYER 13 (picks): a step, what steps tell together, and lists of numbers as letters. No program is named here.
-/
import Derived.Test.YtfckghaigbmeaaaPkMath
import Derived.Test.YtfckghaigbmeaaaMtfMath
namespace Go.Proofs.Ytfckghaigbmeaaa
namespace PkM
open Go.RowKit BitM
set_option linter.unusedVariables false
/-- What a step tells: an error, how many bits it read, and what is known then. -/
structure PO where
  err : Int
  used : Nat
  t : Nat
  n : Nat
  ps : List Nat
  o : List Nat
  bad : Bool
def pstep (q : List Bool) (t n : Nat) (ps o : List Nat) (bad : Bool) : PO :=
  if bad = true then ⟨25, 0, t, n, ps, o, true⟩
  else if n = 0 then
    if q.length < 18 then ⟨3, 0, t, 0, ps, o, false⟩
    else if num (q.take 3) < 2 ∨ 6 < num (q.take 3) then ⟨25, 18, t, 0, ps, o, true⟩
    else if num ((q.drop 3).take 15) = 0 then ⟨25, 18, num (q.take 3), 0, ps, o, true⟩
    else ⟨0, 18, num (q.take 3), num ((q.drop 3).take 15), ps, [0, 1, 2, 3, 4, 5], false⟩
  else if t ≤ lead q then ⟨25, t, t, n, ps, o, true⟩
  else if lead q = q.length then ⟨3, 0, t, n, ps, o, false⟩
  else ⟨0, lead q + 1, t, n, ps ++ [o.getD (lead q) 0], tch o (lead q), false⟩
theorem pstep_bad (q : List Bool) (t n : Nat) (ps o : List Nat) : pstep q t n ps o true = ⟨25, 0, t, n, ps, o, true⟩ := rfl
theorem pstep_few (q : List Bool) (t : Nat) (ps o : List Nat) (h : q.length < 18) : pstep q t 0 ps o false = ⟨3, 0, t, 0, ps, o, false⟩ := by
  unfold pstep
  rw [if_neg (by simp), if_pos rfl, if_pos h]
theorem pstep_noT (q : List Bool) (t : Nat) (ps o : List Nat) (h : ¬ q.length < 18) (h2 : num (q.take 3) < 2 ∨ 6 < num (q.take 3)) : pstep q t 0 ps o false = ⟨25, 18, t, 0, ps, o, true⟩ := by
  unfold pstep
  rw [if_neg (by simp), if_pos rfl, if_neg h, if_pos h2]
theorem pstep_noN (q : List Bool) (t : Nat) (ps o : List Nat) (h : ¬ q.length < 18) (h2 : ¬ (num (q.take 3) < 2 ∨ 6 < num (q.take 3))) (h3 : num ((q.drop 3).take 15) = 0) : pstep q t 0 ps o false = ⟨25, 18, num (q.take 3), 0, ps, o, true⟩ := by
  unfold pstep
  rw [if_neg (by simp), if_pos rfl, if_neg h, if_neg h2, if_pos h3]
theorem pstep_first (q : List Bool) (t : Nat) (ps o : List Nat) (h : ¬ q.length < 18) (h2 : ¬ (num (q.take 3) < 2 ∨ 6 < num (q.take 3))) (h3 : ¬ num ((q.drop 3).take 15) = 0) : pstep q t 0 ps o false = ⟨0, 18, num (q.take 3), num ((q.drop 3).take 15), ps, [0, 1, 2, 3, 4, 5], false⟩ := by
  unfold pstep
  rw [if_neg (by simp), if_pos rfl, if_neg h, if_neg h2, if_neg h3]
theorem pstep_wrong (q : List Bool) {t n : Nat} (ps o : List Nat) (hn : n ≠ 0) (h : t ≤ lead q) : pstep q t n ps o false = ⟨25, t, t, n, ps, o, true⟩ := by
  unfold pstep
  rw [if_neg (by simp), if_neg hn, if_pos h]
theorem pstep_short (q : List Bool) {t n : Nat} (ps o : List Nat) (hn : n ≠ 0) (h : ¬ t ≤ lead q) (h2 : lead q = q.length) : pstep q t n ps o false = ⟨3, 0, t, n, ps, o, false⟩ := by
  unfold pstep
  rw [if_neg (by simp), if_neg hn, if_neg h, if_pos h2]
theorem pstep_one (q : List Bool) {t n : Nat} (ps o : List Nat) (hn : n ≠ 0) (h : ¬ t ≤ lead q) (h2 : ¬ lead q = q.length) : pstep q t n ps o false = ⟨0, lead q + 1, t, n, ps ++ [o.getD (lead q) 0], tch o (lead q), false⟩ := by
  unfold pstep
  rw [if_neg (by simp), if_neg hn, if_neg h, if_neg h2]
/-- What is known behind p bits of all is right. -/
def Rt (Q : List Bool) (p t n : Nat) (ps o : List Nat) : Prop :=
  (n = 0 ∧ t = 0 ∧ ps = [] ∧ p = 0) ∨
  (2 ≤ t ∧ t ≤ 6 ∧ 1 ≤ n ∧ n ≤ 32767 ∧ ps.length ≤ n ∧ Ord t o ∧ (∀ x ∈ ps, x < t) ∧ 18 ≤ Q.length ∧ num (Q.take 3) = t ∧ num ((Q.drop 3).take 15) = n ∧ rd Q = (run t (Q.drop p) (n - ps.length) o).add ps p)
theorem Rt.start (Q : List Bool) (o : List Nat) : Rt Q 0 0 0 [] o := Or.inl ⟨rfl, rfl, rfl, rfl⟩
theorem Ord.getD {t : Nat} {o : List Nat} (h : Ord t o) {i : Nat} (hi : i < t) (ht : t ≤ 6) : o.getD i 0 < t := by
  have hl := h.1
  have h1 : i < o.length := by omega
  rw [List.getD_eq_getElem?_getD, List.getElem?_eq_getElem h1]
  refine (h.2 _).2 ?_
  have h2 : i < (o.take t).length := by rw [List.length_take]; omega
  have := List.getElem_mem h2
  rw [List.getElem_take] at this
  exact this
/-- A step of the bits q that are there; r comes behind them. -/
theorem Rt.step {Q : List Bool} {p t n : Nat} {ps o : List Nat} (h : Rt Q p t n ps o) (hl : n = 0 ∨ ps.length < n) (q r : List Bool) (hq : Q.drop p = q ++ r) :
    ((pstep q t n ps o false).err = 0 ∧ (pstep q t n ps o false).bad = false ∧ 1 ≤ (pstep q t n ps o false).used ∧ (pstep q t n ps o false).used ≤ q.length ∧ Rt Q (p + (pstep q t n ps o false).used) (pstep q t n ps o false).t (pstep q t n ps o false).n (pstep q t n ps o false).ps (pstep q t n ps o false).o ∧ 1 ≤ (pstep q t n ps o false).n) ∨
    ((pstep q t n ps o false).err = 25 ∧ (pstep q t n ps o false).bad = true ∧ (pstep q t n ps o false).used ≤ q.length ∧ rd Q = .bad (p + (pstep q t n ps o false).used) ∧ (pstep q t n ps o false).ps = ps ∧ (pstep q t n ps o false).n = n) ∨
    (pstep q t n ps o false = ⟨3, 0, t, n, ps, o, false⟩ ∧ (r = [] → rd Q = .short)) := by
  rcases h with ⟨rfl, rfl, rfl, rfl⟩ | ⟨h2, h6, hn1, hn2, hle, hO, hlt, hQ18, ht, hn, hr⟩
  · rw [List.drop_zero] at hq
    by_cases h18 : q.length < 18
    · refine Or.inr (Or.inr ⟨pstep_few q _ _ _ h18, fun hr => ?_⟩)
      rw [hr, List.append_nil] at hq
      unfold rd
      rw [hq, if_pos h18]
    · have hQ18 : ¬ Q.length < 18 := by rw [hq, List.length_append]; omega
      have e3 : Q.take 3 = q.take 3 := by rw [hq, List.take_append_of_le_length (by omega)]
      have e15 : (Q.drop 3).take 15 = (q.drop 3).take 15 := by rw [hq, List.drop_append_of_le_length (by omega), List.take_append_of_le_length (by rw [List.length_drop]; omega)]
      by_cases hT : num (q.take 3) < 2 ∨ 6 < num (q.take 3)
      · rw [pstep_noT q _ _ _ h18 hT]
        refine Or.inr (Or.inl ⟨rfl, rfl, by show 18 ≤ q.length; omega, ?_, rfl, rfl⟩)
        unfold rd
        rw [if_neg hQ18, e3, if_pos (by omega)]
        rfl
      · by_cases hN : num ((q.drop 3).take 15) = 0
        · rw [pstep_noN q _ _ _ h18 hT hN]
          refine Or.inr (Or.inl ⟨rfl, rfl, by show 18 ≤ q.length; omega, ?_, rfl, rfl⟩)
          unfold rd
          rw [if_neg hQ18, e3, e15, if_pos (by omega)]
          rfl
        · rw [pstep_first q _ _ _ h18 hT hN]
          have hlt := num_lt ((q.drop 3).take 15)
          have hl15 : ((q.drop 3).take 15).length = 15 := by rw [List.length_take, List.length_drop]; omega
          rw [hl15] at hlt
          refine Or.inl ⟨rfl, rfl, by show 1 ≤ 18; omega, by show 18 ≤ q.length; omega, Or.inr ⟨by show 2 ≤ num _; omega, by show num _ ≤ 6; omega, by show 1 ≤ num _; omega, by show num _ ≤ 32767; omega, Nat.zero_le _, Ord.start (by show num _ ≤ 6; omega), fun x hx => absurd hx (by simp), by omega, ?_, ?_, ?_⟩, by show 1 ≤ num _; omega⟩
          · show num (Q.take 3) = num (q.take 3)
            rw [e3]
          · show num ((Q.drop 3).take 15) = num ((q.drop 3).take 15)
            rw [e15]
          · unfold rd
            rw [if_neg hQ18, e3, e15, if_neg (by omega)]
            rfl
  · have hn0 : n ≠ 0 := by omega
    obtain ⟨M, hM⟩ : ∃ M, n - ps.length = M + 1 := ⟨n - ps.length - 1, by omega⟩
    rw [hM, hq] at hr
    have hll := lead_le q
    by_cases hw : t ≤ lead q
    · rw [pstep_wrong q ps o hn0 hw]
      refine Or.inr (Or.inl ⟨rfl, rfl, by show t ≤ q.length; omega, ?_, rfl, rfl⟩)
      rw [hr, run_wrong q r M o hw]
      rfl
    · by_cases hs : lead q = q.length
      · refine Or.inr (Or.inr ⟨pstep_short q ps o hn0 hw hs, fun e => ?_⟩)
        subst e
        rw [hr, List.append_nil, run_short q M o (by omega) hs]
        rfl
      · rw [pstep_one q ps o hn0 hw hs]
        have hd : Q.drop (p + (lead q + 1)) = q.drop (lead q + 1) ++ r := by
          rw [← List.drop_drop, hq, List.drop_append_of_le_length (by omega)]
        have hlen : (ps ++ [o.getD (lead q) 0]).length = ps.length + 1 := by rw [List.length_append]; rfl
        refine Or.inl ⟨rfl, rfl, by show 1 ≤ lead q + 1; omega, by show lead q + 1 ≤ q.length; omega, Or.inr ⟨h2, h6, hn1, hn2, by show (ps ++ [o.getD (lead q) 0]).length ≤ n; omega, hO.tch h6 (by omega), fun x hx => ?_, hQ18, ht, hn, ?_⟩, hn1⟩
        · rcases List.mem_append.1 hx with h | h
          · exact hlt x h
          · rw [List.mem_singleton] at h
            subst h
            exact hO.getD (by omega) h6
        · show rd Q = (run t (Q.drop (p + (lead q + 1))) (n - (ps ++ [o.getD (lead q) 0]).length) (tch o (lead q))).add (ps ++ [o.getD (lead q) 0]) (p + (lead q + 1))
          rw [hr, hd, hlen, show n - (ps.length + 1) = M by omega, run_step q r M o (by omega) (by omega), add_add]
/-- All were read. -/
theorem Rt.all {Q : List Bool} {p t n : Nat} {ps o : List Nat} (h : Rt Q p t n ps o) (hn : 1 ≤ n) (hl : ps.length = n) : rd Q = .ok ps p ∧ num (Q.take 3) = t := by
  rcases h with ⟨rfl, _⟩ | ⟨h2, h6, hn1, hn2, hle, hO, hlt, hQ18, ht, hn, hr⟩
  · omega
  · refine ⟨?_, ht⟩
    rw [hr, show n - ps.length = 0 by omega]
    show Res.ok (ps ++ []) (p + 0) = _
    rw [List.append_nil]
    rfl
theorem Rt.bnd {Q : List Bool} {p t n : Nat} {ps o : List Nat} (h : Rt Q p t n ps o) : (n = 0 ∧ ps = []) ∨ (2 ≤ t ∧ t ≤ 6 ∧ 1 ≤ n ∧ n ≤ 32767 ∧ ps.length ≤ n) := by
  rcases h with ⟨rfl, _, h, _⟩ | ⟨h2, h6, hn1, hn2, hle, _⟩
  · exact Or.inl ⟨rfl, h⟩
  · exact Or.inr ⟨h2, h6, hn1, hn2, hle⟩
/-! ### Letters -/
def lets (o : List Nat) : List UInt8 := o.map fun n => UInt8.ofNat (48 + n)
theorem lets_tch (o : List Nat) (i : Nat) : MtfM.touch (lets o) i = lets (tch o i) := by
  unfold MtfM.touch tch lets
  rw [← List.map_drop, ← List.map_take, ← List.map_take, ← List.map_drop, ← List.map_append, ← List.map_append]
theorem lets_length (o : List Nat) : (lets o).length = o.length := by simp [lets]
theorem lets_get {o : List Nat} {i x : Nat} (h : o[i]? = some x) : (lets o)[i]? = some (UInt8.ofNat (48 + x)) := by
  unfold lets
  rw [List.getElem?_map, h]
  rfl
/-- All numbers are below 6. -/
def Six (o : List Nat) : Prop := o.length = 6 ∧ ∀ x ∈ o, x < 6
theorem Six.start : Six [0, 1, 2, 3, 4, 5] := ⟨rfl, by decide⟩
theorem Six.tch {o : List Nat} (h : Six o) {i : Nat} (hi : i < 6) : Six (tch o i) := by
  have hl := h.1
  refine ⟨by rw [tch_length o i (by omega), hl], fun x hx => ?_⟩
  rw [tch_cons o i (by omega)] at hx
  simp only [List.mem_cons, List.mem_append] at hx
  rcases hx with rfl | hx | hx
  · exact h.2 _ (List.getElem_mem _)
  · exact h.2 _ (List.mem_of_mem_take hx)
  · exact h.2 _ (List.mem_of_mem_drop hx)
theorem idx_first {o : List Nat} {p j : Nat} (hj : j < o.idxOf p) : o[j]? ≠ some p := by
  intro h
  obtain ⟨h1, h2⟩ := List.getElem?_eq_some_iff.1 h
  have h3 : j < o.findIdx (· == p) := hj
  have h4 := List.not_of_lt_findIdx h3
  simp [h2] at h4
theorem lets_place {o : List Nat} (h : Six o) {p : Nat} (hp : p ∈ o) : Lib.indexByte (lets o) (UInt8.ofNat (48 + p)) = (o.idxOf p : Int) := by
  have hp6 := h.2 p hp
  have hi : o.idxOf p < o.length := List.idxOf_lt_length_of_mem hp
  refine MtfM.place_is (lets_get (by rw [List.getElem?_eq_getElem hi, List.getElem_idxOf])) (fun j hj hh => ?_)
  have hj2 : j < o.length := by omega
  rw [lets_get (List.getElem?_eq_getElem hj2)] at hh
  have h6 := h.2 _ (List.getElem_mem hj2)
  have e := congrArg UInt8.toNat (Option.some.inj hh)
  simp only [UInt8.toNat_ofNat'] at e
  refine idx_first hj ?_
  rw [List.getElem?_eq_getElem hj2]
  congr 1
  omega
/-! ### How writing goes on -/
def O6 : List Nat := [0, 1, 2, 3, 4, 5]
def ordK (ps : List Nat) (k : Nat) : List Nat := ord O6 (ps.take k)
def encK (ps : List Nat) (k : Nat) : List Bool := enc O6 (ps.take k)
theorem take_next (ps : List Nat) {k : Nat} (h : k < ps.length) : ps.take (k + 1) = ps.take k ++ [ps.getD k 0] := by
  rw [List.take_succ_eq_append_getElem h, List.getD_eq_getElem?_getD, List.getElem?_eq_getElem h]
  rfl
theorem encK_next (ps : List Nat) {k : Nat} (h : k < ps.length) : encK ps (k + 1) = encK ps k ++ (List.replicate ((ordK ps k).idxOf (ps.getD k 0)) true ++ [false]) := by
  unfold encK ordK
  rw [take_next ps h, enc_app, enc]
  rfl
theorem ordK_next (ps : List Nat) {k : Nat} (h : k < ps.length) : ordK ps (k + 1) = tch (ordK ps k) ((ordK ps k).idxOf (ps.getD k 0)) := by
  unfold ordK
  rw [take_next ps h, ord_app, ord, ord]
theorem ordK_ord (ps : List Nat) {t : Nat} (ht : t ≤ 6) (hp : ∀ x ∈ ps, x < t) : ∀ k, k ≤ ps.length → Ord t (ordK ps k) ∧ Six (ordK ps k)
  | 0, _ => ⟨Ord.start ht, Six.start⟩
  | k + 1, hk => by
    have ih := ordK_ord ps ht hp k (by omega)
    rw [ordK_next ps (by omega)]
    have h1 : ps.getD k 0 < t := by
      rw [List.getD_eq_getElem?_getD, List.getElem?_eq_getElem (by omega)]
      exact hp _ (List.getElem_mem _)
    have h2 := (ih.1.place ht h1).1
    exact ⟨ih.1.tch ht h2, ih.2.tch (by omega)⟩
theorem encK_len (ps : List Nat) {t : Nat} (ht : t ≤ 6) (hp : ∀ x ∈ ps, x < t) : ∀ k, k ≤ ps.length → (encK ps k).length ≤ 6 * k
  | 0, _ => Nat.le_refl _
  | k + 1, hk => by
    have ih := encK_len ps ht hp k (by omega)
    have h1 : ps.getD k 0 < t := by
      rw [List.getD_eq_getElem?_getD, List.getElem?_eq_getElem (by omega)]
      exact hp _ (List.getElem_mem _)
    have h2 := ((ordK_ord ps ht hp k (by omega)).1.place ht h1).1
    rw [encK_next ps (by omega), List.length_append, List.length_append, List.length_replicate, List.length_singleton]
    omega
theorem encK_all (ps : List Nat) (k : Nat) (hk : ps.length ≤ k) : encK ps k = enc [0, 1, 2, 3, 4, 5] ps := by
  unfold encK
  rw [List.take_of_length_le hk]
  rfl
/-- Numbers that may be told as numbers of tables. -/
def MayI (zs : List Int) (t : Int) : Prop := 2 ≤ t ∧ t ≤ 6 ∧ 1 ≤ zs.length ∧ zs.length ≤ 32767 ∧ ∀ z ∈ zs, 0 ≤ z ∧ z < t
def toI (ps : List Nat) : List Int := ps.map fun (x : Nat) => (x : Int)
theorem toI_length (ps : List Nat) : (toI ps).length = ps.length := by simp [toI]
theorem toI_inj {ps qs : List Nat} : toI ps = toI qs ↔ ps = qs := by
  constructor
  · intro h
    have := congrArg (List.map Int.toNat) h
    simpa [toI, Function.comp_def] using this
  · rintro rfl
    rfl
theorem toI_getD (ps : List Nat) (k : Nat) : (toI ps).getD k 0 = ((ps.getD k 0 : Nat) : Int) := by
  unfold toI
  rw [List.getD_eq_getElem?_getD, List.getElem?_map, List.getD_eq_getElem?_getD]
  cases ps[k]? <;> rfl
theorem toI_app (ps qs : List Nat) : toI (ps ++ qs) = toI ps ++ toI qs := by simp [toI]
theorem MayI.nat {zs : List Int} {t : Int} (h : MayI zs t) : ∃ (ps : List Nat) (T : Nat), zs = toI ps ∧ t = (T : Int) ∧ May ps T := by
  obtain ⟨h2, h6, h1, hm, hz⟩ := h
  have e : zs = toI (zs.map Int.toNat) := by
    unfold toI
    rw [List.map_map]
    conv => lhs; rw [← List.map_id zs]
    apply List.map_congr_left
    intro z h
    have := (hz z h).1
    simp only [id, Function.comp]
    omega
  refine ⟨zs.map Int.toNat, t.toNat, e, by omega, by omega, by omega, by rw [List.length_map]; exact h1, by rw [List.length_map]; exact hm, fun p hp => ?_⟩
  obtain ⟨z, h, rfl⟩ := List.mem_map.1 hp
  have := hz z h
  omega
theorem May.int {ps : List Nat} {T : Nat} (h : May ps T) : MayI (toI ps) (T : Int) := by
  obtain ⟨h2, h6, h1, hm, hp⟩ := h
  refine ⟨by omega, by omega, by rw [toI_length]; exact h1, by rw [toI_length]; exact hm, fun z hz => ?_⟩
  obtain ⟨x, hx, rfl⟩ := List.mem_map.1 hz
  have := hp x hx
  constructor
  · show (0 : Int) ≤ (x : Int)
    omega
  · show (x : Int) < (T : Int)
    omega
end PkM
end Go.Proofs.Ytfckghaigbmeaaa
