/-
  THE WALKS OF LAYER 12's CODE (package tables): a round.
-/
import Derived.Test.YtmlcdfimcabgkaaDoorTabC
namespace Go.Proofs.YtmlcdfimcabgkaaDoor
open Go.RowKit TabM FreqM HufM
set_option linter.unusedVariables false
set_option maxRecDepth 100000 in
set_option maxHeartbeats 1000000 in
theorem groupK_any (a : Option Addr) (len c : Nat) (zs : List Int) (k : Nat) (w : World) (hI : IsInts w (.slice a len c) zs) (hlen : zs.length = len) (hm : len ≤ 1000000) (hc : len ≤ c) (hc2 : c ≤ 9223372036854775807) (hk : k < ng len) :
    Calls Tryd.prog 41 #[.slice a len c, .int .i64 (k : Int)] w fun e w' => ∃ v : Value, e = .returned (.tuple #[v, .int .i64 0]) ∧ OwnI w' w.heap.size v (grp zs k) ∧ Below w.heap.size w w' := by
  have HGR := Lib.hid (groups_any (len : Int) w (by omega) (by omega))
  rw [gn_nat] at HGR
  have hkl : 50 * k < len := by unfold ng at hk; omega
  obtain ⟨b, off, rfl⟩ : ∃ b off, a = some ⟨b, off, none⟩ := by
    obtain ⟨a1, cap1, he, hcc⟩ := hI
    simp only [Value.slice.injEq] at he
    obtain ⟨rfl, _, _⟩ := he
    obtain ⟨b, off, h, _⟩ := hcc 0 _ (List.getElem?_eq_getElem (show 0 < zs.length by omega))
    exact ⟨b, off, h⟩
  have HG1 := Lib.hid (group1_any b off len c zs k w hI hlen hm hc hc2 hkl)
  have h0 : ¬ (k : Int) < 0 := by omega
  have h1 : ¬ (ng len : Int) ≤ (k : Int) := by omega
  generalize hN : ng len = N at *
  clear hI
  go_enter Tryd.func41, Tryd.ntmps41
  go_wp2_with fail
  refine HGR.out.mono ?_
  rintro e w' ⟨rfl, rfl⟩
  go_wp2_with fail
  refine HG1.out.mono ?_
  rintro e w2 ⟨v, rfl, hO, hB⟩
  have HO := Lib.hid hO
  have HB := Lib.hid hB
  clear hO hB
  go_wp2_with fail
  go_ret2
  exact ⟨_, rfl, HO.out, HB.out⟩
theorem zero1548 : Tryd.zeroCells63 = rowA 1548 (fun _ => 0) := by kernel_rfl
/-- How often number i % 258 was taken by table i / 258, behind q groups. -/
def cq (zs : List Int) (rows : List (List Int)) (q i : Nat) : Int := ((took zs rows (i / 258) q).count ((i % 258 : Nat) : Int) : Int)
/-- .. and behind m numbers of group q, whose table is P. -/
def cqm (zs : List Int) (rows : List (List Int)) (q P m i : Nat) : Int := cq zs rows q i + if i / 258 = P then (((grp zs q).take m).count ((i % 258 : Nat) : Int) : Int) else 0
theorem cqm_zero (zs : List Int) (rows : List (List Int)) (q P i : Nat) : cqm zs rows q P 0 i = cq zs rows q i := by
  unfold cqm
  rw [List.take_zero]
  simp
theorem cqm_all (zs : List Int) (rows : List (List Int)) (q i : Nat) : cqm zs rows q (pickM (grp zs q) rows) (grp zs q).length i = cq zs rows (q + 1) i := by
  unfold cqm cq
  rw [List.take_of_length_le (Nat.le_refl _), took, List.count_append]
  by_cases h : i / 258 = pickM (grp zs q) rows
  · rw [if_pos h, if_pos h.symm]
    simp
  · rw [if_neg h, if_neg (fun e => h e.symm)]
    simp
theorem cqm_succ (zs : List Int) (rows : List (List Int)) (q P m s : Nat) (hm : m < (grp zs q).length) (hs : (grp zs q).getD m 0 = (s : Int)) (hs2 : s < 258) (i : Nat) :
    cqm zs rows q P (m + 1) i = if i = P * 258 + s then cqm zs rows q P m (P * 258 + s) + 1 else cqm zs rows q P m i := by
  unfold cqm
  have hc := FreqM.count_take (grp zs q) ((i % 258 : Nat) : Int) m hm
  rw [hs] at hc
  by_cases h : i = P * 258 + s
  · subst h
    have e1 : (P * 258 + s) / 258 = P := by omega
    have e2 : (P * 258 + s) % 258 = s := by omega
    rw [if_pos rfl, e1, if_pos rfl, if_pos rfl]
    rw [e2] at hc ⊢
    rw [hc, if_pos rfl]
    omega
  · rw [if_neg h]
    by_cases h2 : i / 258 = P
    · have h3 : ¬ ((i % 258 : Nat) : Int) = (s : Int) := fun e => h (by omega)
      rw [if_pos h2, if_pos h2, hc, if_neg h3]
      rfl
    · rw [if_neg h2, if_neg h2]
theorem cq_zero (zs : List Int) (rows : List (List Int)) (i : Nat) : cq zs rows 0 i = 0 := rfl
theorem cq_bd (zs : List Int) (rows : List (List Int)) (q P m i : Nat) : 0 ≤ cqm zs rows q P m i ∧ cqm zs rows q P m i ≤ 50 * (q : Int) + 50 := by
  unfold cqm cq
  have h1 := took_len zs rows (i / 258) q
  have h2 : (took zs rows (i / 258) q).count ((i % 258 : Nat) : Int) ≤ (took zs rows (i / 258) q).length := List.count_le_length
  have h3 : ((grp zs q).take m).count ((i % 258 : Nat) : Int) ≤ ((grp zs q).take m).length := List.count_le_length
  have h4 := grp_len zs q
  rw [List.length_take] at h3
  split <;> omega
theorem cq_row {w : World} {K : Nat} {zs : List Int} {rows : List (List Int)} {q : Nat} (h : ArrD 63 w K 1548 (cq zs rows q)) {p N : Nat} (hp : p < 6) (hN : N ≤ 258) (cap : Nat) : IsInts w (.slice (some ⟨K, p * 258, none⟩) N cap) (counts (took zs rows p q) N) := by
  refine ⟨_, cap, by rw [counts_len], fun i x hx => ⟨K, p * 258, rfl, ?_⟩⟩
  have hi := (List.getElem?_eq_some_iff.1 hx).1
  rw [counts_len] at hi
  rw [(h.cell (i := p * 258 + i) (by omega)).1]
  have h2 := counts_get (took zs rows p q) N i hi
  rw [List.getD_eq_getElem?_getD, hx] at h2
  have h3 : x = ((took zs rows p q).count (i : Int) : Int) := h2
  rw [h3]
  unfold cq
  rw [show (p * 258 + i) / 258 = p by omega, show (p * 258 + i) % 258 = i by omega]
theorem slice258p (W : World) (b off n : Nat) (hn : n ≤ 258) : (Instr.sliceAt 62 (.pointer (some ⟨b, off, none⟩)) none (some (.int .i64 (n : Int))) none).run Tryd.prog W = .ok (.slice (some ⟨b, off, none⟩) n 258) W := by
  have e : Tryd.prog.arrayLen 62 = 258 := by kernel_rfl
  have hs : (sizeOf (Tryd.prog.elem 62)).run Tryd.prog W = .ok 1 W := by kernel_rfl
  rw [run_sliceAt_array_h W _ ⟨b, off, none⟩ (by kernel_rfl) .i64 (n : Int) (by omega) (by rw [e]; omega), hs]
  simp [Result.andThen, slicedAt, e, Addr.add]
/-- What a round has: the result's cell, the choice that grows, the counts. -/
structure RdT (H : Nat) (w0 wr : World) (d : Nat → Int) (vL vP : Value) : Prop where
  res : wr.heap[H]? = some (.cells #[.slice none 0 0, .slice none 0 0] 35 (0, 0))
  cho : wr.heap[H + 1]? = some (.cells #[vL, vP] 35 (0, 0))
  cnt : ArrD 63 wr (H + 2) 1548 d
  bel : Below H w0 wr
theorem RdT.lt {H : Nat} {w0 wr : World} {d : Nat → Int} {vL vP : Value} (h : RdT H w0 wr d vL vP) : H + 2 < wr.heap.size := (Array.getElem?_eq_some_iff.1 h.cnt).1
theorem RdT.below {H : Nat} {w0 wr w2 : World} {d : Nat → Int} {vL vP : Value} (h : RdT H w0 wr d vL vP) (hb : Below (H + 3) wr w2) : RdT H w0 w2 d vL vP :=
  ⟨(hb.block _ (by omega)).trans h.res, (hb.block _ (by omega)).trans h.cho, (hb.block _ (by omega)).trans h.cnt, h.bel.trans (hb.mono (by omega))⟩
theorem RdT.cells {H : Nat} {w0 wr : World} {d : Nat → Int} {vL vP : Value} (h : RdT H w0 wr d vL vP) : wr.cell? ⟨H + 1, 0, none⟩ = some vL ∧ wr.cell? ⟨H + 1, 1, none⟩ = some vP ∧ wr.frozen? ⟨H + 1, 0, none⟩ = false ∧ wr.frozen? ⟨H + 1, 1, none⟩ = false := by
  refine ⟨?_, ?_, frozen_of_row _ _ _ _ _ h.cho, frozen_of_row _ _ _ _ _ h.cho⟩ <;> (rw [cell_of_row _ _ _ _ _ _ h.cho]; rfl)
theorem RdT.setP {H : Nat} {w0 wr : World} {d : Nat → Int} {vL vP : Value} (h : RdT H w0 wr d vL vP) (v : Value) : RdT H w0 (wr.setCell ⟨H + 1, 1, none⟩ v) d vL v :=
  ⟨(heap_setCell_other _ _ _ _ (by show H ≠ H + 1; omega)).trans h.res, heap_setCell_same wr (H + 1) 1 _ _ v h.cho, (heap_setCell_other _ _ _ _ (by show H + 2 ≠ H + 1; omega)).trans h.cnt, h.bel.setCell (p := ⟨H + 1, 1, none⟩) (by show H ≤ H + 1; omega) v⟩
theorem RdT.setL {H : Nat} {w0 wr : World} {d : Nat → Int} {vL vP : Value} (h : RdT H w0 wr d vL vP) (v : Value) : RdT H w0 (wr.setCell ⟨H + 1, 0, none⟩ v) d v vP :=
  ⟨(heap_setCell_other _ _ _ _ (by show H ≠ H + 1; omega)).trans h.res, heap_setCell_same wr (H + 1) 0 _ _ v h.cho, (heap_setCell_other _ _ _ _ (by show H + 2 ≠ H + 1; omega)).trans h.cnt, h.bel.setCell (p := ⟨H + 1, 0, none⟩) (by show H ≤ H + 1; omega) v⟩
theorem RdT.setC {H : Nat} {w0 wr : World} {d : Nat → Int} {vL vP : Value} (h : RdT H w0 wr d vL vP) {i : Nat} (hi : i < 1548) (x : Int) : RdT H w0 (wr.setCell ⟨H + 2, i, none⟩ (.int .i64 x)) (fun k => if k = i then x else d k) vL vP :=
  ⟨(heap_setCell_other _ _ _ _ (by show H ≠ H + 2; omega)).trans h.res, (heap_setCell_other _ _ _ _ (by show H + 1 ≠ H + 2; omega)).trans h.cho, h.cnt.set hi x, h.bel.setCell (p := ⟨H + 2, i, none⟩) (by show H ≤ H + 2; omega) _⟩
theorem RdT.ext {H : Nat} {w0 wr : World} {d e : Nat → Int} {vL vP : Value} (h : RdT H w0 wr d vL vP) (he : d = e) : RdT H w0 wr e vL vP := he ▸ h
theorem OwnI.setLow {w : World} {base : Nat} {v : Value} {zs : List Int} (h : OwnI w base v zs) {p : Addr} (hp : p.block < base) (x : Value) : OwnI (w.setCell p x) base v zs :=
  h.same (fun k hk => heap_setCell_other _ _ _ _ (fun e => by have := (h.lt k hk).1; omega))
end Go.Proofs.YtmlcdfimcabgkaaDoor
