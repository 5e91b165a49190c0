/-
  THE WALKS OF LAYER 15's CODE (package rotate): where each place stands (ranked).
-/
import Derived.Test.YthkiaddmgggbpaaRotC
import Derived.Test.YthkiaddmgggbpaaRotD
import Derived.Test.YthkiaddmgggbpaaRepeat
namespace Go.Proofs.Ythkiaddmgggbpaa
open Go.RowKit BwtM PkM
set_option linter.unusedVariables false
set_option maxRecDepth 100000 in
set_option maxHeartbeats 2000000 in
theorem repeat_zero (v : Value) (x : Int) (w : World) (hv : IsInts w v [x]) :
    Calls Try.prog 51 #[v, .int .i64 0] w fun e w' => e = .returned (.slice (some ⟨w.heap.size, 0, none⟩) 0 0) ∧ RowI w' w.heap.size [] ∧ Below w.heap.size w w' := by
  obtain ⟨b, off, cap, rfl, c0⟩ := hv.cell (k := 0) (by simp)
  have hcl := cell_lt c0
  have HMU : Hid (Calls Try.prog 64 #[.int .u64 1, .int .u64 0] w fun e w' => e = .returned (.tuple #[.int .u64 0, .int .u64 0]) ∧ w' = w) := Lib.hid (mul_any 0 w (by omega))
  have hmk : (Instr.makeSlice 33 (.int .i64 0) (.int .i64 0)).run Try.prog w = .ok (.slice (some ⟨w.heap.size, 0, none⟩) 0 0) (w.alloc (.cells (madeCells #[Value.int .i64 0] 0) 3)) := make_ints 0 (by omega) w
  have HR0 : Hid (RowI (w.alloc (.cells (madeCells #[Value.int .i64 0] 0) 3)) w.heap.size (fill x 0 0)) := Lib.hid (RowI.made w 0)
  have hB0 := (Below.refl w.heap.size w).alloc (Nat.le_refl _) (.cells (madeCells #[Value.int .i64 0] 0) 3)
  have HB0 := Lib.hid hB0
  have c1 := (hB0.cell (p := ⟨b, off + 0, none⟩) hcl).trans c0
  clear hv hB0
  generalize hg : w.heap.size = g at *
  generalize hw1 : w.alloc (.cells (madeCells #[Value.int .i64 0] 0) 3) = w1 at *
  have HG := Lib.hid hg
  have hc1 := fun ty => copy_fill w1 ty g 0 0 x b off [x].length cap 0 HR0.out (by omega) (by simp) (fun j hj => by omega)
  have HC1 := Lib.hid hc1
  clear hg hw1 c0 c1 hcl hc1
  go_enter Try.func51, Try.ntmps51
  go_wp2_with fail
  refine HMU.out.mono ?_
  rintro e w' ⟨rfl, rfl⟩
  obtain ⟨cs, hr, hR1⟩ := HC1.out 3
  have HR1 := Lib.hid hR1
  have HB1 : Hid (Below g w' (w1.setRow g cs)) := Lib.hid (below_setRow HB0.out (Nat.le_refl _) cs)
  have hr2 : (Builtin.copy_ #[33, 33] 3 #[.slice (some ⟨g, 0, none⟩) 0 0, .slice (some ⟨b, off, none⟩) 1 cap]).run Try.prog w1 = .ok (.int .i64 0) (w1.setRow g cs) := hr
  clear hr hR1
  go_wp2_with fail
  generalize w1.setRow g cs = w2 at *
  clear hr2
  go_loopw [8] (fun vk wr => vk = .int .i64 0 ∧ wr = w2) (fun vk _ => 0)
  case atStart => exact ⟨rfl, rfl⟩
  case round =>
    obtain ⟨rfl, rfl⟩ := hrel
    go_wp2_with fail
    go_ret
    exact ⟨rfl, HR1.out, HB1.out⟩
/-- Ranks of the places P, among N. -/
def RkP (N : Nat) (P : List Nat) (L : List Int) : Prop := P.Nodup ∧ (∀ x ∈ P, x < N) ∧ L.length = N ∧ ∀ p, p < N → L.getD p 0 = if p ∈ P then (P.idxOf p : Int) else -1
theorem RkP.start (N : Nat) : RkP N [] (List.replicate N (-1)) := ⟨List.nodup_nil, by simp, by simp, fun p hp => by simp [List.getD_eq_getElem?_getD, hp]⟩
theorem RkP.next {N : Nat} {P : List Nat} {L : List Int} {x : Nat} (h : RkP N P L) (hx : x < N) (hn : L.getD x 0 = -1) : RkP N (P ++ [x]) (L.set x (P.length : Int)) := by
  obtain ⟨h1, h2, h3, h4⟩ := h
  have hxP : x ∉ P := fun hm => by
    have := h4 x hx
    rw [if_pos hm, hn] at this
    omega
  refine ⟨?_, ?_, by rw [List.length_set, h3], fun p hp => ?_⟩
  · rw [List.nodup_append]
    exact ⟨h1, by simp, fun a ha b hb => by
      rw [List.mem_singleton] at hb
      subst hb
      rintro rfl
      exact hxP ha⟩
  · intro y hy
    rcases List.mem_append.1 hy with hy | hy
    · exact h2 y hy
    · rw [List.mem_singleton] at hy; rw [hy]; exact hx
  · rw [List.getD_eq_getElem?_getD, List.getElem?_set]
    by_cases e : x = p
    · subst e
      rw [if_pos rfl, if_pos (by rw [h3]; exact hx), if_pos (by simp), List.idxOf_append, if_neg hxP]
      simp
    · rw [if_neg e, ← List.getD_eq_getElem?_getD, h4 p hp, List.idxOf_append]
      by_cases hm : p ∈ P
      · rw [if_pos hm, if_pos (List.mem_append_left _ hm), if_pos hm]
      · rw [if_neg hm, if_neg (by simp [hm]; exact fun h => e h.symm)]
theorem RkP.some {N : Nat} {P : List Nat} {L : List Int} {x : Nat} (h : RkP N P L) (hx : x < N) (hn : L.getD x 0 ≠ -1) : x ∈ P := by
  by_cases hm : x ∈ P
  · exact hm
  · exact absurd (by rw [h.2.2.2 x hx, if_neg hm]) hn
theorem RkP.rank {N : Nat} {P : List Nat} {L : List Int} (h : RkP N P L) (hl : P.length = N) {j : Nat} (hj : j < N) : L.getD (P.getD j 0) 0 = (j : Int) := by
  have hj2 : j < P.length := by omega
  have e : P.getD j 0 = P[j] := by rw [List.getD_eq_getElem?_getD, List.getElem?_eq_getElem hj2]; rfl
  rw [e, h.2.2.2 _ (h.2.1 _ (List.getElem_mem hj2)), if_pos (List.getElem_mem hj2), h.1.idxOf_getElem]
theorem RkP.perm {N : Nat} {P : List Nat} {L : List Int} (h : RkP N P L) (hl : P.length = N) : P.Perm (List.range N) := perm_range N P h.1 h.2.1 hl
theorem RkP.in {N : Nat} {P : List Nat} {L : List Int} (h : RkP N P L) (hl : P.length = N) {p : Nat} (hp : p < N) : 0 ≤ L.getD p 0 ∧ L.getD p 0 < (N : Int) := by
  have hm : p ∈ P := (h.perm hl).mem_iff.2 (List.mem_range.2 hp)
  rw [h.2.2.2 p hp, if_pos hm]
  have := List.idxOf_lt_length_of_mem hm
  omega
theorem RkP.ranks {N : Nat} {P : List Nat} {L : List Int} (h : RkP N P L) (hl : P.length = N) : Ranks N (fun j => P.getD j 0) (fun i => (L.getD i 0).toNat) := ranks_of (h.perm hl) (fun j hj => by rw [h.rank hl hj]; rfl)
/-- No order of N places. -/
def NoPerm (zs : List Int) (N : Nat) : Prop := ¬ ∃ P : List Nat, P.Perm (List.range N) ∧ zs = toI P
/-- What ranked tells. -/
def RankedP (w w' : World) (zs : List Int) (N : Nat) (e : Ending) : Prop :=
  (e = .returned (.tuple #[.slice none 0 0, .bool false]) ∧ NoPerm zs N) ∨
      ∃ g P L, e = .returned (.tuple #[.slice (some ⟨g, 0, none⟩) N N, .bool true]) ∧ w.heap.size ≤ g ∧ RowI w' g L ∧ RkP N P L ∧ P.length = N ∧ zs = toI P
/-- Such rows are no order. -/
theorem not_perm_far {zs : List Int} {N j : Nat} (hj : j < zs.length) (h : zs.getD j 0 < 0 ∨ (N : Int) ≤ zs.getD j 0) : NoPerm zs N := by
  rintro ⟨P, hP, rfl⟩
  rw [toI_length] at hj
  rw [toI_getD] at h
  have := perm_getD hP (j := j) (by rw [← perm_len hP]; exact hj)
  omega
theorem not_perm_twice {zs : List Int} {N j x : Nat} {P : List Nat} (hj : j < zs.length) (ht : zs.take j = toI P) (hx : zs.getD j 0 = (x : Int)) (hm : x ∈ P) : NoPerm zs N := by
  rintro ⟨Q, hQ, rfl⟩
  rw [toI_length] at hj
  rw [toI_getD] at hx
  have e : Q.take j = P := toI_inj.1 (by rw [← ht]; unfold toI; rw [List.map_take])
  have hd : Q.Nodup := hQ.nodup_iff.2 List.nodup_range
  rw [← e] at hm
  have hxe : Q.getD j 0 = x := by omega
  rw [List.getD_eq_getElem?_getD, List.getElem?_eq_getElem hj] at hxe
  rw [← List.take_append_drop j Q, List.nodup_append] at hd
  exact hd.2.2 x hm x (by rw [List.drop_eq_getElem_cons hj]; exact hxe ▸ List.mem_cons_self ..) rfl
set_option maxRecDepth 100000 in
set_option maxHeartbeats 4000000 in
theorem ranked_any (v : Value) (zs : List Int) (w : World) (hv : IsInts w v zs) (hz : zs.length ≤ 1000) :
    Calls Try.prog 40 #[v] w fun e w' => RankedP w w' zs zs.length e ∧ Below w.heap.size w w' := by
  have HV := Lib.hid hv
  obtain ⟨va, vc, rfl, _⟩ := hv
  obtain ⟨N, hN⟩ : ∃ N, zs.length = N := ⟨_, rfl⟩
  have HN := Lib.hid hN
  rw [hN] at hz HV ⊢
  have HB0 : Hid (Below w.heap.size w (w.alloc (.cells #[.int .i64 (-1)] 3))) := Lib.hid ((Below.refl _ _).alloc (Nat.le_refl _) _)
  have HL0 : Hid (IsInts (w.alloc (.cells #[.int .i64 (-1)] 3)) (.slice (some ⟨w.heap.size, 0, none⟩) 1 1) [-1]) := Lib.hid (by
    refine ⟨some ⟨w.heap.size, 0, none⟩, 1, rfl, fun i x hx => ?_⟩
    rcases i with _ | i
    · simp at hx
      subst hx
      exact ⟨_, _, rfl, by rw [cell_of_row _ _ 0 _ _ _ (heap_alloc_new _ _)]; rfl⟩
    · simp at hx)
  have HRP : Hid (Calls Try.prog 51 #[.slice (some ⟨w.heap.size, 0, none⟩) 1 1, .int .i64 (N : Int)] (w.alloc (.cells #[.int .i64 (-1)] 3)) fun e w' => e = .returned (.slice (some ⟨(w.alloc (.cells #[.int .i64 (-1)] 3)).heap.size, 0, none⟩) N N) ∧ RowI w' (w.alloc (.cells #[.int .i64 (-1)] 3)).heap.size (List.replicate N (-1)) ∧ Below (w.alloc (.cells #[.int .i64 (-1)] 3)).heap.size (w.alloc (.cells #[.int .i64 (-1)] 3)) w') := Lib.hid (by
    by_cases h0 : N = 0
    · subst h0
      exact repeat_zero _ (-1) _ HL0.out
    · exact repeat_any _ (-1) N _ HL0.out (by omega) hz)
  obtain ⟨g, hg⟩ : ∃ g, (w.alloc (.cells #[.int .i64 (-1)] 3)).heap.size = g := ⟨_, rfl⟩
  have HG : Hid (w.heap.size ≤ g) := Lib.hid (by rw [← hg]; exact HB0.out.size)
  rw [hg] at HRP
  have hgs := hg
  clear hg
  go_enter Try.func40, Try.ntmps40
  go_wp2_with fail
  refine HRP.out.mono ?_
  rintro e w1 ⟨rfl, hR1, hB1⟩
  have HR1 := Lib.hid hR1
  have HB1 : Hid (Below w.heap.size w w1) := Lib.hid (HB0.out.trans (by
    have h2 := hB1
    rw [← hgs] at h2
    exact h2.mono HB0.out.size))
  clear hR1 hB1 hgs
  go_wp2_with fail
  go_loopw [13] (fun vj wr => ∃ (j : Nat) (P : List Nat) (L : List Int), vj = .int .i64 (j : Int) ∧ j ≤ N ∧ P.length = j ∧ zs.take j = toI P ∧ RkP N P L ∧ RowI wr g L ∧ Below w.heap.size w wr) (fun vj _ => N - (intOf vj).toNat)
  case atStart => exact ⟨0, [], _, rfl, by omega, rfl, rfl, RkP.start N, HR1.out, HB1.out⟩
  case round =>
    clear HR1 HB1 HRP
    obtain ⟨j, P, L, rfl, hj, hPl, hPt, hK, hR, hB⟩ := hrel
    have HPT := Lib.hid hPt
    have HK := Lib.hid hK
    have HR := Lib.hid hR
    have HB := Lib.hid hB
    have hLl := hK.2.2.1
    have HPL := Lib.hid hPl
    clear hPt hK hR hB hPl
    by_cases hjN : j < N
    · have hji : (j : Int) < (N : Int) := by omega
      have HVj := Lib.hid (HV.out.below (zs := zs) HB.out)
      obtain ⟨b1, o1, k1, he1, c1⟩ := HVj.out.cell (show j < zs.length by rw [HN.out]; exact hjN)
      rw [HN.out] at he1
      simp only [Value.slice.injEq] at he1
      obtain ⟨rfl, _, rfl⟩ := he1
      have HNF := Lib.hid (fun h => not_perm_far (zs := zs) (N := N) (j := j) (by rw [HN.out]; exact hjN) h)
      have HNT := Lib.hid (fun x h1 h2 => not_perm_twice (zs := zs) (N := N) (j := j) (x := x) (by rw [HN.out]; exact hjN) HPT.out h1 h2)
      have htk : zs.take (j + 1) = zs.take j ++ [zs.getD j 0] := by
        have hjz : j < zs.length := by rw [HN.out]; exact hjN
        rw [List.getD_eq_getElem?_getD, List.getElem?_eq_getElem hjz, List.take_succ_eq_append_getElem hjz]
        rfl
      obtain ⟨z, hz2⟩ : ∃ z, zs.getD j 0 = z := ⟨_, rfl⟩
      rw [hz2] at c1 HNF HNT htk
      have HTK := Lib.hid htk
      clear htk hz2
      by_cases hz0 : z < 0
      · have HF := Lib.hid (HNF.out (Or.inl hz0))
        go_wp2_with fail
        go_ret2
        exact ⟨Or.inl ⟨rfl, HF.out⟩, HB.out⟩
      · by_cases hzN : z ≥ (N : Int)
        · have HF := Lib.hid (HNF.out (Or.inr hzN))
          go_wp2_with fail
          go_ret2
          exact ⟨Or.inl ⟨rfl, HF.out⟩, HB.out⟩
        · obtain ⟨x, rfl⟩ : ∃ x : Nat, z = (x : Int) := ⟨z.toNat, by omega⟩
          have hxN : x < N := by omega
          obtain ⟨c2, hfz, hset⟩ := HR.out.cell (i := x) (by rw [hLl]; exact hxN)
          have HNX := Lib.hid (fun h => HK.out.next hxN h)
          have HSM := Lib.hid (fun h => HK.out.some hxN h)
          obtain ⟨y, hy⟩ : ∃ y, L.getD x 0 = y := ⟨_, rfl⟩
          rw [hy] at c2 HNX HSM
          have HSET := Lib.hid hset
          clear hset hy
          by_cases hym : y = -1
          · subst hym
            have HK2 := HNX.out rfl
            rw [HPL.out] at HK2
            have HK2 := Lib.hid HK2
            have HR2 := Lib.hid (HSET.out (j : Int))
            have HB2 : Hid (Below w.heap.size w (wr.setCell ⟨g, x, none⟩ (.int .i64 (j : Int)))) := Lib.hid (HB.out.setCell (p := ⟨g, x, none⟩) HG.out _)
            clear HK2
            go_wp2_with fail
            go_roundw
            case rel => exact ⟨j + 1, P ++ [x], L.set x (j : Int), by go_num, by omega, by rw [List.length_append, HPL.out]; rfl, by rw [HTK.out, HPT.out, toI_app]; rfl, (by have := HNX.out rfl; rw [HPL.out] at this; exact this), HR2.out, HB2.out⟩
            case measure => simp [intOf]; omega
          · have hyb : (y != -1) = true := by rw [bne_iff_ne]; exact hym
            have HF := Lib.hid (HNT.out x rfl (HSM.out hym))
            go_wp2_with fail
            go_ret2
            exact ⟨Or.inl ⟨rfl, HF.out⟩, HB.out⟩
    · have hji : ¬ (j : Int) < (N : Int) := by omega
      obtain rfl : j = N := by omega
      have HZ : Hid (zs = toI P) := Lib.hid (by rw [← HPT.out, List.take_of_length_le (by rw [HN.out]; exact Nat.le_refl _)])
      go_wp2_with fail
      go_ret2
      exact ⟨Or.inr ⟨g, P, L, rfl, HG.out, HR.out, HK.out, HPL.out, HZ.out⟩, HB.out⟩
end Go.Proofs.Ythkiaddmgggbpaa
