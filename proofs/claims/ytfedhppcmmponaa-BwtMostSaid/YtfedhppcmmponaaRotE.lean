/-
  THE WALKS OF LAYER 15's CODE (package rotate): where each place stands (ranked).
-/
import Derived.Test.YtfedhppcmmponaaRotC
import Derived.Test.YtfedhppcmmponaaRotD
import Derived.Test.YtfedhppcmmponaaRepeat
namespace Go.Proofs.Ytfedhppcmmponaa
open Go.RowKit BwtM PkM
set_option linter.unusedVariables false
/-- Ranks of the places P, among N. -/
def RkP (N : Nat) (P : List Nat) (L : List Int) : Prop := P.Nodup ∧ (∀ x ∈ P, x < N) ∧ L.length = N ∧ ∀ p, p < N → L.getD p 0 = if p ∈ P then (P.idxOf p : Int) else -1
theorem RkP.start (N : Nat) : RkP N [] (List.replicate N (-1)) := ⟨List.nodup_nil, by simp, by simp, fun p hp => by simp [List.getD_eq_getElem?_getD, hp]⟩
theorem RkP.next {N : Nat} {P : List Nat} {L : List Int} {x : Nat} (h : RkP N P L) (hx : x < N) (hn : L.getD x 0 = -1) : RkP N (P ++ [x]) (L.set x (P.length : Int)) := by
  obtain ⟨h1, h2, h3, h4⟩ := h
  have hxP : x ∉ P := fun hm => by
    have := h4 x hx
    rw [if_pos hm, hn] at this
    omega
  refine ⟨?_, ?_, by rw [List.length_set, h3], fun p hp => ?_⟩
  · rw [List.nodup_append]
    exact ⟨h1, by simp, fun a ha b hb => by
      rw [List.mem_singleton] at hb
      subst hb
      rintro rfl
      exact hxP ha⟩
  · intro y hy
    rcases List.mem_append.1 hy with hy | hy
    · exact h2 y hy
    · rw [List.mem_singleton] at hy; rw [hy]; exact hx
  · rw [List.getD_eq_getElem?_getD, List.getElem?_set]
    by_cases e : x = p
    · subst e
      rw [if_pos rfl, if_pos (by rw [h3]; exact hx), if_pos (by simp), List.idxOf_append, if_neg hxP]
      simp
    · rw [if_neg e, ← List.getD_eq_getElem?_getD, h4 p hp, List.idxOf_append]
      by_cases hm : p ∈ P
      · rw [if_pos hm, if_pos (List.mem_append_left _ hm), if_pos hm]
      · rw [if_neg hm, if_neg (by simp [hm]; exact fun h => e h.symm)]
theorem RkP.some {N : Nat} {P : List Nat} {L : List Int} {x : Nat} (h : RkP N P L) (hx : x < N) (hn : L.getD x 0 ≠ -1) : x ∈ P := by
  by_cases hm : x ∈ P
  · exact hm
  · exact absurd (by rw [h.2.2.2 x hx, if_neg hm]) hn
theorem RkP.rank {N : Nat} {P : List Nat} {L : List Int} (h : RkP N P L) (hl : P.length = N) {j : Nat} (hj : j < N) : L.getD (P.getD j 0) 0 = (j : Int) := by
  have hj2 : j < P.length := by omega
  have e : P.getD j 0 = P[j] := by rw [List.getD_eq_getElem?_getD, List.getElem?_eq_getElem hj2]; rfl
  rw [e, h.2.2.2 _ (h.2.1 _ (List.getElem_mem hj2)), if_pos (List.getElem_mem hj2), h.1.idxOf_getElem]
theorem RkP.perm {N : Nat} {P : List Nat} {L : List Int} (h : RkP N P L) (hl : P.length = N) : P.Perm (List.range N) := perm_range N P h.1 h.2.1 hl
theorem RkP.in {N : Nat} {P : List Nat} {L : List Int} (h : RkP N P L) (hl : P.length = N) {p : Nat} (hp : p < N) : 0 ≤ L.getD p 0 ∧ L.getD p 0 < (N : Int) := by
  have hm : p ∈ P := (h.perm hl).mem_iff.2 (List.mem_range.2 hp)
  rw [h.2.2.2 p hp, if_pos hm]
  have := List.idxOf_lt_length_of_mem hm
  omega
theorem RkP.ranks {N : Nat} {P : List Nat} {L : List Int} (h : RkP N P L) (hl : P.length = N) : Ranks N (fun j => P.getD j 0) (fun i => (L.getD i 0).toNat) := ranks_of (h.perm hl) (fun j hj => by rw [h.rank hl hj]; rfl)
/-- No order of N places. -/
def NoPerm (zs : List Int) (N : Nat) : Prop := ¬ ∃ P : List Nat, P.Perm (List.range N) ∧ zs = toI P
/-- What ranked tells. -/
def RankedP (w w' : World) (zs : List Int) (N : Nat) (e : Ending) : Prop :=
  (e = .returned (.tuple #[.slice none 0 0, .bool false]) ∧ NoPerm zs N) ∨
      ∃ g P L, e = .returned (.tuple #[.slice (some ⟨g, 0, none⟩) N N, .bool true]) ∧ w.heap.size ≤ g ∧ RowI w' g L ∧ RkP N P L ∧ P.length = N ∧ zs = toI P
/-- Such rows are no order. -/
theorem not_perm_far {zs : List Int} {N j : Nat} (hj : j < zs.length) (h : zs.getD j 0 < 0 ∨ (N : Int) ≤ zs.getD j 0) : NoPerm zs N := by
  rintro ⟨P, hP, rfl⟩
  rw [toI_length] at hj
  rw [toI_getD] at h
  have := perm_getD hP (j := j) (by rw [← perm_len hP]; exact hj)
  omega
theorem not_perm_twice {zs : List Int} {N j x : Nat} {P : List Nat} (hj : j < zs.length) (ht : zs.take j = toI P) (hx : zs.getD j 0 = (x : Int)) (hm : x ∈ P) : NoPerm zs N := by
  rintro ⟨Q, hQ, rfl⟩
  rw [toI_length] at hj
  rw [toI_getD] at hx
  have e : Q.take j = P := toI_inj.1 (by rw [← ht]; unfold toI; rw [List.map_take])
  have hd : Q.Nodup := hQ.nodup_iff.2 List.nodup_range
  rw [← e] at hm
  have hxe : Q.getD j 0 = x := by omega
  rw [List.getD_eq_getElem?_getD, List.getElem?_eq_getElem hj] at hxe
  rw [← List.take_append_drop j Q, List.nodup_append] at hd
  exact hd.2.2 x hm x (by rw [List.drop_eq_getElem_cons hj]; exact hxe ▸ List.mem_cons_self ..) rfl
end Go.Proofs.Ytfedhppcmmponaa
