/-
  LAYER 8's STATEMENTS: the three symbols that each of them tries; FreqCounts, FreqCosts.
-/
import Derived.Test.YtmlcdfimcabgkaaDoorFreqD
namespace Go.Proofs.YtmlcdfimcabgkaaDoor
open Go.RowKit FreqM
set_option linter.unusedVariables false
theorem CntP.ok {l : List Int} {n : Int} {zs : List Int} {err : Nat} (h : CntP l n zs err) (hk : CntOk l n) : zs = counts l n.toNat ∧ err = 0 := by
  rcases h with ⟨h1, _⟩ | ⟨_, h1, h2⟩
  · exact absurd hk h1
  · exact ⟨h1, h2⟩
theorem CntP.no {l : List Int} {n : Int} {zs : List Int} {err : Nat} (h : CntP l n zs err) (hk : ¬ CntOk l n) : zs = [] ∧ err = 1 := by
  rcases h with ⟨_, h1, h2⟩ | ⟨h1, _⟩
  · exact ⟨h1, h2⟩
  · exact absurd h1 hk
theorem CostP.ok {l ls : List Int} {n : Int} {err : Nat} (h : CostP l ls n err) (hk : CostOk l ls) : n = FreqM.cap (costS l ls) ∧ err = 0 := by
  rcases h with ⟨h1, _⟩ | ⟨_, h1, h2⟩
  · exact absurd hk h1
  · exact ⟨h1, h2⟩
theorem CostP.no {l ls : List Int} {n : Int} {err : Nat} (h : CostP l ls n err) (hk : ¬ CostOk l ls) : n = 0 ∧ err = 1 := by
  rcases h with ⟨_, h1, h2⟩ | ⟨h1, _⟩
  · exact ⟨h1, h2⟩
  · exact absurd h1 hk
theorem AddP.ok {a b : List Int} {zs : List Int} {err : Nat} (h : AddP a b zs err) (hk : AddOk a b) : zs = adds a b ∧ err = 0 := by
  rcases h with ⟨h1, _⟩ | ⟨_, h1, h2⟩
  · exact absurd hk h1
  · exact ⟨h1, h2⟩
theorem AddP.no {a b : List Int} {zs : List Int} {err : Nat} (h : AddP a b zs err) (hk : ¬ AddOk a b) : zs = [] ∧ err = 1 := by
  rcases h with ⟨_, h1, h2⟩ | ⟨h1, _⟩
  · exact ⟨h1, h2⟩
  · exact absurd h1 hk
theorem ints_at8 (w : World) (zs : List Int) (N : Nat) (hN : N = zs.length) : IsInts (w.alloc (.cells (zs.map iv64).toArray 3)) (.slice (some ⟨w.heap.size, 0, none⟩) N N) zs :=
  ints_of_row (rest := []) (by rw [List.append_nil]; exact heap_alloc_new w _) hN
theorem ints_two (w : World) : IsInts ((w.alloc (.cells (([0, 2, 2] : List Int).map iv64).toArray 3)).alloc (.cells (([5, 1, 2] : List Int).map iv64).toArray 3)) (.slice (some ⟨w.heap.size + 1, 0, none⟩) 3 3) [5, 1, 2] := by
  have h := ints_at8 (w.alloc (.cells (([0, 2, 2] : List Int).map iv64).toArray 3)) [5, 1, 2] 3 rfl
  rw [show (w.alloc (.cells (([0, 2, 2] : List Int).map iv64).toArray 3)).heap.size = w.heap.size + 1 from by simp] at h
  exact h
theorem cnt_three {zs : List Int} {err : Nat} (h : CntP [0, 2, 2] 3 zs err) : zs = [1, 0, 2] ∧ err = 0 := by
  have hk : CntOk [0, 2, 2] 3 := ⟨by decide, by decide, by unfold Syms; decide⟩
  obtain ⟨h1, h2⟩ := h.ok hk
  exact ⟨h1.trans (by decide), h2⟩
theorem cost_three {n : Int} {err : Nat} (h : CostP [0, 2, 2] [5, 1, 2] n err) : n = 9 ∧ err = 0 := by
  have hk : CostOk [0, 2, 2] [5, 1, 2] := ⟨by unfold Syms; decide, by unfold Nums; decide⟩
  obtain ⟨h1, h2⟩ := h.ok hk
  exact ⟨h1.trans (by decide), h2⟩
theorem tot_three : tot [3, -1, 4] = 7 := by decide
theorem gn_51 : gn 51 = 2 := by decide
end Go.Proofs.YtmlcdfimcabgkaaDoor
