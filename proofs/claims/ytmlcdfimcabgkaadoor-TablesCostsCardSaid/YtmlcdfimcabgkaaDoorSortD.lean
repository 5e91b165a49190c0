/-
  THE WALKS OF THE LIBRARY's STABLE SORT (package slices), AT ROWS OF int: two parts side by side become one.
-/
import Derived.Test.YtmlcdfimcabgkaaDoorSortC
namespace Go.Proofs.YtmlcdfimcabgkaaDoor
open Go.RowKit SymM
set_option linter.unusedVariables false
theorem sym_left {w : Int → Int} {d : Row} {a s m e b : Nat} (h : Cut w d a s m e b) (hg : ¬ (a < s ∧ s < s + (e - m))) : Srt w (rot d s m e) a (s + (e - m)) := by
  obtain ⟨s1, s2, s3, s4⟩ := h.srt
  have := h.o1
  by_cases h1 : a < s
  · rw [show s + (e - m) = s by omega]; exact s1
  · rw [show a = s by omega]; exact s2
theorem sym_right {w : Int → Int} {d : Row} {a s m e b : Nat} (h : Cut w d a s m e b) (hg : ¬ (s + (e - m) < e ∧ e < b)) : Srt w (rot d s m e) (s + (e - m)) b := by
  obtain ⟨s1, s2, s3, s4⟩ := h.srt
  have := h.o2
  have := h.o3
  have := h.o4
  by_cases h1 : s + (e - m) < e
  · rw [show b = e by omega]; exact s3
  · rw [show s + (e - m) = e by omega]; exact s4
section
variable {F : FuncId} {caps : Array Value} {g n : Nat} {wt : Int → Int} {I : World → Prop}
/-- What two parts side by side ask. -/
structure MerP (wt : Int → Int) (g n : Nat) (I : World → Prop) (d : Row) (a m b : Nat) (w : World) : Prop where
  row : RowD w g n d
  inv : I w
  rng : Rng n d
  sl : Srt wt d a m
  sr : Srt wt d m b
  low : Low d a m b
theorem left_ok (hC : CmpF F caps g n wt I) {d : Row} {a s m e b : Nat} {w : World} (h : Cut wt d a s m e b) (hr : Rng n d) (hb : b ≤ n) (hR : RowD w g n (rot d s m e)) (hI : I w) : MerP wt g n I (rot d s m e) a s (s + (e - m)) w := by
  obtain ⟨s1, s2, s3, s4⟩ := h.srt
  exact ⟨hR, hI, hr.pm (rot_pm d h.o2 h.o3) (by have := h.o4; omega), s1, s2, h.low1⟩
theorem right_ok (hC : CmpF F caps g n wt I) {d D : Row} {a s m e b : Nat} {w : World} (h : Cut wt d a s m e b) (hr : Rng n d) (hb : b ≤ n) (hp : Pm (rot d s m e) D a (s + (e - m))) (hR : RowD w g n D) (hI : I w) : MerP wt g n I D (s + (e - m)) e b w := by
  obtain ⟨s1, s2, s3, s4⟩ := h.srt
  have o2 := h.o2
  have o3 := h.o3
  have o4 := h.o4
  have l2 := h.low2
  refine ⟨hR, hI, (hr.pm (rot_pm d o2 o3) (by omega)).pm hp (by omega), ?_, ?_, ?_⟩
  · intro i j hi hij hj; rw [hp.out i (by omega), hp.out j (by omega)]; exact s3 i j hi hij hj
  · intro i j hi hij hj; rw [hp.out i (by omega), hp.out j (by omega)]; exact s4 i j hi hij hj
  · intro i j hi hij hj hjb; rw [hp.out i (by omega), hp.out j (by omega)]; exact l2 i j hi hij hj hjb
/-- The row behind the first half. -/
def LeftP (wt : Int → Int) (g n : Nat) (d : Row) (a s m e : Nat) (w w' : World) : Prop := (∃ D, RowD w' g n D ∧ Pm (rot d s m e) D a (s + (e - m)) ∧ Srt wt D a (s + (e - m))) ∧ Touch (· = g) w w'
theorem left_end {d : Row} {a s m e b : Nat} {w w' : World} (h : Cut wt d a s m e b) (hL : LeftP wt g n d a s m e w w') (hg : ¬ (s + (e - m) < e ∧ e < b)) : SrtP wt g n d a b w w' := by
  obtain ⟨⟨D, hR, hp, hs⟩, hT⟩ := hL
  have o2 := h.o2
  have o3 := h.o3
  have hr := sym_right h hg
  obtain ⟨p, q⟩ := cut_merge h hp (Pm.refl D _ b) hs (by
    intro i j hi hij hj
    rw [hp.out i (by omega), hp.out j (by omega)]
    exact hr i j hi hij hj)
  exact ⟨⟨D, hR, p, q⟩, hT⟩
theorem right_end {d D : Row} {a s m e b : Nat} {w w1 w' : World} (h : Cut wt d a s m e b) (hp : Pm (rot d s m e) D a (s + (e - m))) (hs : Srt wt D a (s + (e - m))) (hT : Touch (· = g) w w1) (hS : SrtP wt g n D (s + (e - m)) b w1 w') : SrtP wt g n d a b w w' := by
  obtain ⟨⟨D3, hR3, hp3, hs3⟩, hT3⟩ := hS
  obtain ⟨p, q⟩ := cut_merge h hp hp3 hs hs3
  exact ⟨⟨D3, hR3, p, q⟩, hT.trans hT3 (fun i hi => Or.inl hi)⟩
end
end Go.Proofs.YtmlcdfimcabgkaaDoor
