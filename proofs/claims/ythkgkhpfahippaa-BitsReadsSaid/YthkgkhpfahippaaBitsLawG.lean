/-
  LAYER 1's STATEMENTS: what an operation makes of a reader (1.2, 1.3).
-/
import Derived.Test.YthkgkhpfahippaaBitsLawF
import Derived.Test.YthkgkhpfahippaaBitsLawC
import Derived.Test.YthkgkhpfahippaaBitsRef
namespace Go.Proofs.Ythkgkhpfahippaa
open Go.RowKit BitM
set_option linter.unusedVariables false
/-- Three blocks that were laid stand as they were. -/
theorem boxes {w w' : World} {S : Nat → Prop} {cs ds es : Array Value} {t u t' : TypeId} (h : Touch S (((w.alloc (.cells cs t)).alloc (.cells ds u)).alloc (.cells es t')) w') (hS : ∀ k, S k → k < w.heap.size) :
    w'.heap[w.heap.size]? = some (.cells cs t) ∧ w'.heap[w.heap.size + 1]? = some (.cells ds u) ∧ w'.heap[w.heap.size + 1 + 1]? = some (.cells es t') := by
  have hz : ∀ k, k < w.heap.size + 3 → k < (((w.alloc (.cells cs t)).alloc (.cells ds u)).alloc (.cells es t')).heap.size := fun k hk => by
    show k < (((w.heap.push _).push _).push _).size
    simp; omega
  refine ⟨(h.block _ (hz _ (by omega)) (fun e => Nat.lt_irrefl _ (hS _ e))).trans ?_, (h.block _ (hz _ (by omega)) (fun e => by have := hS _ e; omega)).trans ?_, (h.block _ (hz _ (by omega)) (fun e => by have := hS _ e; omega)).trans ?_⟩
  · exact (heap_alloc_old _ _ (by show w.heap.size < ((w.heap.push _).push _).size; simp; omega)).trans ((heap_alloc_old _ _ (by show w.heap.size < (w.heap.push _).size; simp)).trans (heap_alloc_new w _))
  · exact (heap_alloc_old _ _ (by show w.heap.size + 1 < ((w.heap.push _).push _).size; simp)).trans (heap_alloc2_new w _ _)
  · have e : ((w.alloc (.cells cs t)).alloc (.cells ds u)).heap.size = w.heap.size + 1 + 1 := by show ((w.heap.push _).push _).size = _; simp
    have := heap_alloc_new ((w.alloc (.cells cs t)).alloc (.cells ds u)) (.cells es t')
    rw [e] at this
    exact this
end Go.Proofs.Ythkgkhpfahippaa
