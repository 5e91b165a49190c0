/-
  A BLOCK WHOSE CELLS ARE TOLD BY A FUNCTION.
-/
import Derived.Test.YtgdgjalfabffcaaRow
namespace Go.Proofs.Ytgdgjalfabffcaa
open Go.RowKit
set_option linter.unusedVariables false
/-- One place told anew. -/
def upd (F : Nat → Value) (i : Nat) (v : Value) : Nat → Value := fun k => if k = i then v else F k
theorem upd_same (F : Nat → Value) (i : Nat) (v : Value) : upd F i v i = v := if_pos rfl
theorem upd_ne (F : Nat → Value) {i k : Nat} (v : Value) (h : k ≠ i) : upd F i v k = F k := if_neg h
def cellsF (M : Nat) (F : Nat → Value) : Array Value := ((List.range M).map F).toArray
theorem cellsF_get (M : Nat) (F : Nat → Value) {i : Nat} (hi : i < M) : (cellsF M F)[i]? = some (F i) := by
  unfold cellsF
  rw [List.getElem?_toArray, List.getElem?_map, List.getElem?_range hi]
  rfl
theorem cellsF_set (M : Nat) (F : Nat → Value) (i : Nat) (x : Value) : (cellsF M F).setIfInBounds i x = cellsF M (upd F i x) := by
  apply Array.toList_inj.1
  rw [Array.toList_setIfInBounds]
  show ((List.range M).map F).set i x = (List.range M).map (fun k => if k = i then x else F k)
  apply List.ext_getElem
  · simp
  · intro j h1 h2
    rw [List.getElem_set]
    by_cases e : i = j
    · subst e; simp
    · rw [if_neg e]
      have : ¬ j = i := fun h => e h.symm
      simp [this]
theorem wpList_build_one {P : Program} {ops : Array Oper} {rest : List Oper} {o : Oper} {a : Act} {w : World} {Q : Exit → Act → World → Prop} (hg : o.guard = none) (t : TypeId) (n : Nat) (y : Operand) (ho : o.op = .build t #[(n, y)]) (v : Value) (hy : a.eval y = v) (Z : Array Value)
    (hb : P.built t [(n, v)] = some Z) (h : wpList P ops Q rest (a.put o.dst (.agg Z)) w) : wpList P ops Q (o :: rest) a w := by
  subst hy
  refine wpList_build hg t #[(n, y)] ho ?_ ?_
  · simp [hb]
  · simpa [hb] using h
theorem wpList_build_is {P : Program} {ops : Array Oper} {rest : List Oper} {o : Oper} {a : Act} {w : World} {Q : Exit → Act → World → Prop} (hg : o.guard = none) (t : TypeId) (ho : o.op = .build t #[]) (Z : Array Value)
    (hb : P.built t [] = some Z) (h : wpList P ops Q rest (a.put o.dst (.agg Z)) w) : wpList P ops Q (o :: rest) a w := by
  refine wpList_build hg t #[] ho ?_ ?_
  · simp [hb]
  · simpa [hb] using h
end Go.Proofs.Ytgdgjalfabffcaa
