/-
  A struct literal of three cells, as a step of a walk.
-/
import Derived.Test.YtnachbjhhpnadaaGreatDoorCells
namespace Go.Proofs.YtnachbjhhpnadaaGreatDoor
open Go.RowKit
set_option linter.unusedVariables false
theorem wpList_build_three {P : Program} {ops : Array Oper} {rest : List Oper} {o : Oper} {a : Act} {w : World} {Q : Exit → Act → World → Prop} (hg : o.guard = none) (t : TypeId) (n m k : Nat) (y z x : Operand) (ho : o.op = .build t #[(n, y), (m, z), (k, x)]) (v u r : Value) (hy : a.eval y = v) (hz : a.eval z = u) (hx : a.eval x = r) (Z : Array Value)
    (hb : P.built t [(n, v), (m, u), (k, r)] = some Z) (h : wpList P ops Q rest (a.put o.dst (.agg Z)) w) : wpList P ops Q (o :: rest) a w := by
  subst hy hz hx
  refine wpList_build hg t #[(n, y), (m, z), (k, x)] ho ?_ ?_
  · simp [hb]
  · simpa [hb] using h
end Go.Proofs.YtnachbjhhpnadaaGreatDoor
