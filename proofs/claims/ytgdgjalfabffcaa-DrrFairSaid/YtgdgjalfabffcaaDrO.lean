/-
  LAYER 30's STATEMENTS, with their arguments as a row has them: DrrNil, DrrFair.
-/
import Derived.Test.YtgdgjalfabffcaaDrN
namespace Go.Proofs.Ytgdgjalfabffcaa
open Go.RowKit
theorem drrNil.walk (o : Act7) (w : World) (h : o.Ok w) :
    Calls Try.prog 10 #[.agg o.cells.toArray] w fun e w' => e = .returned (.bool true) ∧ Below w.heap.size w w' := drrNil.main o w h
theorem drrFair.walk (q : Option Addr) (qlen qcap : Nat) (qz : List Int) (j : Option Addr) (jlen jcap : Nat) (jz : List Int) (b : Option Addr) (blen bcap : Nat) (bz : List Int) (w : World) (h0 : IsRow .i64 w q qlen qcap qz) (h1 : IsRow .i64 w j jlen jcap jz) (h2 : IsRow .i64 w b blen bcap bz) :
    Calls Try.prog 9 #[.slice q qlen qcap, .slice j jlen jcap, .slice b blen bcap] w fun e w' => e = .returned (.bool true) ∧ Below w.heap.size w w' := by
  obtain ⟨a0, a1⟩ := ints_in h0
  obtain ⟨b0, b1⟩ := ints_in h1
  obtain ⟨c0, c1⟩ := ints_in h2
  exact drrFair.main _ _ _ _ _ _ w a0 (by rw [a1]; exact Nat.le_trans (isRow_len h0).1 (isRow_len h0).2) b0 (by rw [b1]; exact Nat.le_trans (isRow_len h1).1 (isRow_len h1).2) c0 (by rw [c1]; exact Nat.le_trans (isRow_len h2).1 (isRow_len h2).2)
end Go.Proofs.Ytgdgjalfabffcaa
