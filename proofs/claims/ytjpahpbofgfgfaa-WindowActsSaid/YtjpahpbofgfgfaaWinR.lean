/-
  LAYER 28's STATEMENTS, with their arguments as a row has them.
-/
import Derived.Test.YtjpahpbofgfgfaaWinQ
namespace Go.Proofs.Ytjpahpbofgfgfaa
open Go.RowKit
theorem windowHolds.walk (S : Int) (z : Option Addr) (zlen zcap : Nat) (zz : List Int) (a : Option Addr) (len cap : Nat) (l : List Act3) (w : World) (_ : (Lit.int .i64 S).wf = true) (h0 : IsRow .i64 w z zlen zcap zz) (h1 : IsActs3 w a len l) :
    Calls Try.prog 8 #[.int .i64 S, .slice z zlen zcap, .slice a len cap] w fun e w' => e = .returned (.bool true) ∧ Below w.heap.size w w' := by
  obtain ⟨hI, hlen⟩ := ints_in h0
  exact windowHolds.main S _ _ a len cap l w hI (by rw [hlen]; exact Nat.le_trans (isRow_len h0).1 (isRow_len h0).2) h1
theorem windowActs.walk (S : Int) (z : Option Addr) (zlen zcap : Nat) (zz : List Int) (a : Option Addr) (len cap : Nat) (l : List Act3) (w : World) (_ : (Lit.int .i64 S).wf = true) (h0 : IsRow .i64 w z zlen zcap zz) (h1 : IsActs3 w a len l) :
    Calls Try.prog 7 #[.int .i64 S, .slice z zlen zcap, .slice a len cap] w fun e w' => e = .returned (.bool true) ∧ Below w.heap.size w w' := by
  obtain ⟨hI, hlen⟩ := ints_in h0
  exact windowActs.main S _ _ a len cap l w hI (by rw [hlen]; exact Nat.le_trans (isRow_len h0).1 (isRow_len h0).2) h1
theorem windowApart.walk (q0 q1 : Int) (z : Option Addr) (zlen zcap : Nat) (zz : List Int) (a : Option Addr) (len cap : Nat) (l : List Act3) (w : World) (_ : (Lit.int .i64 q0).wf = true ∧ (Lit.int .i64 q1).wf = true) (h0 : IsRow .i64 w z zlen zcap zz) (h1 : IsActs3 w a len l) :
    Calls Try.prog 9 #[.agg #[.int .i64 q0, .int .i64 q1], .slice z zlen zcap, .slice a len cap] w fun e w' => e = .returned (.bool true) ∧ Below w.heap.size w w' := by
  obtain ⟨hI, hlen⟩ := ints_in h0
  exact windowApart.main q0 q1 _ _ a len cap l w hI (by rw [hlen]; exact Nat.le_trans (isRow_len h0).1 (isRow_len h0).2) h1
end Go.Proofs.Ytjpahpbofgfgfaa
