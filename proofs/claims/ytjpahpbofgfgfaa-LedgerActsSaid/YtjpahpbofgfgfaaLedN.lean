/-
  LAYER 27's STATEMENTS, with their arguments as a row has them.
-/
import Derived.Test.YtjpahpbofgfgfaaLedM
namespace Go.Proofs.Ytjpahpbofgfgfaa
open Go.RowKit
theorem ledgerHolds.walk (z : Option Addr) (zlen zcap : Nat) (zz : List Int) (a : Option Addr) (len cap : Nat) (l : List Act3) (w : World) (h0 : IsRow .i64 w z zlen zcap zz) (h1 : IsActs3 w a len l) :
    Calls Try.prog 4 #[.slice z zlen zcap, .slice a len cap] w fun e w' => e = .returned (.bool true) ∧ Below w.heap.size w w' := by
  obtain ⟨hI, hlen⟩ := ints_in h0
  exact ledgerHolds.main _ _ a len cap l w hI (by rw [hlen]; exact Nat.le_trans (isRow_len h0).1 (isRow_len h0).2) h1
theorem ledgerApart.walk (z : Option Addr) (zlen zcap : Nat) (zz : List Int) (a : Option Addr) (len cap : Nat) (l : List Act3) (t : Int) (w : World) (h0 : IsRow .i64 w z zlen zcap zz) (h1 : IsActs3 w a len l) (_ : (Lit.int .i64 t).wf = true) :
    Calls Try.prog 5 #[.slice z zlen zcap, .slice a len cap, .int .i64 t] w fun e w' => e = .returned (.bool true) ∧ Below w.heap.size w w' := by
  obtain ⟨hI, hlen⟩ := ints_in h0
  exact ledgerApart.main _ _ a len cap l t w hI (by rw [hlen]; exact Nat.le_trans (isRow_len h0).1 (isRow_len h0).2) h1
theorem ledgerActs.walk (z : Option Addr) (zlen zcap : Nat) (zz : List Int) (a : Option Addr) (len cap : Nat) (l : List Act3) (w : World) (h0 : IsRow .i64 w z zlen zcap zz) (h1 : IsActs3 w a len l) :
    Calls Try.prog 3 #[.slice z zlen zcap, .slice a len cap] w fun e w' => e = .returned (.bool true) ∧ Below w.heap.size w w' := by
  obtain ⟨hI, hlen⟩ := ints_in h0
  exact ledgerActs.main _ _ a len cap l w hI (by rw [hlen]; exact Nat.le_trans (isRow_len h0).1 (isRow_len h0).2) h1
theorem ledgerNil.walk (T x : Int) (w : World) (_ : (Lit.int .i64 T).wf = true) (_ : (Lit.int .i64 x).wf = true) :
    Calls Try.prog 6 #[.int .i64 T, .int .i64 x] w fun e w' => e = .returned (.bool true) ∧ Below w.heap.size w w' := ledgerNil.main T x w
end Go.Proofs.Ytjpahpbofgfgfaa
