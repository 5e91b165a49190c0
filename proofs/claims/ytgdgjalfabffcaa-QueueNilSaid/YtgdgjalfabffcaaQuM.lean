/-
  LAYER 29's STATEMENTS, with their arguments as a row has them.
-/
import Derived.Test.YtgdgjalfabffcaaQuL
namespace Go.Proofs.Ytgdgjalfabffcaa
open Go.RowKit
theorem queueActs.walk (lim : Int) (a : Option Addr) (len cap : Nat) (l : List Act2) (w : World) (_ : (Lit.int .i64 lim).wf = true) (h1 : IsActs2 w a len l) :
    Calls Try.prog 3 #[.int .i64 lim, .slice a len cap] w fun e w' => e = .returned (.bool true) ∧ Below w.heap.size w w' := queueActs.main lim a len cap l w h1
theorem queueOrder.walk (z : Option Addr) (zlen zcap : Nat) (zz : List Int) (w : World) (h0 : IsRow .i64 w z zlen zcap zz) :
    Calls Try.prog 4 #[.slice z zlen zcap] w fun e w' => e = .returned (.bool true) ∧ Below w.heap.size w w' := by
  obtain ⟨hI, hlen⟩ := ints_in h0
  exact queueOrder.main _ _ w hI (by rw [hlen]; exact Nat.le_trans (isRow_len h0).1 (isRow_len h0).2)
theorem queueRound.walk (z : Option Addr) (zlen zcap : Nat) (zz : List Int) (w : World) (h0 : IsRow .i64 w z zlen zcap zz) :
    Calls Try.prog 5 #[.slice z zlen zcap] w fun e w' => e = .returned (.bool true) ∧ Below w.heap.size w w' := by
  obtain ⟨hI, hlen⟩ := ints_in h0
  exact queueRound.main _ _ w hI (by rw [hlen]; exact Nat.le_trans (isRow_len h0).1 (isRow_len h0).2)
theorem queueNil.walk (n : Int) (w : World) (_ : (Lit.int .i64 n).wf = true) :
    Calls Try.prog 6 #[.int .i64 n] w fun e w' => e = .returned (.bool true) ∧ Below w.heap.size w w' := queueNil.main n w
end Go.Proofs.Ytgdgjalfabffcaa
