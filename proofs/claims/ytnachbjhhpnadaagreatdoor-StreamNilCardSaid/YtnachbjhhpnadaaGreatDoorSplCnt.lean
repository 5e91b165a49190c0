/-
  LAYER 19: how many blocks and pieces there are.
-/
import Derived.Test.YtnachbjhhpnadaaGreatDoorSplMath
import Derived.Test.YtnachbjhhpnadaaGreatDoorRleRefB
namespace Go.Proofs.YtnachbjhhpnadaaGreatDoor
open Go.RowKit RleM SplM
set_option linter.unusedVariables false
theorem now_flat (room : Nat) (hr : 5 ≤ room) (QS : List Pc) : (flat (runS room QS).2).length ≤ (flat QS).length := by
  have h := (rightS room hr QS).all
  have e := congrArg (fun l => (flat l).length) h
  simp only [flat_append, List.length_append] at e
  omega
theorem bl_count : ∀ bs : List (List Pc), (∀ b ∈ bs, b ≠ []) → bs.length ≤ bs.flatten.length
  | [], _ => by simp
  | y :: ys, hh => by
    have h1 := bl_count ys (fun b hb => hh b (List.mem_cons_of_mem _ hb))
    have h2 := hh y (List.mem_cons_self ..)
    have h3 : 1 ≤ y.length := by
      cases y with
      | nil => exact absurd rfl h2
      | cons a r => simp
    simp only [List.flatten_cons, List.length_append, List.length_cons]
    omega
theorem pc_count : ∀ ps : List Pc, (∀ p ∈ ps, 1 ≤ p.2) → ps.length ≤ (flat ps).length
  | [], _ => by simp
  | y :: ys, hh => by
    have h1 := pc_count ys (fun b hb => hh b (List.mem_cons_of_mem _ hb))
    have h2 := hh y (List.mem_cons_self ..)
    rw [flat_cons, List.length_append, List.length_replicate, List.length_cons]
    omega
theorem outs_le (room : Nat) (h5 : 5 ≤ room) {QS : List Pc} {N : Nat} (hg : RleM.Good QS) (hs : (flat QS).length ≤ N) : (runS room QS).1.length ≤ N := by
  have hR := rightS room h5 QS
  have e1 := bl_count _ (fun b hb => (hR.full b hb).1)
  have e2 := congrArg List.length hR.all
  rw [List.length_append] at e2
  have e3 := pc_count QS (fun p hp => (good_mem hg hp).1)
  omega
theorem flat_take_le (ps : List Pc) (k : Nat) : (flat (ps.take k)).length ≤ (flat ps).length := by
  conv => rhs; rw [← List.take_append_drop k ps]
  rw [flat_append, List.length_append]; omega
end Go.Proofs.YtnachbjhhpnadaaGreatDoor
