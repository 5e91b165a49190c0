/-
  No cell of these rows narrows 'for every input' (looked for: loops, veiled, ifaces, maps, wideKeys, modest, calm, conditions, laid).
  DERIVED. THE GIVEN ROWS OF THIS SEAT. 5 by the template 'for every input the law returns true; each argument reads behind the call as it read before'; 0 by the template 'total and deterministic' (their statements: YtfckghaigbmeaaaTotals.lean).
  GIVEN WITH THE SEED: the statements are not yours to turn. If you find one false, say at which input.
  Laid BY PROGRAM, IN A SANDBOX (cutbox-rows.mjs): the forced cells as the released guide's own fill.sh prints them over the translation 7bd2c720af12e0da… (all of the seat's roots in one cut). By AI agents, Wed Nov 11 2026. No macro, syntax, notation, axiom, sorry.
-/
import Derived.Test.YtfckghaigbmeaaaChecked
import GoSem.Claim
import GoSem.ClaimJoined
import GoSem.ClaimMapViews
import Derived.JoinedTies
import Derived.KernelRfl
namespace Go.Proofs.Ytfckghaigbmeaaa
/- THE CELL 'sum', in the pinned program and in every row, IS THE sha256 OF THE DUMP (.gsa) THAT YtfckghaigbmeaaaProg.lean LOADS. Nothing in Lean hashes anything: it is a label: what it is worth is what the hold of that sum in a sandbox is worth. -/
noncomputable def Try.pinned : Pinned := { name := "ytfckghaigbmeaaa", sum := "7bd2c720af12e0da1aabbe5fa597a6e2204f7ea23c43e4b69b459471bd0c308a", checked := Try.checked }
namespace Rows
def none {H : Type} : Left H := { results := [], args := [] }

/-- 'balerlaw13.PicksWrites': WHATEVER THE INPUT: true; the input reads as it did. -/
def picksWritesSpec : ChangeSpec := { name := "picksWrites", fn := fun _ => fun
  | [d1, d2, d3] => { results := [.lit (.bool true)], args := [d1, d2, d3] }
  | _ => none }
def picksWritesRow : OpenClaim := { program := "ytfckghaigbmeaaa", sum := "7bd2c720af12e0da1aabbe5fa597a6e2204f7ea23c43e4b69b459471bd0c308a", func := "baler/balerlaw13.PicksWrites", spec := "picksWrites", unfollowed := true, recurses := true, apart := false }
def PicksWritesSaid : Prop := picksWritesRow.holds Try.pinned (OpenSpec.ofChange picksWritesSpec)

/-- ITS FALSE NEIGHBOUR: 'it returns false'. Refute it at one input. -/
def picksWritesWrong : ChangeSpec := { name := "picksWrites", fn := fun _ => fun
  | [d1, d2, d3] => { results := [.lit (.bool false)], args := [d1, d2, d3] }
  | _ => none }
def PicksWritesWrongFalsely : Prop := picksWritesRow.holds Try.pinned (OpenSpec.ofChange picksWritesWrong)

/-- 'balerlaw13.PicksReads': WHATEVER THE INPUT: true; the input reads as it did. -/
def picksReadsSpec : ChangeSpec := { name := "picksReads", fn := fun _ => fun
  | [d1, d2] => { results := [.lit (.bool true)], args := [d1, d2] }
  | _ => none }
def picksReadsRow : OpenClaim := { program := "ytfckghaigbmeaaa", sum := "7bd2c720af12e0da1aabbe5fa597a6e2204f7ea23c43e4b69b459471bd0c308a", func := "baler/balerlaw13.PicksReads", spec := "picksReads", unfollowed := true, recurses := true, apart := false }
def PicksReadsSaid : Prop := picksReadsRow.holds Try.pinned (OpenSpec.ofChange picksReadsSpec)

/-- ITS FALSE NEIGHBOUR: 'it returns false'. Refute it at one input. -/
def picksReadsWrong : ChangeSpec := { name := "picksReads", fn := fun _ => fun
  | [d1, d2] => { results := [.lit (.bool false)], args := [d1, d2] }
  | _ => none }
def PicksReadsWrongFalsely : Prop := picksReadsRow.holds Try.pinned (OpenSpec.ofChange picksReadsWrong)

/-- 'balerlaw13.PicksSteps': WHATEVER THE INPUT: true; the input reads as it did. -/
def picksStepsSpec : ChangeSpec := { name := "picksSteps", fn := fun _ => fun
  | [d1, d2] => { results := [.lit (.bool true)], args := [d1, d2] }
  | _ => none }
def picksStepsRow : OpenClaim := { program := "ytfckghaigbmeaaa", sum := "7bd2c720af12e0da1aabbe5fa597a6e2204f7ea23c43e4b69b459471bd0c308a", func := "baler/balerlaw13.PicksSteps", spec := "picksSteps", unfollowed := true, recurses := true, apart := false }
def PicksStepsSaid : Prop := picksStepsRow.holds Try.pinned (OpenSpec.ofChange picksStepsSpec)

/-- ITS FALSE NEIGHBOUR: 'it returns false'. Refute it at one input. -/
def picksStepsWrong : ChangeSpec := { name := "picksSteps", fn := fun _ => fun
  | [d1, d2] => { results := [.lit (.bool false)], args := [d1, d2] }
  | _ => none }
def PicksStepsWrongFalsely : Prop := picksStepsRow.holds Try.pinned (OpenSpec.ofChange picksStepsWrong)

/-- 'balerlaw13.PicksBack': WHATEVER THE INPUT: true; the input reads as it did. -/
def picksBackSpec : ChangeSpec := { name := "picksBack", fn := fun _ => fun
  | [d1, d2, d3] => { results := [.lit (.bool true)], args := [d1, d2, d3] }
  | _ => none }
def picksBackRow : OpenClaim := { program := "ytfckghaigbmeaaa", sum := "7bd2c720af12e0da1aabbe5fa597a6e2204f7ea23c43e4b69b459471bd0c308a", func := "baler/balerlaw13.PicksBack", spec := "picksBack", unfollowed := true, recurses := true, apart := false }
def PicksBackSaid : Prop := picksBackRow.holds Try.pinned (OpenSpec.ofChange picksBackSpec)

/-- ITS FALSE NEIGHBOUR: 'it returns false'. Refute it at one input. -/
def picksBackWrong : ChangeSpec := { name := "picksBack", fn := fun _ => fun
  | [d1, d2, d3] => { results := [.lit (.bool false)], args := [d1, d2, d3] }
  | _ => none }
def PicksBackWrongFalsely : Prop := picksBackRow.holds Try.pinned (OpenSpec.ofChange picksBackWrong)

/-- 'balerlaw13.PicksNil': WHATEVER THE INPUT: true; the input reads as it did. -/
def picksNilSpec : ChangeSpec := { name := "picksNil", fn := fun _ => fun
  | [d1, d2] => { results := [.lit (.bool true)], args := [d1, d2] }
  | _ => none }
def picksNilRow : OpenClaim := { program := "ytfckghaigbmeaaa", sum := "7bd2c720af12e0da1aabbe5fa597a6e2204f7ea23c43e4b69b459471bd0c308a", func := "baler/balerlaw13.PicksNil", spec := "picksNil", unfollowed := true, recurses := true, apart := false }
def PicksNilSaid : Prop := picksNilRow.holds Try.pinned (OpenSpec.ofChange picksNilSpec)

/-- ITS FALSE NEIGHBOUR: 'it returns false'. Refute it at one input. -/
def picksNilWrong : ChangeSpec := { name := "picksNil", fn := fun _ => fun
  | [d1, d2] => { results := [.lit (.bool false)], args := [d1, d2] }
  | _ => none }
def PicksNilWrongFalsely : Prop := picksNilRow.holds Try.pinned (OpenSpec.ofChange picksNilWrong)

/- THE SECOND FORM. 'bulk': how many values and letters a reading holds, each counted each time it is reached (what is shared counts as often as it is met; a slice's spare places count too). A statement '..UptoSaid' is the law's where the arguments, and the package variables that the reading takes, are together of bulk at most 1048576: NARROWER than '..Said'. Prove '..Said' where nothing that the law and all that it calls make is longer than what came in: it says more and counts as full. Else prove '..UptoSaid'. A law counts once. -/
mutual
def uptoBulk {H : Type} : DataW H → Nat
  | .lit (.string bytes) => bytes.length + 1
  | .lit _ => 1
  | .nil => 1
  | .ptr d => uptoBulk d + 1
  | .slice elems spare => uptoBulkAll elems + uptoBulkAll spare + 1
  | .agg parts => uptoBulkAll parts + 1
  | .iface _ d => uptoBulk d + 1
  | .map entries => uptoBulkEntries entries + 1
  | .held _ => 1
def uptoBulkAll {H : Type} : List (DataW H) → Nat
  | [] => 0
  | d :: r => uptoBulk d + uptoBulkAll r
def uptoBulkEntries {H : Type} : List (Lit × DataW H) → Nat
  | [] => 0
  | x :: r => uptoBulkEntry x + uptoBulkEntries r
def uptoBulkEntry {H : Type} : Lit × DataW H → Nat
  | (.string bytes, d) => bytes.length + uptoBulk d + 1
  | (_, d) => uptoBulk d + 1
 end
def uptoSmall : (H : Type) → List (DataW H) → Bool := fun _ ds => decide (uptoBulkAll ds ≤ 1048576)
def OpenSpec.upto (s : _root_.Go.ChangeSpec) : _root_.Go.OpenSpec := { _root_.Go.OpenSpec.ofChange s with cond := some uptoSmall }

/-- 'balerlaw13.PicksWrites', WHERE WHAT IT READS IS OF BULK AT MOST 1048576: true; the input reads as it did. -/
def picksWritesUptoRow : OpenClaim := { program := "ytfckghaigbmeaaa", sum := "7bd2c720af12e0da1aabbe5fa597a6e2204f7ea23c43e4b69b459471bd0c308a", func := "baler/balerlaw13.PicksWrites", spec := "picksWrites", unfollowed := true, recurses := true, apart := false, narrowed := true }
def PicksWritesUptoSaid : Prop := picksWritesUptoRow.holds Try.pinned (OpenSpec.upto picksWritesSpec)

/-- 'balerlaw13.PicksReads', WHERE WHAT IT READS IS OF BULK AT MOST 1048576: true; the input reads as it did. -/
def picksReadsUptoRow : OpenClaim := { program := "ytfckghaigbmeaaa", sum := "7bd2c720af12e0da1aabbe5fa597a6e2204f7ea23c43e4b69b459471bd0c308a", func := "baler/balerlaw13.PicksReads", spec := "picksReads", unfollowed := true, recurses := true, apart := false, narrowed := true }
def PicksReadsUptoSaid : Prop := picksReadsUptoRow.holds Try.pinned (OpenSpec.upto picksReadsSpec)

/-- 'balerlaw13.PicksSteps', WHERE WHAT IT READS IS OF BULK AT MOST 1048576: true; the input reads as it did. -/
def picksStepsUptoRow : OpenClaim := { program := "ytfckghaigbmeaaa", sum := "7bd2c720af12e0da1aabbe5fa597a6e2204f7ea23c43e4b69b459471bd0c308a", func := "baler/balerlaw13.PicksSteps", spec := "picksSteps", unfollowed := true, recurses := true, apart := false, narrowed := true }
def PicksStepsUptoSaid : Prop := picksStepsUptoRow.holds Try.pinned (OpenSpec.upto picksStepsSpec)

/-- 'balerlaw13.PicksBack', WHERE WHAT IT READS IS OF BULK AT MOST 1048576: true; the input reads as it did. -/
def picksBackUptoRow : OpenClaim := { program := "ytfckghaigbmeaaa", sum := "7bd2c720af12e0da1aabbe5fa597a6e2204f7ea23c43e4b69b459471bd0c308a", func := "baler/balerlaw13.PicksBack", spec := "picksBack", unfollowed := true, recurses := true, apart := false, narrowed := true }
def PicksBackUptoSaid : Prop := picksBackUptoRow.holds Try.pinned (OpenSpec.upto picksBackSpec)

/-- 'balerlaw13.PicksNil', WHERE WHAT IT READS IS OF BULK AT MOST 1048576: true; the input reads as it did. -/
def picksNilUptoRow : OpenClaim := { program := "ytfckghaigbmeaaa", sum := "7bd2c720af12e0da1aabbe5fa597a6e2204f7ea23c43e4b69b459471bd0c308a", func := "baler/balerlaw13.PicksNil", spec := "picksNil", unfollowed := true, recurses := true, apart := false, narrowed := true }
def PicksNilUptoSaid : Prop := picksNilUptoRow.holds Try.pinned (OpenSpec.upto picksNilSpec)

end Rows
end Go.Proofs.Ytfckghaigbmeaaa
