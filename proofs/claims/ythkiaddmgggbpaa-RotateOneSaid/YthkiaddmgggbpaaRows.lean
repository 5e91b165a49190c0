/-
  No cell of these rows narrows 'for every input' (looked for: loops, veiled, ifaces, maps, wideKeys, modest, calm, conditions, laid).
  DERIVED. THE GIVEN ROWS OF THIS SEAT. 10 by the template 'for every input the law returns true; each argument reads behind the call as it read before'; 0 by the template 'total and deterministic' (their statements: YthkiaddmgggbpaaTotals.lean).
  GIVEN WITH THE SEED: the statements are not yours to turn. If you find one false, say at which input.
  Laid BY PROGRAM, IN A SANDBOX (cutbox-rows.mjs): the forced cells as the released guide's own fill.sh prints them over the translation 4f7539fb58cfe0d4… (all of the seat's roots in one cut). By AI agents, Wed Nov 11 2026. No macro, syntax, notation, axiom, sorry.
-/
import Derived.Test.YthkiaddmgggbpaaChecked
import GoSem.Claim
import GoSem.ClaimJoined
import GoSem.ClaimMapViews
import Derived.JoinedTies
import Derived.KernelRfl
namespace Go.Proofs.Ythkiaddmgggbpaa
/- THE CELL 'sum', in the pinned program and in every row, IS THE sha256 OF THE DUMP (.gsa) THAT YthkiaddmgggbpaaProg.lean LOADS. Nothing in Lean hashes anything: it is a label: what it is worth is what the hold of that sum in a sandbox is worth. -/
noncomputable def Try.pinned : Pinned := { name := "ythkiaddmgggbpaa", sum := "4f7539fb58cfe0d43f59a768365f4102a394070fae4fb18ff89832b1aa148233", checked := Try.checked }
namespace Rows
def none {H : Type} : Left H := { results := [], args := [] }

/-- 'balerlaw15.RotateCompares': WHATEVER THE INPUT: true; the input reads as it did. -/
def rotateComparesSpec : ChangeSpec := { name := "rotateCompares", fn := fun _ => fun
  | [d1, d2, d3] => { results := [.lit (.bool true)], args := [d1, d2, d3] }
  | _ => none }
def rotateComparesRow : OpenClaim := { program := "ythkiaddmgggbpaa", sum := "4f7539fb58cfe0d43f59a768365f4102a394070fae4fb18ff89832b1aa148233", func := "baler/balerlaw15.RotateCompares", spec := "rotateCompares", unfollowed := true, recurses := true, apart := false }
def RotateComparesSaid : Prop := rotateComparesRow.holds Try.pinned (OpenSpec.ofChange rotateComparesSpec)

/-- ITS FALSE NEIGHBOUR: 'it returns false'. Refute it at one input. -/
def rotateComparesWrong : ChangeSpec := { name := "rotateCompares", fn := fun _ => fun
  | [d1, d2, d3] => { results := [.lit (.bool false)], args := [d1, d2, d3] }
  | _ => none }
def RotateComparesWrongFalsely : Prop := rotateComparesRow.holds Try.pinned (OpenSpec.ofChange rotateComparesWrong)

/-- 'balerlaw15.RotatePeriods': WHATEVER THE INPUT: true; the input reads as it did. -/
def rotatePeriodsSpec : ChangeSpec := { name := "rotatePeriods", fn := fun _ => fun
  | [d] => { results := [.lit (.bool true)], args := [d] }
  | _ => none }
def rotatePeriodsRow : OpenClaim := { program := "ythkiaddmgggbpaa", sum := "4f7539fb58cfe0d43f59a768365f4102a394070fae4fb18ff89832b1aa148233", func := "baler/balerlaw15.RotatePeriods", spec := "rotatePeriods", unfollowed := true, recurses := true, apart := false }
def RotatePeriodsSaid : Prop := rotatePeriodsRow.holds Try.pinned (OpenSpec.ofChange rotatePeriodsSpec)

/-- ITS FALSE NEIGHBOUR: 'it returns false'. Refute it at one input. -/
def rotatePeriodsWrong : ChangeSpec := { name := "rotatePeriods", fn := fun _ => fun
  | [d] => { results := [.lit (.bool false)], args := [d] }
  | _ => none }
def RotatePeriodsWrongFalsely : Prop := rotatePeriodsRow.holds Try.pinned (OpenSpec.ofChange rotatePeriodsWrong)

/-- 'balerlaw15.RotateSorts': WHATEVER THE INPUT: true; the input reads as it did. -/
def rotateSortsSpec : ChangeSpec := { name := "rotateSorts", fn := fun _ => fun
  | [d1, d2] => { results := [.lit (.bool true)], args := [d1, d2] }
  | _ => none }
def rotateSortsRow : OpenClaim := { program := "ythkiaddmgggbpaa", sum := "4f7539fb58cfe0d43f59a768365f4102a394070fae4fb18ff89832b1aa148233", func := "baler/balerlaw15.RotateSorts", spec := "rotateSorts", unfollowed := true, recurses := true, apart := false }
def RotateSortsSaid : Prop := rotateSortsRow.holds Try.pinned (OpenSpec.ofChange rotateSortsSpec)

/-- ITS FALSE NEIGHBOUR: 'it returns false'. Refute it at one input. -/
def rotateSortsWrong : ChangeSpec := { name := "rotateSorts", fn := fun _ => fun
  | [d1, d2] => { results := [.lit (.bool false)], args := [d1, d2] }
  | _ => none }
def RotateSortsWrongFalsely : Prop := rotateSortsRow.holds Try.pinned (OpenSpec.ofChange rotateSortsWrong)

/-- 'balerlaw15.RotateAlike': WHATEVER THE INPUT: true; the input reads as it did. -/
def rotateAlikeSpec : ChangeSpec := { name := "rotateAlike", fn := fun _ => fun
  | [d1, d2, d3] => { results := [.lit (.bool true)], args := [d1, d2, d3] }
  | _ => none }
def rotateAlikeRow : OpenClaim := { program := "ythkiaddmgggbpaa", sum := "4f7539fb58cfe0d43f59a768365f4102a394070fae4fb18ff89832b1aa148233", func := "baler/balerlaw15.RotateAlike", spec := "rotateAlike", unfollowed := true, recurses := true, apart := false }
def RotateAlikeSaid : Prop := rotateAlikeRow.holds Try.pinned (OpenSpec.ofChange rotateAlikeSpec)

/-- ITS FALSE NEIGHBOUR: 'it returns false'. Refute it at one input. -/
def rotateAlikeWrong : ChangeSpec := { name := "rotateAlike", fn := fun _ => fun
  | [d1, d2, d3] => { results := [.lit (.bool false)], args := [d1, d2, d3] }
  | _ => none }
def RotateAlikeWrongFalsely : Prop := rotateAlikeRow.holds Try.pinned (OpenSpec.ofChange rotateAlikeWrong)

/-- 'balerlaw15.RotateOne': WHATEVER THE INPUT: true; the input reads as it did. -/
def rotateOneSpec : ChangeSpec := { name := "rotateOne", fn := fun _ => fun
  | [d1, d2, d3] => { results := [.lit (.bool true)], args := [d1, d2, d3] }
  | _ => none }
def rotateOneRow : OpenClaim := { program := "ythkiaddmgggbpaa", sum := "4f7539fb58cfe0d43f59a768365f4102a394070fae4fb18ff89832b1aa148233", func := "baler/balerlaw15.RotateOne", spec := "rotateOne", unfollowed := true, recurses := true, apart := false }
def RotateOneSaid : Prop := rotateOneRow.holds Try.pinned (OpenSpec.ofChange rotateOneSpec)

/-- ITS FALSE NEIGHBOUR: 'it returns false'. Refute it at one input. -/
def rotateOneWrong : ChangeSpec := { name := "rotateOne", fn := fun _ => fun
  | [d1, d2, d3] => { results := [.lit (.bool false)], args := [d1, d2, d3] }
  | _ => none }
def RotateOneWrongFalsely : Prop := rotateOneRow.holds Try.pinned (OpenSpec.ofChange rotateOneWrong)

/-- 'balerlaw16.SorterOf': WHATEVER THE INPUT: true; the input reads as it did. -/
def sorterOfSpec : ChangeSpec := { name := "sorterOf", fn := fun _ => fun
  | [d] => { results := [.lit (.bool true)], args := [d] }
  | _ => none }
def sorterOfRow : OpenClaim := { program := "ythkiaddmgggbpaa", sum := "4f7539fb58cfe0d43f59a768365f4102a394070fae4fb18ff89832b1aa148233", func := "baler/balerlaw16.SorterOf", spec := "sorterOf", unfollowed := true, recurses := true, apart := false }
def SorterOfSaid : Prop := sorterOfRow.holds Try.pinned (OpenSpec.ofChange sorterOfSpec)

/-- ITS FALSE NEIGHBOUR: 'it returns false'. Refute it at one input. -/
def sorterOfWrong : ChangeSpec := { name := "sorterOf", fn := fun _ => fun
  | [d] => { results := [.lit (.bool false)], args := [d] }
  | _ => none }
def SorterOfWrongFalsely : Prop := sorterOfRow.holds Try.pinned (OpenSpec.ofChange sorterOfWrong)

/-- 'balerlaw16.SorterCuts': WHATEVER THE INPUT: true; the input reads as it did. -/
def sorterCutsSpec : ChangeSpec := { name := "sorterCuts", fn := fun _ => fun
  | [d1, d2] => { results := [.lit (.bool true)], args := [d1, d2] }
  | _ => none }
def sorterCutsRow : OpenClaim := { program := "ythkiaddmgggbpaa", sum := "4f7539fb58cfe0d43f59a768365f4102a394070fae4fb18ff89832b1aa148233", func := "baler/balerlaw16.SorterCuts", spec := "sorterCuts", unfollowed := true, recurses := true, apart := false }
def SorterCutsSaid : Prop := sorterCutsRow.holds Try.pinned (OpenSpec.ofChange sorterCutsSpec)

/-- ITS FALSE NEIGHBOUR: 'it returns false'. Refute it at one input. -/
def sorterCutsWrong : ChangeSpec := { name := "sorterCuts", fn := fun _ => fun
  | [d1, d2] => { results := [.lit (.bool false)], args := [d1, d2] }
  | _ => none }
def SorterCutsWrongFalsely : Prop := sorterCutsRow.holds Try.pinned (OpenSpec.ofChange sorterCutsWrong)

/-- 'balerlaw16.SorterMost': WHATEVER THE INPUT: true; the input reads as it did. -/
def sorterMostSpec : ChangeSpec := { name := "sorterMost", fn := fun _ => fun
  | [d1, d2] => { results := [.lit (.bool true)], args := [d1, d2] }
  | _ => none }
def sorterMostRow : OpenClaim := { program := "ythkiaddmgggbpaa", sum := "4f7539fb58cfe0d43f59a768365f4102a394070fae4fb18ff89832b1aa148233", func := "baler/balerlaw16.SorterMost", spec := "sorterMost", unfollowed := true, recurses := true, apart := false }
def SorterMostSaid : Prop := sorterMostRow.holds Try.pinned (OpenSpec.ofChange sorterMostSpec)

/-- ITS FALSE NEIGHBOUR: 'it returns false'. Refute it at one input. -/
def sorterMostWrong : ChangeSpec := { name := "sorterMost", fn := fun _ => fun
  | [d1, d2] => { results := [.lit (.bool false)], args := [d1, d2] }
  | _ => none }
def SorterMostWrongFalsely : Prop := sorterMostRow.holds Try.pinned (OpenSpec.ofChange sorterMostWrong)

/-- 'balerlaw16.SorterLong': WHATEVER THE INPUT: true; the input reads as it did. -/
def sorterLongSpec : ChangeSpec := { name := "sorterLong", fn := fun _ => fun
  | [d1, d2] => { results := [.lit (.bool true)], args := [d1, d2] }
  | _ => none }
def sorterLongRow : OpenClaim := { program := "ythkiaddmgggbpaa", sum := "4f7539fb58cfe0d43f59a768365f4102a394070fae4fb18ff89832b1aa148233", func := "baler/balerlaw16.SorterLong", spec := "sorterLong", unfollowed := true, recurses := true, apart := false }
def SorterLongSaid : Prop := sorterLongRow.holds Try.pinned (OpenSpec.ofChange sorterLongSpec)

/-- ITS FALSE NEIGHBOUR: 'it returns false'. Refute it at one input. -/
def sorterLongWrong : ChangeSpec := { name := "sorterLong", fn := fun _ => fun
  | [d1, d2] => { results := [.lit (.bool false)], args := [d1, d2] }
  | _ => none }
def SorterLongWrongFalsely : Prop := sorterLongRow.holds Try.pinned (OpenSpec.ofChange sorterLongWrong)

/-- 'balerlaw16.SorterNil': WHATEVER THE INPUT: true; the input reads as it did. -/
def sorterNilSpec : ChangeSpec := { name := "sorterNil", fn := fun _ => fun
  | [d] => { results := [.lit (.bool true)], args := [d] }
  | _ => none }
def sorterNilRow : OpenClaim := { program := "ythkiaddmgggbpaa", sum := "4f7539fb58cfe0d43f59a768365f4102a394070fae4fb18ff89832b1aa148233", func := "baler/balerlaw16.SorterNil", spec := "sorterNil", unfollowed := true, recurses := true, apart := false }
def SorterNilSaid : Prop := sorterNilRow.holds Try.pinned (OpenSpec.ofChange sorterNilSpec)

/-- ITS FALSE NEIGHBOUR: 'it returns false'. Refute it at one input. -/
def sorterNilWrong : ChangeSpec := { name := "sorterNil", fn := fun _ => fun
  | [d] => { results := [.lit (.bool false)], args := [d] }
  | _ => none }
def SorterNilWrongFalsely : Prop := sorterNilRow.holds Try.pinned (OpenSpec.ofChange sorterNilWrong)

/- THE SECOND FORM. 'bulk': how many values and letters a reading holds, each counted each time it is reached (what is shared counts as often as it is met; a slice's spare places count too). A statement '..UptoSaid' is the law's where the arguments, and the package variables that the reading takes, are together of bulk at most 1048576: NARROWER than '..Said'. Prove '..Said' where nothing that the law and all that it calls make is longer than what came in: it says more and counts as full. Else prove '..UptoSaid'. A law counts once. -/
mutual
def uptoBulk {H : Type} : DataW H → Nat
  | .lit (.string bytes) => bytes.length + 1
  | .lit _ => 1
  | .nil => 1
  | .ptr d => uptoBulk d + 1
  | .slice elems spare => uptoBulkAll elems + uptoBulkAll spare + 1
  | .agg parts => uptoBulkAll parts + 1
  | .iface _ d => uptoBulk d + 1
  | .map entries => uptoBulkEntries entries + 1
  | .held _ => 1
def uptoBulkAll {H : Type} : List (DataW H) → Nat
  | [] => 0
  | d :: r => uptoBulk d + uptoBulkAll r
def uptoBulkEntries {H : Type} : List (Lit × DataW H) → Nat
  | [] => 0
  | x :: r => uptoBulkEntry x + uptoBulkEntries r
def uptoBulkEntry {H : Type} : Lit × DataW H → Nat
  | (.string bytes, d) => bytes.length + uptoBulk d + 1
  | (_, d) => uptoBulk d + 1
 end
def uptoSmall : (H : Type) → List (DataW H) → Bool := fun _ ds => decide (uptoBulkAll ds ≤ 1048576)
def OpenSpec.upto (s : _root_.Go.ChangeSpec) : _root_.Go.OpenSpec := { _root_.Go.OpenSpec.ofChange s with cond := some uptoSmall }

/-- 'balerlaw15.RotateCompares', WHERE WHAT IT READS IS OF BULK AT MOST 1048576: true; the input reads as it did. -/
def rotateComparesUptoRow : OpenClaim := { program := "ythkiaddmgggbpaa", sum := "4f7539fb58cfe0d43f59a768365f4102a394070fae4fb18ff89832b1aa148233", func := "baler/balerlaw15.RotateCompares", spec := "rotateCompares", unfollowed := true, recurses := true, apart := false, narrowed := true }
def RotateComparesUptoSaid : Prop := rotateComparesUptoRow.holds Try.pinned (OpenSpec.upto rotateComparesSpec)

/-- 'balerlaw15.RotatePeriods', WHERE WHAT IT READS IS OF BULK AT MOST 1048576: true; the input reads as it did. -/
def rotatePeriodsUptoRow : OpenClaim := { program := "ythkiaddmgggbpaa", sum := "4f7539fb58cfe0d43f59a768365f4102a394070fae4fb18ff89832b1aa148233", func := "baler/balerlaw15.RotatePeriods", spec := "rotatePeriods", unfollowed := true, recurses := true, apart := false, narrowed := true }
def RotatePeriodsUptoSaid : Prop := rotatePeriodsUptoRow.holds Try.pinned (OpenSpec.upto rotatePeriodsSpec)

/-- 'balerlaw15.RotateSorts', WHERE WHAT IT READS IS OF BULK AT MOST 1048576: true; the input reads as it did. -/
def rotateSortsUptoRow : OpenClaim := { program := "ythkiaddmgggbpaa", sum := "4f7539fb58cfe0d43f59a768365f4102a394070fae4fb18ff89832b1aa148233", func := "baler/balerlaw15.RotateSorts", spec := "rotateSorts", unfollowed := true, recurses := true, apart := false, narrowed := true }
def RotateSortsUptoSaid : Prop := rotateSortsUptoRow.holds Try.pinned (OpenSpec.upto rotateSortsSpec)

/-- 'balerlaw15.RotateAlike', WHERE WHAT IT READS IS OF BULK AT MOST 1048576: true; the input reads as it did. -/
def rotateAlikeUptoRow : OpenClaim := { program := "ythkiaddmgggbpaa", sum := "4f7539fb58cfe0d43f59a768365f4102a394070fae4fb18ff89832b1aa148233", func := "baler/balerlaw15.RotateAlike", spec := "rotateAlike", unfollowed := true, recurses := true, apart := false, narrowed := true }
def RotateAlikeUptoSaid : Prop := rotateAlikeUptoRow.holds Try.pinned (OpenSpec.upto rotateAlikeSpec)

/-- 'balerlaw15.RotateOne', WHERE WHAT IT READS IS OF BULK AT MOST 1048576: true; the input reads as it did. -/
def rotateOneUptoRow : OpenClaim := { program := "ythkiaddmgggbpaa", sum := "4f7539fb58cfe0d43f59a768365f4102a394070fae4fb18ff89832b1aa148233", func := "baler/balerlaw15.RotateOne", spec := "rotateOne", unfollowed := true, recurses := true, apart := false, narrowed := true }
def RotateOneUptoSaid : Prop := rotateOneUptoRow.holds Try.pinned (OpenSpec.upto rotateOneSpec)

/-- 'balerlaw16.SorterOf', WHERE WHAT IT READS IS OF BULK AT MOST 1048576: true; the input reads as it did. -/
def sorterOfUptoRow : OpenClaim := { program := "ythkiaddmgggbpaa", sum := "4f7539fb58cfe0d43f59a768365f4102a394070fae4fb18ff89832b1aa148233", func := "baler/balerlaw16.SorterOf", spec := "sorterOf", unfollowed := true, recurses := true, apart := false, narrowed := true }
def SorterOfUptoSaid : Prop := sorterOfUptoRow.holds Try.pinned (OpenSpec.upto sorterOfSpec)

/-- 'balerlaw16.SorterCuts', WHERE WHAT IT READS IS OF BULK AT MOST 1048576: true; the input reads as it did. -/
def sorterCutsUptoRow : OpenClaim := { program := "ythkiaddmgggbpaa", sum := "4f7539fb58cfe0d43f59a768365f4102a394070fae4fb18ff89832b1aa148233", func := "baler/balerlaw16.SorterCuts", spec := "sorterCuts", unfollowed := true, recurses := true, apart := false, narrowed := true }
def SorterCutsUptoSaid : Prop := sorterCutsUptoRow.holds Try.pinned (OpenSpec.upto sorterCutsSpec)

/-- 'balerlaw16.SorterMost', WHERE WHAT IT READS IS OF BULK AT MOST 1048576: true; the input reads as it did. -/
def sorterMostUptoRow : OpenClaim := { program := "ythkiaddmgggbpaa", sum := "4f7539fb58cfe0d43f59a768365f4102a394070fae4fb18ff89832b1aa148233", func := "baler/balerlaw16.SorterMost", spec := "sorterMost", unfollowed := true, recurses := true, apart := false, narrowed := true }
def SorterMostUptoSaid : Prop := sorterMostUptoRow.holds Try.pinned (OpenSpec.upto sorterMostSpec)

/-- 'balerlaw16.SorterLong', WHERE WHAT IT READS IS OF BULK AT MOST 1048576: true; the input reads as it did. -/
def sorterLongUptoRow : OpenClaim := { program := "ythkiaddmgggbpaa", sum := "4f7539fb58cfe0d43f59a768365f4102a394070fae4fb18ff89832b1aa148233", func := "baler/balerlaw16.SorterLong", spec := "sorterLong", unfollowed := true, recurses := true, apart := false, narrowed := true }
def SorterLongUptoSaid : Prop := sorterLongUptoRow.holds Try.pinned (OpenSpec.upto sorterLongSpec)

/-- 'balerlaw16.SorterNil', WHERE WHAT IT READS IS OF BULK AT MOST 1048576: true; the input reads as it did. -/
def sorterNilUptoRow : OpenClaim := { program := "ythkiaddmgggbpaa", sum := "4f7539fb58cfe0d43f59a768365f4102a394070fae4fb18ff89832b1aa148233", func := "baler/balerlaw16.SorterNil", spec := "sorterNil", unfollowed := true, recurses := true, apart := false, narrowed := true }
def SorterNilUptoSaid : Prop := sorterNilUptoRow.holds Try.pinned (OpenSpec.upto sorterNilSpec)

end Rows
end Go.Proofs.Ythkiaddmgggbpaa
