/-
  No cell of these rows narrows 'for every input' (looked for: loops, veiled, ifaces, maps, wideKeys, modest, calm, conditions, laid).
  DERIVED. THE GIVEN ROWS OF THIS SEAT. 12 by the template 'for every input the law returns true; each argument reads behind the call as it read before'; 0 by the template 'total and deterministic' (their statements: YthpgddodfnjmbaaTotals.lean).
  GIVEN WITH THE SEED: the statements are not yours to turn. If you find one false, say at which input.
  Laid BY PROGRAM, IN A SANDBOX (cutbox-rows.mjs): the forced cells as the released guide's own fill.sh prints them over the translation a492438d480e2325… (all of the seat's roots in one cut). By AI agents, Wed Nov 11 2026. No macro, syntax, notation, axiom, sorry.
-/
import Derived.Test.YthpgddodfnjmbaaChecked
import GoSem.Claim
import GoSem.ClaimJoined
import GoSem.ClaimMapViews
import Derived.JoinedTies
import Derived.KernelRfl
namespace Go.Proofs.Ythpgddodfnjmbaa
/- THE CELL 'sum', in the pinned program and in every row, IS THE sha256 OF THE DUMP (.gsa) THAT YthpgddodfnjmbaaProg.lean LOADS. Nothing in Lean hashes anything: it is a label: what it is worth is what the hold of that sum in a sandbox is worth. -/
noncomputable def Try.pinned : Pinned := { name := "ythpgddodfnjmbaa", sum := "a492438d480e232559923e7b941eeba8c843b6ef0d4deff4f9f894262f5d99b5", checked := Try.checked }
namespace Rows
def none {H : Type} : Left H := { results := [], args := [] }

/-- 'balerlaw05.UsedSymbols': WHATEVER THE INPUT: true; the input reads as it did. -/
def usedSymbolsSpec : ChangeSpec := { name := "usedSymbols", fn := fun _ => fun
  | [d] => { results := [.lit (.bool true)], args := [d] }
  | _ => none }
def usedSymbolsRow : OpenClaim := { program := "ythpgddodfnjmbaa", sum := "a492438d480e232559923e7b941eeba8c843b6ef0d4deff4f9f894262f5d99b5", func := "baler/balerlaw05.UsedSymbols", spec := "usedSymbols", inPlace := ["internal/abi.NoEscape"], apart := false }
def UsedSymbolsSaid : Prop := usedSymbolsRow.holds Try.pinned (OpenSpec.ofChange usedSymbolsSpec)

/-- ITS FALSE NEIGHBOUR: 'it returns false'. Refute it at one input. -/
def usedSymbolsWrong : ChangeSpec := { name := "usedSymbols", fn := fun _ => fun
  | [d] => { results := [.lit (.bool false)], args := [d] }
  | _ => none }
def UsedSymbolsWrongFalsely : Prop := usedSymbolsRow.holds Try.pinned (OpenSpec.ofChange usedSymbolsWrong)

/-- 'balerlaw05.UsedWrites': WHATEVER THE INPUT: true; the input reads as it did. -/
def usedWritesSpec : ChangeSpec := { name := "usedWrites", fn := fun _ => fun
  | [d1, d2, d3] => { results := [.lit (.bool true)], args := [d1, d2, d3] }
  | _ => none }
def usedWritesRow : OpenClaim := { program := "ythpgddodfnjmbaa", sum := "a492438d480e232559923e7b941eeba8c843b6ef0d4deff4f9f894262f5d99b5", func := "baler/balerlaw05.UsedWrites", spec := "usedWrites", inPlace := ["internal/abi.NoEscape"], apart := false }
def UsedWritesSaid : Prop := usedWritesRow.holds Try.pinned (OpenSpec.ofChange usedWritesSpec)

/-- ITS FALSE NEIGHBOUR: 'it returns false'. Refute it at one input. -/
def usedWritesWrong : ChangeSpec := { name := "usedWrites", fn := fun _ => fun
  | [d1, d2, d3] => { results := [.lit (.bool false)], args := [d1, d2, d3] }
  | _ => none }
def UsedWritesWrongFalsely : Prop := usedWritesRow.holds Try.pinned (OpenSpec.ofChange usedWritesWrong)

/-- 'balerlaw05.UsedReads': WHATEVER THE INPUT: true; the input reads as it did. -/
def usedReadsSpec : ChangeSpec := { name := "usedReads", fn := fun _ => fun
  | [d1, d2] => { results := [.lit (.bool true)], args := [d1, d2] }
  | _ => none }
def usedReadsRow : OpenClaim := { program := "ythpgddodfnjmbaa", sum := "a492438d480e232559923e7b941eeba8c843b6ef0d4deff4f9f894262f5d99b5", func := "baler/balerlaw05.UsedReads", spec := "usedReads", inPlace := ["internal/abi.NoEscape"], apart := false }
def UsedReadsSaid : Prop := usedReadsRow.holds Try.pinned (OpenSpec.ofChange usedReadsSpec)

/-- ITS FALSE NEIGHBOUR: 'it returns false'. Refute it at one input. -/
def usedReadsWrong : ChangeSpec := { name := "usedReads", fn := fun _ => fun
  | [d1, d2] => { results := [.lit (.bool false)], args := [d1, d2] }
  | _ => none }
def UsedReadsWrongFalsely : Prop := usedReadsRow.holds Try.pinned (OpenSpec.ofChange usedReadsWrong)

/-- 'balerlaw05.UsedBack': WHATEVER THE INPUT: true; the input reads as it did. -/
def usedBackSpec : ChangeSpec := { name := "usedBack", fn := fun _ => fun
  | [d1, d2] => { results := [.lit (.bool true)], args := [d1, d2] }
  | _ => none }
def usedBackRow : OpenClaim := { program := "ythpgddodfnjmbaa", sum := "a492438d480e232559923e7b941eeba8c843b6ef0d4deff4f9f894262f5d99b5", func := "baler/balerlaw05.UsedBack", spec := "usedBack", inPlace := ["internal/abi.NoEscape"], apart := false }
def UsedBackSaid : Prop := usedBackRow.holds Try.pinned (OpenSpec.ofChange usedBackSpec)

/-- ITS FALSE NEIGHBOUR: 'it returns false'. Refute it at one input. -/
def usedBackWrong : ChangeSpec := { name := "usedBack", fn := fun _ => fun
  | [d1, d2] => { results := [.lit (.bool false)], args := [d1, d2] }
  | _ => none }
def UsedBackWrongFalsely : Prop := usedBackRow.holds Try.pinned (OpenSpec.ofChange usedBackWrong)

/-- 'balerlaw05.UsedLeast': WHATEVER THE INPUT: true; the input reads as it did. -/
def usedLeastSpec : ChangeSpec := { name := "usedLeast", fn := fun _ => fun
  | [d1, d2] => { results := [.lit (.bool true)], args := [d1, d2] }
  | _ => none }
def usedLeastRow : OpenClaim := { program := "ythpgddodfnjmbaa", sum := "a492438d480e232559923e7b941eeba8c843b6ef0d4deff4f9f894262f5d99b5", func := "baler/balerlaw05.UsedLeast", spec := "usedLeast", inPlace := ["internal/abi.NoEscape"], apart := false }
def UsedLeastSaid : Prop := usedLeastRow.holds Try.pinned (OpenSpec.ofChange usedLeastSpec)

/-- ITS FALSE NEIGHBOUR: 'it returns false'. Refute it at one input. -/
def usedLeastWrong : ChangeSpec := { name := "usedLeast", fn := fun _ => fun
  | [d1, d2] => { results := [.lit (.bool false)], args := [d1, d2] }
  | _ => none }
def UsedLeastWrongFalsely : Prop := usedLeastRow.holds Try.pinned (OpenSpec.ofChange usedLeastWrong)

/-- 'balerlaw05.UsedNil': WHATEVER THE INPUT: true; the input reads as it did. -/
def usedNilSpec : ChangeSpec := { name := "usedNil", fn := fun _ => fun
  | [d] => { results := [.lit (.bool true)], args := [d] }
  | _ => none }
def usedNilRow : OpenClaim := { program := "ythpgddodfnjmbaa", sum := "a492438d480e232559923e7b941eeba8c843b6ef0d4deff4f9f894262f5d99b5", func := "baler/balerlaw05.UsedNil", spec := "usedNil", inPlace := ["internal/abi.NoEscape"], apart := false }
def UsedNilSaid : Prop := usedNilRow.holds Try.pinned (OpenSpec.ofChange usedNilSpec)

/-- ITS FALSE NEIGHBOUR: 'it returns false'. Refute it at one input. -/
def usedNilWrong : ChangeSpec := { name := "usedNil", fn := fun _ => fun
  | [d] => { results := [.lit (.bool false)], args := [d] }
  | _ => none }
def UsedNilWrongFalsely : Prop := usedNilRow.holds Try.pinned (OpenSpec.ofChange usedNilWrong)

/-- 'balerlaw06.MtfList': WHATEVER THE INPUT: true; the input reads as it did. -/
def mtfListSpec : ChangeSpec := { name := "mtfList", fn := fun _ => fun
  | [d1, d2] => { results := [.lit (.bool true)], args := [d1, d2] }
  | _ => none }
def mtfListRow : OpenClaim := { program := "ythpgddodfnjmbaa", sum := "a492438d480e232559923e7b941eeba8c843b6ef0d4deff4f9f894262f5d99b5", func := "baler/balerlaw06.MtfList", spec := "mtfList", inPlace := ["internal/bytealg.IndexByte", "internal/abi.NoEscape", "internal/bytealg.MakeNoZero"], apart := false }
def MtfListSaid : Prop := mtfListRow.holds Try.pinned (OpenSpec.ofChange mtfListSpec)

/-- ITS FALSE NEIGHBOUR: 'it returns false'. Refute it at one input. -/
def mtfListWrong : ChangeSpec := { name := "mtfList", fn := fun _ => fun
  | [d1, d2] => { results := [.lit (.bool false)], args := [d1, d2] }
  | _ => none }
def MtfListWrongFalsely : Prop := mtfListRow.holds Try.pinned (OpenSpec.ofChange mtfListWrong)

/-- 'balerlaw06.MtfEncodes': WHATEVER THE INPUT: true; the input reads as it did. -/
def mtfEncodesSpec : ChangeSpec := { name := "mtfEncodes", fn := fun _ => fun
  | [d1, d2] => { results := [.lit (.bool true)], args := [d1, d2] }
  | _ => none }
def mtfEncodesRow : OpenClaim := { program := "ythpgddodfnjmbaa", sum := "a492438d480e232559923e7b941eeba8c843b6ef0d4deff4f9f894262f5d99b5", func := "baler/balerlaw06.MtfEncodes", spec := "mtfEncodes", inPlace := ["internal/bytealg.IndexByte", "internal/abi.NoEscape", "internal/bytealg.MakeNoZero"], apart := false }
def MtfEncodesSaid : Prop := mtfEncodesRow.holds Try.pinned (OpenSpec.ofChange mtfEncodesSpec)

/-- ITS FALSE NEIGHBOUR: 'it returns false'. Refute it at one input. -/
def mtfEncodesWrong : ChangeSpec := { name := "mtfEncodes", fn := fun _ => fun
  | [d1, d2] => { results := [.lit (.bool false)], args := [d1, d2] }
  | _ => none }
def MtfEncodesWrongFalsely : Prop := mtfEncodesRow.holds Try.pinned (OpenSpec.ofChange mtfEncodesWrong)

/-- 'balerlaw06.MtfDecodes': WHATEVER THE INPUT: true; the input reads as it did. -/
def mtfDecodesSpec : ChangeSpec := { name := "mtfDecodes", fn := fun _ => fun
  | [d1, d2] => { results := [.lit (.bool true)], args := [d1, d2] }
  | _ => none }
def mtfDecodesRow : OpenClaim := { program := "ythpgddodfnjmbaa", sum := "a492438d480e232559923e7b941eeba8c843b6ef0d4deff4f9f894262f5d99b5", func := "baler/balerlaw06.MtfDecodes", spec := "mtfDecodes", inPlace := ["internal/bytealg.IndexByte", "internal/abi.NoEscape", "internal/bytealg.MakeNoZero"], apart := false }
def MtfDecodesSaid : Prop := mtfDecodesRow.holds Try.pinned (OpenSpec.ofChange mtfDecodesSpec)

/-- ITS FALSE NEIGHBOUR: 'it returns false'. Refute it at one input. -/
def mtfDecodesWrong : ChangeSpec := { name := "mtfDecodes", fn := fun _ => fun
  | [d1, d2] => { results := [.lit (.bool false)], args := [d1, d2] }
  | _ => none }
def MtfDecodesWrongFalsely : Prop := mtfDecodesRow.holds Try.pinned (OpenSpec.ofChange mtfDecodesWrong)

/-- 'balerlaw06.MtfBack': WHATEVER THE INPUT: true; the input reads as it did. -/
def mtfBackSpec : ChangeSpec := { name := "mtfBack", fn := fun _ => fun
  | [d] => { results := [.lit (.bool true)], args := [d] }
  | _ => none }
def mtfBackRow : OpenClaim := { program := "ythpgddodfnjmbaa", sum := "a492438d480e232559923e7b941eeba8c843b6ef0d4deff4f9f894262f5d99b5", func := "baler/balerlaw06.MtfBack", spec := "mtfBack", inPlace := ["internal/bytealg.IndexByte", "internal/abi.NoEscape", "internal/bytealg.MakeNoZero"], apart := false }
def MtfBackSaid : Prop := mtfBackRow.holds Try.pinned (OpenSpec.ofChange mtfBackSpec)

/-- ITS FALSE NEIGHBOUR: 'it returns false'. Refute it at one input. -/
def mtfBackWrong : ChangeSpec := { name := "mtfBack", fn := fun _ => fun
  | [d] => { results := [.lit (.bool false)], args := [d] }
  | _ => none }
def MtfBackWrongFalsely : Prop := mtfBackRow.holds Try.pinned (OpenSpec.ofChange mtfBackWrong)

/-- 'balerlaw06.MtfForth': WHATEVER THE INPUT: true; the input reads as it did. -/
def mtfForthSpec : ChangeSpec := { name := "mtfForth", fn := fun _ => fun
  | [d1, d2] => { results := [.lit (.bool true)], args := [d1, d2] }
  | _ => none }
def mtfForthRow : OpenClaim := { program := "ythpgddodfnjmbaa", sum := "a492438d480e232559923e7b941eeba8c843b6ef0d4deff4f9f894262f5d99b5", func := "baler/balerlaw06.MtfForth", spec := "mtfForth", inPlace := ["internal/bytealg.IndexByte", "internal/abi.NoEscape", "internal/bytealg.MakeNoZero"], apart := false }
def MtfForthSaid : Prop := mtfForthRow.holds Try.pinned (OpenSpec.ofChange mtfForthSpec)

/-- ITS FALSE NEIGHBOUR: 'it returns false'. Refute it at one input. -/
def mtfForthWrong : ChangeSpec := { name := "mtfForth", fn := fun _ => fun
  | [d1, d2] => { results := [.lit (.bool false)], args := [d1, d2] }
  | _ => none }
def MtfForthWrongFalsely : Prop := mtfForthRow.holds Try.pinned (OpenSpec.ofChange mtfForthWrong)

/-- 'balerlaw06.MtfNil': WHATEVER THE INPUT: true; the input reads as it did. -/
def mtfNilSpec : ChangeSpec := { name := "mtfNil", fn := fun _ => fun
  | [d1, d2] => { results := [.lit (.bool true)], args := [d1, d2] }
  | _ => none }
def mtfNilRow : OpenClaim := { program := "ythpgddodfnjmbaa", sum := "a492438d480e232559923e7b941eeba8c843b6ef0d4deff4f9f894262f5d99b5", func := "baler/balerlaw06.MtfNil", spec := "mtfNil", inPlace := ["internal/bytealg.IndexByte", "internal/abi.NoEscape", "internal/bytealg.MakeNoZero"], apart := false }
def MtfNilSaid : Prop := mtfNilRow.holds Try.pinned (OpenSpec.ofChange mtfNilSpec)

/-- ITS FALSE NEIGHBOUR: 'it returns false'. Refute it at one input. -/
def mtfNilWrong : ChangeSpec := { name := "mtfNil", fn := fun _ => fun
  | [d1, d2] => { results := [.lit (.bool false)], args := [d1, d2] }
  | _ => none }
def MtfNilWrongFalsely : Prop := mtfNilRow.holds Try.pinned (OpenSpec.ofChange mtfNilWrong)

/- THE SECOND FORM. 'bulk': how many values and letters a reading holds, each counted each time it is reached (what is shared counts as often as it is met; a slice's spare places count too). A statement '..UptoSaid' is the law's where the arguments, and the package variables that the reading takes, are together of bulk at most 1048576: NARROWER than '..Said'. Prove '..Said' where nothing that the law and all that it calls make is longer than what came in: it says more and counts as full. Else prove '..UptoSaid'. A law counts once. -/
mutual
def uptoBulk {H : Type} : DataW H → Nat
  | .lit (.string bytes) => bytes.length + 1
  | .lit _ => 1
  | .nil => 1
  | .ptr d => uptoBulk d + 1
  | .slice elems spare => uptoBulkAll elems + uptoBulkAll spare + 1
  | .agg parts => uptoBulkAll parts + 1
  | .iface _ d => uptoBulk d + 1
  | .map entries => uptoBulkEntries entries + 1
  | .held _ => 1
def uptoBulkAll {H : Type} : List (DataW H) → Nat
  | [] => 0
  | d :: r => uptoBulk d + uptoBulkAll r
def uptoBulkEntries {H : Type} : List (Lit × DataW H) → Nat
  | [] => 0
  | x :: r => uptoBulkEntry x + uptoBulkEntries r
def uptoBulkEntry {H : Type} : Lit × DataW H → Nat
  | (.string bytes, d) => bytes.length + uptoBulk d + 1
  | (_, d) => uptoBulk d + 1
 end
def uptoSmall : (H : Type) → List (DataW H) → Bool := fun _ ds => decide (uptoBulkAll ds ≤ 1048576)
def OpenSpec.upto (s : _root_.Go.ChangeSpec) : _root_.Go.OpenSpec := { _root_.Go.OpenSpec.ofChange s with cond := some uptoSmall }

/-- 'balerlaw05.UsedSymbols', WHERE WHAT IT READS IS OF BULK AT MOST 1048576: true; the input reads as it did. -/
def usedSymbolsUptoRow : OpenClaim := { program := "ythpgddodfnjmbaa", sum := "a492438d480e232559923e7b941eeba8c843b6ef0d4deff4f9f894262f5d99b5", func := "baler/balerlaw05.UsedSymbols", spec := "usedSymbols", inPlace := ["internal/abi.NoEscape"], apart := false, narrowed := true }
def UsedSymbolsUptoSaid : Prop := usedSymbolsUptoRow.holds Try.pinned (OpenSpec.upto usedSymbolsSpec)

/-- 'balerlaw05.UsedWrites', WHERE WHAT IT READS IS OF BULK AT MOST 1048576: true; the input reads as it did. -/
def usedWritesUptoRow : OpenClaim := { program := "ythpgddodfnjmbaa", sum := "a492438d480e232559923e7b941eeba8c843b6ef0d4deff4f9f894262f5d99b5", func := "baler/balerlaw05.UsedWrites", spec := "usedWrites", inPlace := ["internal/abi.NoEscape"], apart := false, narrowed := true }
def UsedWritesUptoSaid : Prop := usedWritesUptoRow.holds Try.pinned (OpenSpec.upto usedWritesSpec)

/-- 'balerlaw05.UsedReads', WHERE WHAT IT READS IS OF BULK AT MOST 1048576: true; the input reads as it did. -/
def usedReadsUptoRow : OpenClaim := { program := "ythpgddodfnjmbaa", sum := "a492438d480e232559923e7b941eeba8c843b6ef0d4deff4f9f894262f5d99b5", func := "baler/balerlaw05.UsedReads", spec := "usedReads", inPlace := ["internal/abi.NoEscape"], apart := false, narrowed := true }
def UsedReadsUptoSaid : Prop := usedReadsUptoRow.holds Try.pinned (OpenSpec.upto usedReadsSpec)

/-- 'balerlaw05.UsedBack', WHERE WHAT IT READS IS OF BULK AT MOST 1048576: true; the input reads as it did. -/
def usedBackUptoRow : OpenClaim := { program := "ythpgddodfnjmbaa", sum := "a492438d480e232559923e7b941eeba8c843b6ef0d4deff4f9f894262f5d99b5", func := "baler/balerlaw05.UsedBack", spec := "usedBack", inPlace := ["internal/abi.NoEscape"], apart := false, narrowed := true }
def UsedBackUptoSaid : Prop := usedBackUptoRow.holds Try.pinned (OpenSpec.upto usedBackSpec)

/-- 'balerlaw05.UsedLeast', WHERE WHAT IT READS IS OF BULK AT MOST 1048576: true; the input reads as it did. -/
def usedLeastUptoRow : OpenClaim := { program := "ythpgddodfnjmbaa", sum := "a492438d480e232559923e7b941eeba8c843b6ef0d4deff4f9f894262f5d99b5", func := "baler/balerlaw05.UsedLeast", spec := "usedLeast", inPlace := ["internal/abi.NoEscape"], apart := false, narrowed := true }
def UsedLeastUptoSaid : Prop := usedLeastUptoRow.holds Try.pinned (OpenSpec.upto usedLeastSpec)

/-- 'balerlaw05.UsedNil', WHERE WHAT IT READS IS OF BULK AT MOST 1048576: true; the input reads as it did. -/
def usedNilUptoRow : OpenClaim := { program := "ythpgddodfnjmbaa", sum := "a492438d480e232559923e7b941eeba8c843b6ef0d4deff4f9f894262f5d99b5", func := "baler/balerlaw05.UsedNil", spec := "usedNil", inPlace := ["internal/abi.NoEscape"], apart := false, narrowed := true }
def UsedNilUptoSaid : Prop := usedNilUptoRow.holds Try.pinned (OpenSpec.upto usedNilSpec)

/-- 'balerlaw06.MtfList', WHERE WHAT IT READS IS OF BULK AT MOST 1048576: true; the input reads as it did. -/
def mtfListUptoRow : OpenClaim := { program := "ythpgddodfnjmbaa", sum := "a492438d480e232559923e7b941eeba8c843b6ef0d4deff4f9f894262f5d99b5", func := "baler/balerlaw06.MtfList", spec := "mtfList", inPlace := ["internal/bytealg.IndexByte", "internal/abi.NoEscape", "internal/bytealg.MakeNoZero"], apart := false, narrowed := true }
def MtfListUptoSaid : Prop := mtfListUptoRow.holds Try.pinned (OpenSpec.upto mtfListSpec)

/-- 'balerlaw06.MtfEncodes', WHERE WHAT IT READS IS OF BULK AT MOST 1048576: true; the input reads as it did. -/
def mtfEncodesUptoRow : OpenClaim := { program := "ythpgddodfnjmbaa", sum := "a492438d480e232559923e7b941eeba8c843b6ef0d4deff4f9f894262f5d99b5", func := "baler/balerlaw06.MtfEncodes", spec := "mtfEncodes", inPlace := ["internal/bytealg.IndexByte", "internal/abi.NoEscape", "internal/bytealg.MakeNoZero"], apart := false, narrowed := true }
def MtfEncodesUptoSaid : Prop := mtfEncodesUptoRow.holds Try.pinned (OpenSpec.upto mtfEncodesSpec)

/-- 'balerlaw06.MtfDecodes', WHERE WHAT IT READS IS OF BULK AT MOST 1048576: true; the input reads as it did. -/
def mtfDecodesUptoRow : OpenClaim := { program := "ythpgddodfnjmbaa", sum := "a492438d480e232559923e7b941eeba8c843b6ef0d4deff4f9f894262f5d99b5", func := "baler/balerlaw06.MtfDecodes", spec := "mtfDecodes", inPlace := ["internal/bytealg.IndexByte", "internal/abi.NoEscape", "internal/bytealg.MakeNoZero"], apart := false, narrowed := true }
def MtfDecodesUptoSaid : Prop := mtfDecodesUptoRow.holds Try.pinned (OpenSpec.upto mtfDecodesSpec)

/-- 'balerlaw06.MtfBack', WHERE WHAT IT READS IS OF BULK AT MOST 1048576: true; the input reads as it did. -/
def mtfBackUptoRow : OpenClaim := { program := "ythpgddodfnjmbaa", sum := "a492438d480e232559923e7b941eeba8c843b6ef0d4deff4f9f894262f5d99b5", func := "baler/balerlaw06.MtfBack", spec := "mtfBack", inPlace := ["internal/bytealg.IndexByte", "internal/abi.NoEscape", "internal/bytealg.MakeNoZero"], apart := false, narrowed := true }
def MtfBackUptoSaid : Prop := mtfBackUptoRow.holds Try.pinned (OpenSpec.upto mtfBackSpec)

/-- 'balerlaw06.MtfForth', WHERE WHAT IT READS IS OF BULK AT MOST 1048576: true; the input reads as it did. -/
def mtfForthUptoRow : OpenClaim := { program := "ythpgddodfnjmbaa", sum := "a492438d480e232559923e7b941eeba8c843b6ef0d4deff4f9f894262f5d99b5", func := "baler/balerlaw06.MtfForth", spec := "mtfForth", inPlace := ["internal/bytealg.IndexByte", "internal/abi.NoEscape", "internal/bytealg.MakeNoZero"], apart := false, narrowed := true }
def MtfForthUptoSaid : Prop := mtfForthUptoRow.holds Try.pinned (OpenSpec.upto mtfForthSpec)

/-- 'balerlaw06.MtfNil', WHERE WHAT IT READS IS OF BULK AT MOST 1048576: true; the input reads as it did. -/
def mtfNilUptoRow : OpenClaim := { program := "ythpgddodfnjmbaa", sum := "a492438d480e232559923e7b941eeba8c843b6ef0d4deff4f9f894262f5d99b5", func := "baler/balerlaw06.MtfNil", spec := "mtfNil", inPlace := ["internal/bytealg.IndexByte", "internal/abi.NoEscape", "internal/bytealg.MakeNoZero"], apart := false, narrowed := true }
def MtfNilUptoSaid : Prop := mtfNilUptoRow.holds Try.pinned (OpenSpec.upto mtfNilSpec)

end Rows
end Go.Proofs.Ythpgddodfnjmbaa
