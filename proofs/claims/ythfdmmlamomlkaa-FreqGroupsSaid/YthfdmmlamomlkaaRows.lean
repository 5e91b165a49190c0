/-
  No cell of these rows narrows 'for every input' (looked for: loops, veiled, ifaces, maps, wideKeys, modest, calm, conditions, laid).
  DERIVED. THE GIVEN ROWS OF THIS SEAT. 13 by the template 'for every input the law returns true; each argument reads behind the call as it read before'; 0 by the template 'total and deterministic' (their statements: YthfdmmlamomlkaaTotals.lean).
  GIVEN WITH THE SEED: the statements are not yours to turn. If you find one false, say at which input.
  Laid BY PROGRAM, IN A SANDBOX (cutbox-rows.mjs): the forced cells as the released guide's own fill.sh prints them over the translation c3bfa473a2c95d0b… (all of the seat's roots in one cut). By AI agents, Wed Nov 11 2026. No macro, syntax, notation, axiom, sorry.
-/
import Derived.Test.YthfdmmlamomlkaaChecked
import GoSem.Claim
import GoSem.ClaimJoined
import GoSem.ClaimMapViews
import Derived.JoinedTies
import Derived.KernelRfl
namespace Go.Proofs.Ythfdmmlamomlkaa
/- THE CELL 'sum', in the pinned program and in every row, IS THE sha256 OF THE DUMP (.gsa) THAT YthfdmmlamomlkaaProg.lean LOADS. Nothing in Lean hashes anything: it is a label: what it is worth is what the hold of that sum in a sandbox is worth. -/
noncomputable def Try.pinned : Pinned := { name := "ythfdmmlamomlkaa", sum := "c3bfa473a2c95d0bb543f8549646d945fa10a8f9f0fc7faca896d5d40b0595a2", checked := Try.checked }
namespace Rows
def none {H : Type} : Left H := { results := [], args := [] }

/-- 'balerlaw07.ZerosRow': WHATEVER THE INPUT: true; the input reads as it did. -/
def zerosRowSpec : ChangeSpec := { name := "zerosRow", fn := fun _ => fun
  | [d] => { results := [.lit (.bool true)], args := [d] }
  | _ => none }
def zerosRowRow : OpenClaim := { program := "ythfdmmlamomlkaa", sum := "c3bfa473a2c95d0bb543f8549646d945fa10a8f9f0fc7faca896d5d40b0595a2", func := "baler/balerlaw07.ZerosRow", spec := "zerosRow", recurses := true, apart := false }
def ZerosRowSaid : Prop := zerosRowRow.holds Try.pinned (OpenSpec.ofChange zerosRowSpec)

/-- ITS FALSE NEIGHBOUR: 'it returns false'. Refute it at one input. -/
def zerosRowWrong : ChangeSpec := { name := "zerosRow", fn := fun _ => fun
  | [d] => { results := [.lit (.bool false)], args := [d] }
  | _ => none }
def ZerosRowWrongFalsely : Prop := zerosRowRow.holds Try.pinned (OpenSpec.ofChange zerosRowWrong)

/-- 'balerlaw07.ZerosEncodes': WHATEVER THE INPUT: true; the input reads as it did. -/
def zerosEncodesSpec : ChangeSpec := { name := "zerosEncodes", fn := fun _ => fun
  | [d1, d2] => { results := [.lit (.bool true)], args := [d1, d2] }
  | _ => none }
def zerosEncodesRow : OpenClaim := { program := "ythfdmmlamomlkaa", sum := "c3bfa473a2c95d0bb543f8549646d945fa10a8f9f0fc7faca896d5d40b0595a2", func := "baler/balerlaw07.ZerosEncodes", spec := "zerosEncodes", recurses := true, apart := false }
def ZerosEncodesSaid : Prop := zerosEncodesRow.holds Try.pinned (OpenSpec.ofChange zerosEncodesSpec)

/-- ITS FALSE NEIGHBOUR: 'it returns false'. Refute it at one input. -/
def zerosEncodesWrong : ChangeSpec := { name := "zerosEncodes", fn := fun _ => fun
  | [d1, d2] => { results := [.lit (.bool false)], args := [d1, d2] }
  | _ => none }
def ZerosEncodesWrongFalsely : Prop := zerosEncodesRow.holds Try.pinned (OpenSpec.ofChange zerosEncodesWrong)

/-- 'balerlaw07.ZerosReads': WHATEVER THE INPUT: true; the input reads as it did. -/
def zerosReadsSpec : ChangeSpec := { name := "zerosReads", fn := fun _ => fun
  | [d1, d2, d3] => { results := [.lit (.bool true)], args := [d1, d2, d3] }
  | _ => none }
def zerosReadsRow : OpenClaim := { program := "ythfdmmlamomlkaa", sum := "c3bfa473a2c95d0bb543f8549646d945fa10a8f9f0fc7faca896d5d40b0595a2", func := "baler/balerlaw07.ZerosReads", spec := "zerosReads", apart := false }
def ZerosReadsSaid : Prop := zerosReadsRow.holds Try.pinned (OpenSpec.ofChange zerosReadsSpec)

/-- ITS FALSE NEIGHBOUR: 'it returns false'. Refute it at one input. -/
def zerosReadsWrong : ChangeSpec := { name := "zerosReads", fn := fun _ => fun
  | [d1, d2, d3] => { results := [.lit (.bool false)], args := [d1, d2, d3] }
  | _ => none }
def ZerosReadsWrongFalsely : Prop := zerosReadsRow.holds Try.pinned (OpenSpec.ofChange zerosReadsWrong)

/-- 'balerlaw07.ZerosDecodes': WHATEVER THE INPUT: true; the input reads as it did. -/
def zerosDecodesSpec : ChangeSpec := { name := "zerosDecodes", fn := fun _ => fun
  | [d1, d2, d3] => { results := [.lit (.bool true)], args := [d1, d2, d3] }
  | _ => none }
def zerosDecodesRow : OpenClaim := { program := "ythfdmmlamomlkaa", sum := "c3bfa473a2c95d0bb543f8549646d945fa10a8f9f0fc7faca896d5d40b0595a2", func := "baler/balerlaw07.ZerosDecodes", spec := "zerosDecodes", apart := false }
def ZerosDecodesSaid : Prop := zerosDecodesRow.holds Try.pinned (OpenSpec.ofChange zerosDecodesSpec)

/-- ITS FALSE NEIGHBOUR: 'it returns false'. Refute it at one input. -/
def zerosDecodesWrong : ChangeSpec := { name := "zerosDecodes", fn := fun _ => fun
  | [d1, d2, d3] => { results := [.lit (.bool false)], args := [d1, d2, d3] }
  | _ => none }
def ZerosDecodesWrongFalsely : Prop := zerosDecodesRow.holds Try.pinned (OpenSpec.ofChange zerosDecodesWrong)

/-- 'balerlaw07.ZerosBack': WHATEVER THE INPUT: true; the input reads as it did. -/
def zerosBackSpec : ChangeSpec := { name := "zerosBack", fn := fun _ => fun
  | [d1, d2] => { results := [.lit (.bool true)], args := [d1, d2] }
  | _ => none }
def zerosBackRow : OpenClaim := { program := "ythfdmmlamomlkaa", sum := "c3bfa473a2c95d0bb543f8549646d945fa10a8f9f0fc7faca896d5d40b0595a2", func := "baler/balerlaw07.ZerosBack", spec := "zerosBack", recurses := true, apart := false }
def ZerosBackSaid : Prop := zerosBackRow.holds Try.pinned (OpenSpec.ofChange zerosBackSpec)

/-- ITS FALSE NEIGHBOUR: 'it returns false'. Refute it at one input. -/
def zerosBackWrong : ChangeSpec := { name := "zerosBack", fn := fun _ => fun
  | [d1, d2] => { results := [.lit (.bool false)], args := [d1, d2] }
  | _ => none }
def ZerosBackWrongFalsely : Prop := zerosBackRow.holds Try.pinned (OpenSpec.ofChange zerosBackWrong)

/-- 'balerlaw07.ZerosForth': WHATEVER THE INPUT: true; the input reads as it did. -/
def zerosForthSpec : ChangeSpec := { name := "zerosForth", fn := fun _ => fun
  | [d1, d2] => { results := [.lit (.bool true)], args := [d1, d2] }
  | _ => none }
def zerosForthRow : OpenClaim := { program := "ythfdmmlamomlkaa", sum := "c3bfa473a2c95d0bb543f8549646d945fa10a8f9f0fc7faca896d5d40b0595a2", func := "baler/balerlaw07.ZerosForth", spec := "zerosForth", apart := false }
def ZerosForthSaid : Prop := zerosForthRow.holds Try.pinned (OpenSpec.ofChange zerosForthSpec)

/-- ITS FALSE NEIGHBOUR: 'it returns false'. Refute it at one input. -/
def zerosForthWrong : ChangeSpec := { name := "zerosForth", fn := fun _ => fun
  | [d1, d2] => { results := [.lit (.bool false)], args := [d1, d2] }
  | _ => none }
def ZerosForthWrongFalsely : Prop := zerosForthRow.holds Try.pinned (OpenSpec.ofChange zerosForthWrong)

/-- 'balerlaw07.ZerosNil': WHATEVER THE INPUT: true; the input reads as it did. -/
def zerosNilSpec : ChangeSpec := { name := "zerosNil", fn := fun _ => fun
  | [d] => { results := [.lit (.bool true)], args := [d] }
  | _ => none }
def zerosNilRow : OpenClaim := { program := "ythfdmmlamomlkaa", sum := "c3bfa473a2c95d0bb543f8549646d945fa10a8f9f0fc7faca896d5d40b0595a2", func := "baler/balerlaw07.ZerosNil", spec := "zerosNil", apart := false }
def ZerosNilSaid : Prop := zerosNilRow.holds Try.pinned (OpenSpec.ofChange zerosNilSpec)

/-- ITS FALSE NEIGHBOUR: 'it returns false'. Refute it at one input. -/
def zerosNilWrong : ChangeSpec := { name := "zerosNil", fn := fun _ => fun
  | [d] => { results := [.lit (.bool false)], args := [d] }
  | _ => none }
def ZerosNilWrongFalsely : Prop := zerosNilRow.holds Try.pinned (OpenSpec.ofChange zerosNilWrong)

/-- 'balerlaw08.FreqCounts': WHATEVER THE INPUT: true; the input reads as it did. -/
def freqCountsSpec : ChangeSpec := { name := "freqCounts", fn := fun _ => fun
  | [d1, d2] => { results := [.lit (.bool true)], args := [d1, d2] }
  | _ => none }
def freqCountsRow : OpenClaim := { program := "ythfdmmlamomlkaa", sum := "c3bfa473a2c95d0bb543f8549646d945fa10a8f9f0fc7faca896d5d40b0595a2", func := "baler/balerlaw08.FreqCounts", spec := "freqCounts", apart := false }
def FreqCountsSaid : Prop := freqCountsRow.holds Try.pinned (OpenSpec.ofChange freqCountsSpec)

/-- ITS FALSE NEIGHBOUR: 'it returns false'. Refute it at one input. -/
def freqCountsWrong : ChangeSpec := { name := "freqCounts", fn := fun _ => fun
  | [d1, d2] => { results := [.lit (.bool false)], args := [d1, d2] }
  | _ => none }
def FreqCountsWrongFalsely : Prop := freqCountsRow.holds Try.pinned (OpenSpec.ofChange freqCountsWrong)

/-- 'balerlaw08.FreqGroups': WHATEVER THE INPUT: true; the input reads as it did. -/
def freqGroupsSpec : ChangeSpec := { name := "freqGroups", fn := fun _ => fun
  | [d1, d2, d3] => { results := [.lit (.bool true)], args := [d1, d2, d3] }
  | _ => none }
def freqGroupsRow : OpenClaim := { program := "ythfdmmlamomlkaa", sum := "c3bfa473a2c95d0bb543f8549646d945fa10a8f9f0fc7faca896d5d40b0595a2", func := "baler/balerlaw08.FreqGroups", spec := "freqGroups", apart := false }
def FreqGroupsSaid : Prop := freqGroupsRow.holds Try.pinned (OpenSpec.ofChange freqGroupsSpec)

/-- ITS FALSE NEIGHBOUR: 'it returns false'. Refute it at one input. -/
def freqGroupsWrong : ChangeSpec := { name := "freqGroups", fn := fun _ => fun
  | [d1, d2, d3] => { results := [.lit (.bool false)], args := [d1, d2, d3] }
  | _ => none }
def FreqGroupsWrongFalsely : Prop := freqGroupsRow.holds Try.pinned (OpenSpec.ofChange freqGroupsWrong)

/-- 'balerlaw08.FreqCosts': WHATEVER THE INPUT: true; the input reads as it did. -/
def freqCostsSpec : ChangeSpec := { name := "freqCosts", fn := fun _ => fun
  | [d1, d2] => { results := [.lit (.bool true)], args := [d1, d2] }
  | _ => none }
def freqCostsRow : OpenClaim := { program := "ythfdmmlamomlkaa", sum := "c3bfa473a2c95d0bb543f8549646d945fa10a8f9f0fc7faca896d5d40b0595a2", func := "baler/balerlaw08.FreqCosts", spec := "freqCosts", apart := false }
def FreqCostsSaid : Prop := freqCostsRow.holds Try.pinned (OpenSpec.ofChange freqCostsSpec)

/-- ITS FALSE NEIGHBOUR: 'it returns false'. Refute it at one input. -/
def freqCostsWrong : ChangeSpec := { name := "freqCosts", fn := fun _ => fun
  | [d1, d2] => { results := [.lit (.bool false)], args := [d1, d2] }
  | _ => none }
def FreqCostsWrongFalsely : Prop := freqCostsRow.holds Try.pinned (OpenSpec.ofChange freqCostsWrong)

/-- 'balerlaw08.FreqAdds': WHATEVER THE INPUT: true; the input reads as it did. -/
def freqAddsSpec : ChangeSpec := { name := "freqAdds", fn := fun _ => fun
  | [d1, d2] => { results := [.lit (.bool true)], args := [d1, d2] }
  | _ => none }
def freqAddsRow : OpenClaim := { program := "ythfdmmlamomlkaa", sum := "c3bfa473a2c95d0bb543f8549646d945fa10a8f9f0fc7faca896d5d40b0595a2", func := "baler/balerlaw08.FreqAdds", spec := "freqAdds", apart := false }
def FreqAddsSaid : Prop := freqAddsRow.holds Try.pinned (OpenSpec.ofChange freqAddsSpec)

/-- ITS FALSE NEIGHBOUR: 'it returns false'. Refute it at one input. -/
def freqAddsWrong : ChangeSpec := { name := "freqAdds", fn := fun _ => fun
  | [d1, d2] => { results := [.lit (.bool false)], args := [d1, d2] }
  | _ => none }
def FreqAddsWrongFalsely : Prop := freqAddsRow.holds Try.pinned (OpenSpec.ofChange freqAddsWrong)

/-- 'balerlaw08.FreqParts': WHATEVER THE INPUT: true; the input reads as it did. -/
def freqPartsSpec : ChangeSpec := { name := "freqParts", fn := fun _ => fun
  | [d1, d2] => { results := [.lit (.bool true)], args := [d1, d2] }
  | _ => none }
def freqPartsRow : OpenClaim := { program := "ythfdmmlamomlkaa", sum := "c3bfa473a2c95d0bb543f8549646d945fa10a8f9f0fc7faca896d5d40b0595a2", func := "baler/balerlaw08.FreqParts", spec := "freqParts", apart := false }
def FreqPartsSaid : Prop := freqPartsRow.holds Try.pinned (OpenSpec.ofChange freqPartsSpec)

/-- ITS FALSE NEIGHBOUR: 'it returns false'. Refute it at one input. -/
def freqPartsWrong : ChangeSpec := { name := "freqParts", fn := fun _ => fun
  | [d1, d2] => { results := [.lit (.bool false)], args := [d1, d2] }
  | _ => none }
def FreqPartsWrongFalsely : Prop := freqPartsRow.holds Try.pinned (OpenSpec.ofChange freqPartsWrong)

/-- 'balerlaw08.FreqWeighed': WHATEVER THE INPUT: true; the input reads as it did. -/
def freqWeighedSpec : ChangeSpec := { name := "freqWeighed", fn := fun _ => fun
  | [d1, d2] => { results := [.lit (.bool true)], args := [d1, d2] }
  | _ => none }
def freqWeighedRow : OpenClaim := { program := "ythfdmmlamomlkaa", sum := "c3bfa473a2c95d0bb543f8549646d945fa10a8f9f0fc7faca896d5d40b0595a2", func := "baler/balerlaw08.FreqWeighed", spec := "freqWeighed", apart := false }
def FreqWeighedSaid : Prop := freqWeighedRow.holds Try.pinned (OpenSpec.ofChange freqWeighedSpec)

/-- ITS FALSE NEIGHBOUR: 'it returns false'. Refute it at one input. -/
def freqWeighedWrong : ChangeSpec := { name := "freqWeighed", fn := fun _ => fun
  | [d1, d2] => { results := [.lit (.bool false)], args := [d1, d2] }
  | _ => none }
def FreqWeighedWrongFalsely : Prop := freqWeighedRow.holds Try.pinned (OpenSpec.ofChange freqWeighedWrong)

/- THE SECOND FORM. 'bulk': how many values and letters a reading holds, each counted each time it is reached (what is shared counts as often as it is met; a slice's spare places count too). A statement '..UptoSaid' is the law's where the arguments, and the package variables that the reading takes, are together of bulk at most 1048576: NARROWER than '..Said'. Prove '..Said' where nothing that the law and all that it calls make is longer than what came in: it says more and counts as full. Else prove '..UptoSaid'. A law counts once. -/
mutual
def uptoBulk {H : Type} : DataW H → Nat
  | .lit (.string bytes) => bytes.length + 1
  | .lit _ => 1
  | .nil => 1
  | .ptr d => uptoBulk d + 1
  | .slice elems spare => uptoBulkAll elems + uptoBulkAll spare + 1
  | .agg parts => uptoBulkAll parts + 1
  | .iface _ d => uptoBulk d + 1
  | .map entries => uptoBulkEntries entries + 1
  | .held _ => 1
def uptoBulkAll {H : Type} : List (DataW H) → Nat
  | [] => 0
  | d :: r => uptoBulk d + uptoBulkAll r
def uptoBulkEntries {H : Type} : List (Lit × DataW H) → Nat
  | [] => 0
  | x :: r => uptoBulkEntry x + uptoBulkEntries r
def uptoBulkEntry {H : Type} : Lit × DataW H → Nat
  | (.string bytes, d) => bytes.length + uptoBulk d + 1
  | (_, d) => uptoBulk d + 1
 end
def uptoSmall : (H : Type) → List (DataW H) → Bool := fun _ ds => decide (uptoBulkAll ds ≤ 1048576)
def OpenSpec.upto (s : _root_.Go.ChangeSpec) : _root_.Go.OpenSpec := { _root_.Go.OpenSpec.ofChange s with cond := some uptoSmall }

/-- 'balerlaw07.ZerosRow', WHERE WHAT IT READS IS OF BULK AT MOST 1048576: true; the input reads as it did. -/
def zerosRowUptoRow : OpenClaim := { program := "ythfdmmlamomlkaa", sum := "c3bfa473a2c95d0bb543f8549646d945fa10a8f9f0fc7faca896d5d40b0595a2", func := "baler/balerlaw07.ZerosRow", spec := "zerosRow", recurses := true, apart := false, narrowed := true }
def ZerosRowUptoSaid : Prop := zerosRowUptoRow.holds Try.pinned (OpenSpec.upto zerosRowSpec)

/-- 'balerlaw07.ZerosEncodes', WHERE WHAT IT READS IS OF BULK AT MOST 1048576: true; the input reads as it did. -/
def zerosEncodesUptoRow : OpenClaim := { program := "ythfdmmlamomlkaa", sum := "c3bfa473a2c95d0bb543f8549646d945fa10a8f9f0fc7faca896d5d40b0595a2", func := "baler/balerlaw07.ZerosEncodes", spec := "zerosEncodes", recurses := true, apart := false, narrowed := true }
def ZerosEncodesUptoSaid : Prop := zerosEncodesUptoRow.holds Try.pinned (OpenSpec.upto zerosEncodesSpec)

/-- 'balerlaw07.ZerosReads', WHERE WHAT IT READS IS OF BULK AT MOST 1048576: true; the input reads as it did. -/
def zerosReadsUptoRow : OpenClaim := { program := "ythfdmmlamomlkaa", sum := "c3bfa473a2c95d0bb543f8549646d945fa10a8f9f0fc7faca896d5d40b0595a2", func := "baler/balerlaw07.ZerosReads", spec := "zerosReads", apart := false, narrowed := true }
def ZerosReadsUptoSaid : Prop := zerosReadsUptoRow.holds Try.pinned (OpenSpec.upto zerosReadsSpec)

/-- 'balerlaw07.ZerosDecodes', WHERE WHAT IT READS IS OF BULK AT MOST 1048576: true; the input reads as it did. -/
def zerosDecodesUptoRow : OpenClaim := { program := "ythfdmmlamomlkaa", sum := "c3bfa473a2c95d0bb543f8549646d945fa10a8f9f0fc7faca896d5d40b0595a2", func := "baler/balerlaw07.ZerosDecodes", spec := "zerosDecodes", apart := false, narrowed := true }
def ZerosDecodesUptoSaid : Prop := zerosDecodesUptoRow.holds Try.pinned (OpenSpec.upto zerosDecodesSpec)

/-- 'balerlaw07.ZerosBack', WHERE WHAT IT READS IS OF BULK AT MOST 1048576: true; the input reads as it did. -/
def zerosBackUptoRow : OpenClaim := { program := "ythfdmmlamomlkaa", sum := "c3bfa473a2c95d0bb543f8549646d945fa10a8f9f0fc7faca896d5d40b0595a2", func := "baler/balerlaw07.ZerosBack", spec := "zerosBack", recurses := true, apart := false, narrowed := true }
def ZerosBackUptoSaid : Prop := zerosBackUptoRow.holds Try.pinned (OpenSpec.upto zerosBackSpec)

/-- 'balerlaw07.ZerosForth', WHERE WHAT IT READS IS OF BULK AT MOST 1048576: true; the input reads as it did. -/
def zerosForthUptoRow : OpenClaim := { program := "ythfdmmlamomlkaa", sum := "c3bfa473a2c95d0bb543f8549646d945fa10a8f9f0fc7faca896d5d40b0595a2", func := "baler/balerlaw07.ZerosForth", spec := "zerosForth", apart := false, narrowed := true }
def ZerosForthUptoSaid : Prop := zerosForthUptoRow.holds Try.pinned (OpenSpec.upto zerosForthSpec)

/-- 'balerlaw07.ZerosNil', WHERE WHAT IT READS IS OF BULK AT MOST 1048576: true; the input reads as it did. -/
def zerosNilUptoRow : OpenClaim := { program := "ythfdmmlamomlkaa", sum := "c3bfa473a2c95d0bb543f8549646d945fa10a8f9f0fc7faca896d5d40b0595a2", func := "baler/balerlaw07.ZerosNil", spec := "zerosNil", apart := false, narrowed := true }
def ZerosNilUptoSaid : Prop := zerosNilUptoRow.holds Try.pinned (OpenSpec.upto zerosNilSpec)

/-- 'balerlaw08.FreqCounts', WHERE WHAT IT READS IS OF BULK AT MOST 1048576: true; the input reads as it did. -/
def freqCountsUptoRow : OpenClaim := { program := "ythfdmmlamomlkaa", sum := "c3bfa473a2c95d0bb543f8549646d945fa10a8f9f0fc7faca896d5d40b0595a2", func := "baler/balerlaw08.FreqCounts", spec := "freqCounts", apart := false, narrowed := true }
def FreqCountsUptoSaid : Prop := freqCountsUptoRow.holds Try.pinned (OpenSpec.upto freqCountsSpec)

/-- 'balerlaw08.FreqGroups', WHERE WHAT IT READS IS OF BULK AT MOST 1048576: true; the input reads as it did. -/
def freqGroupsUptoRow : OpenClaim := { program := "ythfdmmlamomlkaa", sum := "c3bfa473a2c95d0bb543f8549646d945fa10a8f9f0fc7faca896d5d40b0595a2", func := "baler/balerlaw08.FreqGroups", spec := "freqGroups", apart := false, narrowed := true }
def FreqGroupsUptoSaid : Prop := freqGroupsUptoRow.holds Try.pinned (OpenSpec.upto freqGroupsSpec)

/-- 'balerlaw08.FreqCosts', WHERE WHAT IT READS IS OF BULK AT MOST 1048576: true; the input reads as it did. -/
def freqCostsUptoRow : OpenClaim := { program := "ythfdmmlamomlkaa", sum := "c3bfa473a2c95d0bb543f8549646d945fa10a8f9f0fc7faca896d5d40b0595a2", func := "baler/balerlaw08.FreqCosts", spec := "freqCosts", apart := false, narrowed := true }
def FreqCostsUptoSaid : Prop := freqCostsUptoRow.holds Try.pinned (OpenSpec.upto freqCostsSpec)

/-- 'balerlaw08.FreqAdds', WHERE WHAT IT READS IS OF BULK AT MOST 1048576: true; the input reads as it did. -/
def freqAddsUptoRow : OpenClaim := { program := "ythfdmmlamomlkaa", sum := "c3bfa473a2c95d0bb543f8549646d945fa10a8f9f0fc7faca896d5d40b0595a2", func := "baler/balerlaw08.FreqAdds", spec := "freqAdds", apart := false, narrowed := true }
def FreqAddsUptoSaid : Prop := freqAddsUptoRow.holds Try.pinned (OpenSpec.upto freqAddsSpec)

/-- 'balerlaw08.FreqParts', WHERE WHAT IT READS IS OF BULK AT MOST 1048576: true; the input reads as it did. -/
def freqPartsUptoRow : OpenClaim := { program := "ythfdmmlamomlkaa", sum := "c3bfa473a2c95d0bb543f8549646d945fa10a8f9f0fc7faca896d5d40b0595a2", func := "baler/balerlaw08.FreqParts", spec := "freqParts", apart := false, narrowed := true }
def FreqPartsUptoSaid : Prop := freqPartsUptoRow.holds Try.pinned (OpenSpec.upto freqPartsSpec)

/-- 'balerlaw08.FreqWeighed', WHERE WHAT IT READS IS OF BULK AT MOST 1048576: true; the input reads as it did. -/
def freqWeighedUptoRow : OpenClaim := { program := "ythfdmmlamomlkaa", sum := "c3bfa473a2c95d0bb543f8549646d945fa10a8f9f0fc7faca896d5d40b0595a2", func := "baler/balerlaw08.FreqWeighed", spec := "freqWeighed", apart := false, narrowed := true }
def FreqWeighedUptoSaid : Prop := freqWeighedUptoRow.holds Try.pinned (OpenSpec.upto freqWeighedSpec)

end Rows
end Go.Proofs.Ythfdmmlamomlkaa
