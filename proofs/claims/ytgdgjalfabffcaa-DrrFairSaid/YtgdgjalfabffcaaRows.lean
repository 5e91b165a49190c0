/-
  No cell of these rows narrows 'for every input' (looked for: loops, veiled, ifaces, maps, wideKeys, modest, calm, conditions, laid).
  DERIVED. THE GIVEN ROWS OF THIS SEAT. 8 by the template 'for every input the law returns true; each argument reads behind the call as it read before'; 0 by the template 'total and deterministic' (their statements: YtgdgjalfabffcaaTotals.lean).
  GIVEN WITH THE SEED: the statements are not yours to turn. If you find one false, say at which input.
  Laid BY PROGRAM, IN A SANDBOX (cutbox-rows.mjs): the forced cells as the released guide's own fill.sh prints them over the translation 7a8824f37ec1b817… (all of the seat's roots in one cut). By AI agents, Wed Nov 11 2026. No macro, syntax, notation, axiom, sorry.
-/
import Derived.Test.YtgdgjalfabffcaaChecked
import GoSem.Claim
import GoSem.ClaimJoined
import GoSem.ClaimMapViews
import Derived.JoinedTies
import Derived.KernelRfl
namespace Go.Proofs.Ytgdgjalfabffcaa
/- THE CELL 'sum', in the pinned program and in every row, IS THE sha256 OF THE DUMP (.gsa) THAT YtgdgjalfabffcaaProg.lean LOADS. Nothing in Lean hashes anything: it is a label: what it is worth is what the hold of that sum in a sandbox is worth. -/
noncomputable def Try.pinned : Pinned := { name := "ytgdgjalfabffcaa", sum := "7a8824f37ec1b817657ebc807185007e92869ca03e187c548e2774703bed3cc0", checked := Try.checked }
namespace Rows
def none {H : Type} : Left H := { results := [], args := [] }

/-- 'balerlaw29.QueueActs': WHATEVER THE INPUT: true; the input reads as it did. -/
def queueActsSpec : ChangeSpec := { name := "queueActs", fn := fun _ => fun
  | [d1, d2] => { results := [.lit (.bool true)], args := [d1, d2] }
  | _ => none }
def queueActsRow : OpenClaim := { program := "ytgdgjalfabffcaa", sum := "7a8824f37ec1b817657ebc807185007e92869ca03e187c548e2774703bed3cc0", func := "baler/balerlaw29.QueueActs", spec := "queueActs", apart := false }
def QueueActsSaid : Prop := queueActsRow.holds Try.pinned (OpenSpec.ofChange queueActsSpec)

/-- ITS FALSE NEIGHBOUR: 'it returns false'. Refute it at one input. -/
def queueActsWrong : ChangeSpec := { name := "queueActs", fn := fun _ => fun
  | [d1, d2] => { results := [.lit (.bool false)], args := [d1, d2] }
  | _ => none }
def QueueActsWrongFalsely : Prop := queueActsRow.holds Try.pinned (OpenSpec.ofChange queueActsWrong)

/-- 'balerlaw29.QueueOrder': WHATEVER THE INPUT: true; the input reads as it did. -/
def queueOrderSpec : ChangeSpec := { name := "queueOrder", fn := fun _ => fun
  | [d] => { results := [.lit (.bool true)], args := [d] }
  | _ => none }
def queueOrderRow : OpenClaim := { program := "ytgdgjalfabffcaa", sum := "7a8824f37ec1b817657ebc807185007e92869ca03e187c548e2774703bed3cc0", func := "baler/balerlaw29.QueueOrder", spec := "queueOrder", apart := false }
def QueueOrderSaid : Prop := queueOrderRow.holds Try.pinned (OpenSpec.ofChange queueOrderSpec)

/-- ITS FALSE NEIGHBOUR: 'it returns false'. Refute it at one input. -/
def queueOrderWrong : ChangeSpec := { name := "queueOrder", fn := fun _ => fun
  | [d] => { results := [.lit (.bool false)], args := [d] }
  | _ => none }
def QueueOrderWrongFalsely : Prop := queueOrderRow.holds Try.pinned (OpenSpec.ofChange queueOrderWrong)

/-- 'balerlaw29.QueueRound': WHATEVER THE INPUT: true; the input reads as it did. -/
def queueRoundSpec : ChangeSpec := { name := "queueRound", fn := fun _ => fun
  | [d] => { results := [.lit (.bool true)], args := [d] }
  | _ => none }
def queueRoundRow : OpenClaim := { program := "ytgdgjalfabffcaa", sum := "7a8824f37ec1b817657ebc807185007e92869ca03e187c548e2774703bed3cc0", func := "baler/balerlaw29.QueueRound", spec := "queueRound", apart := false }
def QueueRoundSaid : Prop := queueRoundRow.holds Try.pinned (OpenSpec.ofChange queueRoundSpec)

/-- ITS FALSE NEIGHBOUR: 'it returns false'. Refute it at one input. -/
def queueRoundWrong : ChangeSpec := { name := "queueRound", fn := fun _ => fun
  | [d] => { results := [.lit (.bool false)], args := [d] }
  | _ => none }
def QueueRoundWrongFalsely : Prop := queueRoundRow.holds Try.pinned (OpenSpec.ofChange queueRoundWrong)

/-- 'balerlaw29.QueueNil': WHATEVER THE INPUT: true; the input reads as it did. -/
def queueNilSpec : ChangeSpec := { name := "queueNil", fn := fun _ => fun
  | [d] => { results := [.lit (.bool true)], args := [d] }
  | _ => none }
def queueNilRow : OpenClaim := { program := "ytgdgjalfabffcaa", sum := "7a8824f37ec1b817657ebc807185007e92869ca03e187c548e2774703bed3cc0", func := "baler/balerlaw29.QueueNil", spec := "queueNil", apart := false }
def QueueNilSaid : Prop := queueNilRow.holds Try.pinned (OpenSpec.ofChange queueNilSpec)

/-- ITS FALSE NEIGHBOUR: 'it returns false'. Refute it at one input. -/
def queueNilWrong : ChangeSpec := { name := "queueNil", fn := fun _ => fun
  | [d] => { results := [.lit (.bool false)], args := [d] }
  | _ => none }
def QueueNilWrongFalsely : Prop := queueNilRow.holds Try.pinned (OpenSpec.ofChange queueNilWrong)

/-- 'balerlaw30.DrrActs': WHATEVER THE INPUT: true; the input reads as it did. -/
def drrActsSpec : ChangeSpec := { name := "drrActs", fn := fun _ => fun
  | [d1, d2] => { results := [.lit (.bool true)], args := [d1, d2] }
  | _ => none }
def drrActsRow : OpenClaim := { program := "ytgdgjalfabffcaa", sum := "7a8824f37ec1b817657ebc807185007e92869ca03e187c548e2774703bed3cc0", func := "baler/balerlaw30.DrrActs", spec := "drrActs", unfollowed := true, recurses := true, apart := false }
def DrrActsSaid : Prop := drrActsRow.holds Try.pinned (OpenSpec.ofChange drrActsSpec)

/-- ITS FALSE NEIGHBOUR: 'it returns false'. Refute it at one input. -/
def drrActsWrong : ChangeSpec := { name := "drrActs", fn := fun _ => fun
  | [d1, d2] => { results := [.lit (.bool false)], args := [d1, d2] }
  | _ => none }
def DrrActsWrongFalsely : Prop := drrActsRow.holds Try.pinned (OpenSpec.ofChange drrActsWrong)

/-- 'balerlaw30.DrrRing': WHATEVER THE INPUT: true; the input reads as it did. -/
def drrRingSpec : ChangeSpec := { name := "drrRing", fn := fun _ => fun
  | [d1, d2] => { results := [.lit (.bool true)], args := [d1, d2] }
  | _ => none }
def drrRingRow : OpenClaim := { program := "ytgdgjalfabffcaa", sum := "7a8824f37ec1b817657ebc807185007e92869ca03e187c548e2774703bed3cc0", func := "baler/balerlaw30.DrrRing", spec := "drrRing", unfollowed := true, recurses := true, apart := false }
def DrrRingSaid : Prop := drrRingRow.holds Try.pinned (OpenSpec.ofChange drrRingSpec)

/-- ITS FALSE NEIGHBOUR: 'it returns false'. Refute it at one input. -/
def drrRingWrong : ChangeSpec := { name := "drrRing", fn := fun _ => fun
  | [d1, d2] => { results := [.lit (.bool false)], args := [d1, d2] }
  | _ => none }
def DrrRingWrongFalsely : Prop := drrRingRow.holds Try.pinned (OpenSpec.ofChange drrRingWrong)

/-- 'balerlaw30.DrrFair': WHATEVER THE INPUT: true; the input reads as it did. -/
def drrFairSpec : ChangeSpec := { name := "drrFair", fn := fun _ => fun
  | [d1, d2, d3] => { results := [.lit (.bool true)], args := [d1, d2, d3] }
  | _ => none }
def drrFairRow : OpenClaim := { program := "ytgdgjalfabffcaa", sum := "7a8824f37ec1b817657ebc807185007e92869ca03e187c548e2774703bed3cc0", func := "baler/balerlaw30.DrrFair", spec := "drrFair", unfollowed := true, recurses := true, apart := false }
def DrrFairSaid : Prop := drrFairRow.holds Try.pinned (OpenSpec.ofChange drrFairSpec)

/-- ITS FALSE NEIGHBOUR: 'it returns false'. Refute it at one input. -/
def drrFairWrong : ChangeSpec := { name := "drrFair", fn := fun _ => fun
  | [d1, d2, d3] => { results := [.lit (.bool false)], args := [d1, d2, d3] }
  | _ => none }
def DrrFairWrongFalsely : Prop := drrFairRow.holds Try.pinned (OpenSpec.ofChange drrFairWrong)

/-- 'balerlaw30.DrrNil': WHATEVER THE INPUT: true; the input reads as it did. -/
def drrNilSpec : ChangeSpec := { name := "drrNil", fn := fun _ => fun
  | [d] => { results := [.lit (.bool true)], args := [d] }
  | _ => none }
def drrNilRow : OpenClaim := { program := "ytgdgjalfabffcaa", sum := "7a8824f37ec1b817657ebc807185007e92869ca03e187c548e2774703bed3cc0", func := "baler/balerlaw30.DrrNil", spec := "drrNil", unfollowed := true, recurses := true, apart := false }
def DrrNilSaid : Prop := drrNilRow.holds Try.pinned (OpenSpec.ofChange drrNilSpec)

/-- ITS FALSE NEIGHBOUR: 'it returns false'. Refute it at one input. -/
def drrNilWrong : ChangeSpec := { name := "drrNil", fn := fun _ => fun
  | [d] => { results := [.lit (.bool false)], args := [d] }
  | _ => none }
def DrrNilWrongFalsely : Prop := drrNilRow.holds Try.pinned (OpenSpec.ofChange drrNilWrong)

/- THE SECOND FORM. 'bulk': how many values and letters a reading holds, each counted each time it is reached (what is shared counts as often as it is met; a slice's spare places count too). A statement '..UptoSaid' is the law's where the arguments, and the package variables that the reading takes, are together of bulk at most 1048576: NARROWER than '..Said'. Prove '..Said' where nothing that the law and all that it calls make is longer than what came in: it says more and counts as full. Else prove '..UptoSaid'. A law counts once. -/
mutual
def uptoBulk {H : Type} : DataW H → Nat
  | .lit (.string bytes) => bytes.length + 1
  | .lit _ => 1
  | .nil => 1
  | .ptr d => uptoBulk d + 1
  | .slice elems spare => uptoBulkAll elems + uptoBulkAll spare + 1
  | .agg parts => uptoBulkAll parts + 1
  | .iface _ d => uptoBulk d + 1
  | .map entries => uptoBulkEntries entries + 1
  | .held _ => 1
def uptoBulkAll {H : Type} : List (DataW H) → Nat
  | [] => 0
  | d :: r => uptoBulk d + uptoBulkAll r
def uptoBulkEntries {H : Type} : List (Lit × DataW H) → Nat
  | [] => 0
  | x :: r => uptoBulkEntry x + uptoBulkEntries r
def uptoBulkEntry {H : Type} : Lit × DataW H → Nat
  | (.string bytes, d) => bytes.length + uptoBulk d + 1
  | (_, d) => uptoBulk d + 1
 end
def uptoSmall : (H : Type) → List (DataW H) → Bool := fun _ ds => decide (uptoBulkAll ds ≤ 1048576)
def OpenSpec.upto (s : _root_.Go.ChangeSpec) : _root_.Go.OpenSpec := { _root_.Go.OpenSpec.ofChange s with cond := some uptoSmall }

/-- 'balerlaw29.QueueActs', WHERE WHAT IT READS IS OF BULK AT MOST 1048576: true; the input reads as it did. -/
def queueActsUptoRow : OpenClaim := { program := "ytgdgjalfabffcaa", sum := "7a8824f37ec1b817657ebc807185007e92869ca03e187c548e2774703bed3cc0", func := "baler/balerlaw29.QueueActs", spec := "queueActs", apart := false, narrowed := true }
def QueueActsUptoSaid : Prop := queueActsUptoRow.holds Try.pinned (OpenSpec.upto queueActsSpec)

/-- 'balerlaw29.QueueOrder', WHERE WHAT IT READS IS OF BULK AT MOST 1048576: true; the input reads as it did. -/
def queueOrderUptoRow : OpenClaim := { program := "ytgdgjalfabffcaa", sum := "7a8824f37ec1b817657ebc807185007e92869ca03e187c548e2774703bed3cc0", func := "baler/balerlaw29.QueueOrder", spec := "queueOrder", apart := false, narrowed := true }
def QueueOrderUptoSaid : Prop := queueOrderUptoRow.holds Try.pinned (OpenSpec.upto queueOrderSpec)

/-- 'balerlaw29.QueueRound', WHERE WHAT IT READS IS OF BULK AT MOST 1048576: true; the input reads as it did. -/
def queueRoundUptoRow : OpenClaim := { program := "ytgdgjalfabffcaa", sum := "7a8824f37ec1b817657ebc807185007e92869ca03e187c548e2774703bed3cc0", func := "baler/balerlaw29.QueueRound", spec := "queueRound", apart := false, narrowed := true }
def QueueRoundUptoSaid : Prop := queueRoundUptoRow.holds Try.pinned (OpenSpec.upto queueRoundSpec)

/-- 'balerlaw29.QueueNil', WHERE WHAT IT READS IS OF BULK AT MOST 1048576: true; the input reads as it did. -/
def queueNilUptoRow : OpenClaim := { program := "ytgdgjalfabffcaa", sum := "7a8824f37ec1b817657ebc807185007e92869ca03e187c548e2774703bed3cc0", func := "baler/balerlaw29.QueueNil", spec := "queueNil", apart := false, narrowed := true }
def QueueNilUptoSaid : Prop := queueNilUptoRow.holds Try.pinned (OpenSpec.upto queueNilSpec)

/-- 'balerlaw30.DrrActs', WHERE WHAT IT READS IS OF BULK AT MOST 1048576: true; the input reads as it did. -/
def drrActsUptoRow : OpenClaim := { program := "ytgdgjalfabffcaa", sum := "7a8824f37ec1b817657ebc807185007e92869ca03e187c548e2774703bed3cc0", func := "baler/balerlaw30.DrrActs", spec := "drrActs", unfollowed := true, recurses := true, apart := false, narrowed := true }
def DrrActsUptoSaid : Prop := drrActsUptoRow.holds Try.pinned (OpenSpec.upto drrActsSpec)

/-- 'balerlaw30.DrrRing', WHERE WHAT IT READS IS OF BULK AT MOST 1048576: true; the input reads as it did. -/
def drrRingUptoRow : OpenClaim := { program := "ytgdgjalfabffcaa", sum := "7a8824f37ec1b817657ebc807185007e92869ca03e187c548e2774703bed3cc0", func := "baler/balerlaw30.DrrRing", spec := "drrRing", unfollowed := true, recurses := true, apart := false, narrowed := true }
def DrrRingUptoSaid : Prop := drrRingUptoRow.holds Try.pinned (OpenSpec.upto drrRingSpec)

/-- 'balerlaw30.DrrFair', WHERE WHAT IT READS IS OF BULK AT MOST 1048576: true; the input reads as it did. -/
def drrFairUptoRow : OpenClaim := { program := "ytgdgjalfabffcaa", sum := "7a8824f37ec1b817657ebc807185007e92869ca03e187c548e2774703bed3cc0", func := "baler/balerlaw30.DrrFair", spec := "drrFair", unfollowed := true, recurses := true, apart := false, narrowed := true }
def DrrFairUptoSaid : Prop := drrFairUptoRow.holds Try.pinned (OpenSpec.upto drrFairSpec)

/-- 'balerlaw30.DrrNil', WHERE WHAT IT READS IS OF BULK AT MOST 1048576: true; the input reads as it did. -/
def drrNilUptoRow : OpenClaim := { program := "ytgdgjalfabffcaa", sum := "7a8824f37ec1b817657ebc807185007e92869ca03e187c548e2774703bed3cc0", func := "baler/balerlaw30.DrrNil", spec := "drrNil", unfollowed := true, recurses := true, apart := false, narrowed := true }
def DrrNilUptoSaid : Prop := drrNilUptoRow.holds Try.pinned (OpenSpec.upto drrNilSpec)

end Rows
end Go.Proofs.Ytgdgjalfabffcaa
