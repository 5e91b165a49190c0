/-
  No cell of these rows narrows 'for every input' (looked for: loops, veiled, ifaces, maps, wideKeys, modest, calm, conditions, laid).
  DERIVED. THE GIVEN ROWS OF THIS SEAT. 12 by the template 'for every input the law returns true; each argument reads behind the call as it read before'; 0 by the template 'total and deterministic' (their statements: YtclmnmfdajlddaaTotals.lean).
  GIVEN WITH THE SEED: the statements are not yours to turn. If you find one false, say at which input.
  Laid BY PROGRAM, IN A SANDBOX (cutbox-rows.mjs): the forced cells as the released guide's own fill.sh prints them over the translation 0c2fad70a7ce10fb… (all of the seat's roots in one cut). By AI agents, Wed Nov 11 2026. No macro, syntax, notation, axiom, sorry.
-/
import Derived.Test.YtclmnmfdajlddaaChecked
import GoSem.Claim
import GoSem.ClaimJoined
import GoSem.ClaimMapViews
import Derived.JoinedTies
import Derived.KernelRfl
namespace Go.Proofs.Ytclmnmfdajlddaa
/- THE CELL 'sum', in the pinned program and in every row, IS THE sha256 OF THE DUMP (.gsa) THAT YtclmnmfdajlddaaProg.lean LOADS. Nothing in Lean hashes anything: it is a label: what it is worth is what the hold of that sum in a sandbox is worth. -/
noncomputable def Try.pinned : Pinned := { name := "ytclmnmfdajlddaa", sum := "0c2fad70a7ce10fb3f46419e90913171b916a1765c1338b0aff9d921ca954bca", checked := Try.checked }
namespace Rows
def none {H : Type} : Left H := { results := [], args := [] }

/-- 'balerlaw09.LensDepths': WHATEVER THE INPUT: true; the input reads as it did. -/
def lensDepthsSpec : ChangeSpec := { name := "lensDepths", fn := fun _ => fun
  | [d] => { results := [.lit (.bool true)], args := [d] }
  | _ => none }
def lensDepthsRow : OpenClaim := { program := "ytclmnmfdajlddaa", sum := "0c2fad70a7ce10fb3f46419e90913171b916a1765c1338b0aff9d921ca954bca", func := "baler/balerlaw09.LensDepths", spec := "lensDepths", unfollowed := true, recurses := true, apart := false }
def LensDepthsSaid : Prop := lensDepthsRow.holds Try.pinned (OpenSpec.ofChange lensDepthsSpec)

/-- ITS FALSE NEIGHBOUR: 'it returns false'. Refute it at one input. -/
def lensDepthsWrong : ChangeSpec := { name := "lensDepths", fn := fun _ => fun
  | [d] => { results := [.lit (.bool false)], args := [d] }
  | _ => none }
def LensDepthsWrongFalsely : Prop := lensDepthsRow.holds Try.pinned (OpenSpec.ofChange lensDepthsWrong)

/-- 'balerlaw09.LensOf': WHATEVER THE INPUT: true; the input reads as it did. -/
def lensOfSpec : ChangeSpec := { name := "lensOf", fn := fun _ => fun
  | [d] => { results := [.lit (.bool true)], args := [d] }
  | _ => none }
def lensOfRow : OpenClaim := { program := "ytclmnmfdajlddaa", sum := "0c2fad70a7ce10fb3f46419e90913171b916a1765c1338b0aff9d921ca954bca", func := "baler/balerlaw09.LensOf", spec := "lensOf", unfollowed := true, recurses := true, apart := false }
def LensOfSaid : Prop := lensOfRow.holds Try.pinned (OpenSpec.ofChange lensOfSpec)

/-- ITS FALSE NEIGHBOUR: 'it returns false'. Refute it at one input. -/
def lensOfWrong : ChangeSpec := { name := "lensOf", fn := fun _ => fun
  | [d] => { results := [.lit (.bool false)], args := [d] }
  | _ => none }
def LensOfWrongFalsely : Prop := lensOfRow.holds Try.pinned (OpenSpec.ofChange lensOfWrong)

/-- 'balerlaw09.LensShare': WHATEVER THE INPUT: true; the input reads as it did. -/
def lensShareSpec : ChangeSpec := { name := "lensShare", fn := fun _ => fun
  | [d] => { results := [.lit (.bool true)], args := [d] }
  | _ => none }
def lensShareRow : OpenClaim := { program := "ytclmnmfdajlddaa", sum := "0c2fad70a7ce10fb3f46419e90913171b916a1765c1338b0aff9d921ca954bca", func := "baler/balerlaw09.LensShare", spec := "lensShare", unfollowed := true, recurses := true, apart := false }
def LensShareSaid : Prop := lensShareRow.holds Try.pinned (OpenSpec.ofChange lensShareSpec)

/-- ITS FALSE NEIGHBOUR: 'it returns false'. Refute it at one input. -/
def lensShareWrong : ChangeSpec := { name := "lensShare", fn := fun _ => fun
  | [d] => { results := [.lit (.bool false)], args := [d] }
  | _ => none }
def LensShareWrongFalsely : Prop := lensShareRow.holds Try.pinned (OpenSpec.ofChange lensShareWrong)

/-- 'balerlaw09.LensWhole': WHATEVER THE INPUT: true; the input reads as it did. -/
def lensWholeSpec : ChangeSpec := { name := "lensWhole", fn := fun _ => fun
  | [d] => { results := [.lit (.bool true)], args := [d] }
  | _ => none }
def lensWholeRow : OpenClaim := { program := "ytclmnmfdajlddaa", sum := "0c2fad70a7ce10fb3f46419e90913171b916a1765c1338b0aff9d921ca954bca", func := "baler/balerlaw09.LensWhole", spec := "lensWhole", unfollowed := true, recurses := true, apart := false }
def LensWholeSaid : Prop := lensWholeRow.holds Try.pinned (OpenSpec.ofChange lensWholeSpec)

/-- ITS FALSE NEIGHBOUR: 'it returns false'. Refute it at one input. -/
def lensWholeWrong : ChangeSpec := { name := "lensWhole", fn := fun _ => fun
  | [d] => { results := [.lit (.bool false)], args := [d] }
  | _ => none }
def LensWholeWrongFalsely : Prop := lensWholeRow.holds Try.pinned (OpenSpec.ofChange lensWholeWrong)

/-- 'balerlaw09.LensCheap': WHATEVER THE INPUT: true; the input reads as it did. -/
def lensCheapSpec : ChangeSpec := { name := "lensCheap", fn := fun _ => fun
  | [d1, d2] => { results := [.lit (.bool true)], args := [d1, d2] }
  | _ => none }
def lensCheapRow : OpenClaim := { program := "ytclmnmfdajlddaa", sum := "0c2fad70a7ce10fb3f46419e90913171b916a1765c1338b0aff9d921ca954bca", func := "baler/balerlaw09.LensCheap", spec := "lensCheap", unfollowed := true, recurses := true, apart := false }
def LensCheapSaid : Prop := lensCheapRow.holds Try.pinned (OpenSpec.ofChange lensCheapSpec)

/-- ITS FALSE NEIGHBOUR: 'it returns false'. Refute it at one input. -/
def lensCheapWrong : ChangeSpec := { name := "lensCheap", fn := fun _ => fun
  | [d1, d2] => { results := [.lit (.bool false)], args := [d1, d2] }
  | _ => none }
def LensCheapWrongFalsely : Prop := lensCheapRow.holds Try.pinned (OpenSpec.ofChange lensCheapWrong)

/-- 'balerlaw09.LensOrder': WHATEVER THE INPUT: true; the input reads as it did. -/
def lensOrderSpec : ChangeSpec := { name := "lensOrder", fn := fun _ => fun
  | [d] => { results := [.lit (.bool true)], args := [d] }
  | _ => none }
def lensOrderRow : OpenClaim := { program := "ytclmnmfdajlddaa", sum := "0c2fad70a7ce10fb3f46419e90913171b916a1765c1338b0aff9d921ca954bca", func := "baler/balerlaw09.LensOrder", spec := "lensOrder", unfollowed := true, recurses := true, apart := false }
def LensOrderSaid : Prop := lensOrderRow.holds Try.pinned (OpenSpec.ofChange lensOrderSpec)

/-- ITS FALSE NEIGHBOUR: 'it returns false'. Refute it at one input. -/
def lensOrderWrong : ChangeSpec := { name := "lensOrder", fn := fun _ => fun
  | [d] => { results := [.lit (.bool false)], args := [d] }
  | _ => none }
def LensOrderWrongFalsely : Prop := lensOrderRow.holds Try.pinned (OpenSpec.ofChange lensOrderWrong)

/-- 'balerlaw10.CanonCodes': WHATEVER THE INPUT: true; the input reads as it did. -/
def canonCodesSpec : ChangeSpec := { name := "canonCodes", fn := fun _ => fun
  | [d1, d2] => { results := [.lit (.bool true)], args := [d1, d2] }
  | _ => none }
def canonCodesRow : OpenClaim := { program := "ytclmnmfdajlddaa", sum := "0c2fad70a7ce10fb3f46419e90913171b916a1765c1338b0aff9d921ca954bca", func := "baler/balerlaw10.CanonCodes", spec := "canonCodes", apart := false }
def CanonCodesSaid : Prop := canonCodesRow.holds Try.pinned (OpenSpec.ofChange canonCodesSpec)

/-- ITS FALSE NEIGHBOUR: 'it returns false'. Refute it at one input. -/
def canonCodesWrong : ChangeSpec := { name := "canonCodes", fn := fun _ => fun
  | [d1, d2] => { results := [.lit (.bool false)], args := [d1, d2] }
  | _ => none }
def CanonCodesWrongFalsely : Prop := canonCodesRow.holds Try.pinned (OpenSpec.ofChange canonCodesWrong)

/-- 'balerlaw10.CanonPuts': WHATEVER THE INPUT: true; the input reads as it did. -/
def canonPutsSpec : ChangeSpec := { name := "canonPuts", fn := fun _ => fun
  | [d1, d2] => { results := [.lit (.bool true)], args := [d1, d2] }
  | _ => none }
def canonPutsRow : OpenClaim := { program := "ytclmnmfdajlddaa", sum := "0c2fad70a7ce10fb3f46419e90913171b916a1765c1338b0aff9d921ca954bca", func := "baler/balerlaw10.CanonPuts", spec := "canonPuts", apart := false }
def CanonPutsSaid : Prop := canonPutsRow.holds Try.pinned (OpenSpec.ofChange canonPutsSpec)

/-- ITS FALSE NEIGHBOUR: 'it returns false'. Refute it at one input. -/
def canonPutsWrong : ChangeSpec := { name := "canonPuts", fn := fun _ => fun
  | [d1, d2] => { results := [.lit (.bool false)], args := [d1, d2] }
  | _ => none }
def CanonPutsWrongFalsely : Prop := canonPutsRow.holds Try.pinned (OpenSpec.ofChange canonPutsWrong)

/-- 'balerlaw10.CanonGets': WHATEVER THE INPUT: true; the input reads as it did. -/
def canonGetsSpec : ChangeSpec := { name := "canonGets", fn := fun _ => fun
  | [d1, d2, d3] => { results := [.lit (.bool true)], args := [d1, d2, d3] }
  | _ => none }
def canonGetsRow : OpenClaim := { program := "ytclmnmfdajlddaa", sum := "0c2fad70a7ce10fb3f46419e90913171b916a1765c1338b0aff9d921ca954bca", func := "baler/balerlaw10.CanonGets", spec := "canonGets", apart := false }
def CanonGetsSaid : Prop := canonGetsRow.holds Try.pinned (OpenSpec.ofChange canonGetsSpec)

/-- ITS FALSE NEIGHBOUR: 'it returns false'. Refute it at one input. -/
def canonGetsWrong : ChangeSpec := { name := "canonGets", fn := fun _ => fun
  | [d1, d2, d3] => { results := [.lit (.bool false)], args := [d1, d2, d3] }
  | _ => none }
def CanonGetsWrongFalsely : Prop := canonGetsRow.holds Try.pinned (OpenSpec.ofChange canonGetsWrong)

/-- 'balerlaw10.CanonBack': WHATEVER THE INPUT: true; the input reads as it did. -/
def canonBackSpec : ChangeSpec := { name := "canonBack", fn := fun _ => fun
  | [d1, d2] => { results := [.lit (.bool true)], args := [d1, d2] }
  | _ => none }
def canonBackRow : OpenClaim := { program := "ytclmnmfdajlddaa", sum := "0c2fad70a7ce10fb3f46419e90913171b916a1765c1338b0aff9d921ca954bca", func := "baler/balerlaw10.CanonBack", spec := "canonBack", apart := false }
def CanonBackSaid : Prop := canonBackRow.holds Try.pinned (OpenSpec.ofChange canonBackSpec)

/-- ITS FALSE NEIGHBOUR: 'it returns false'. Refute it at one input. -/
def canonBackWrong : ChangeSpec := { name := "canonBack", fn := fun _ => fun
  | [d1, d2] => { results := [.lit (.bool false)], args := [d1, d2] }
  | _ => none }
def CanonBackWrongFalsely : Prop := canonBackRow.holds Try.pinned (OpenSpec.ofChange canonBackWrong)

/-- 'balerlaw10.CanonApart': WHATEVER THE INPUT: true; the input reads as it did. -/
def canonApartSpec : ChangeSpec := { name := "canonApart", fn := fun _ => fun
  | [d1, d2] => { results := [.lit (.bool true)], args := [d1, d2] }
  | _ => none }
def canonApartRow : OpenClaim := { program := "ytclmnmfdajlddaa", sum := "0c2fad70a7ce10fb3f46419e90913171b916a1765c1338b0aff9d921ca954bca", func := "baler/balerlaw10.CanonApart", spec := "canonApart", apart := false }
def CanonApartSaid : Prop := canonApartRow.holds Try.pinned (OpenSpec.ofChange canonApartSpec)

/-- ITS FALSE NEIGHBOUR: 'it returns false'. Refute it at one input. -/
def canonApartWrong : ChangeSpec := { name := "canonApart", fn := fun _ => fun
  | [d1, d2] => { results := [.lit (.bool false)], args := [d1, d2] }
  | _ => none }
def CanonApartWrongFalsely : Prop := canonApartRow.holds Try.pinned (OpenSpec.ofChange canonApartWrong)

/-- 'balerlaw10.CanonNil': WHATEVER THE INPUT: true; the input reads as it did. -/
def canonNilSpec : ChangeSpec := { name := "canonNil", fn := fun _ => fun
  | [d] => { results := [.lit (.bool true)], args := [d] }
  | _ => none }
def canonNilRow : OpenClaim := { program := "ytclmnmfdajlddaa", sum := "0c2fad70a7ce10fb3f46419e90913171b916a1765c1338b0aff9d921ca954bca", func := "baler/balerlaw10.CanonNil", spec := "canonNil", apart := false }
def CanonNilSaid : Prop := canonNilRow.holds Try.pinned (OpenSpec.ofChange canonNilSpec)

/-- ITS FALSE NEIGHBOUR: 'it returns false'. Refute it at one input. -/
def canonNilWrong : ChangeSpec := { name := "canonNil", fn := fun _ => fun
  | [d] => { results := [.lit (.bool false)], args := [d] }
  | _ => none }
def CanonNilWrongFalsely : Prop := canonNilRow.holds Try.pinned (OpenSpec.ofChange canonNilWrong)

/- THE SECOND FORM. 'bulk': how many values and letters a reading holds, each counted each time it is reached (what is shared counts as often as it is met; a slice's spare places count too). A statement '..UptoSaid' is the law's where the arguments, and the package variables that the reading takes, are together of bulk at most 1048576: NARROWER than '..Said'. Prove '..Said' where nothing that the law and all that it calls make is longer than what came in: it says more and counts as full. Else prove '..UptoSaid'. A law counts once. -/
mutual
def uptoBulk {H : Type} : DataW H → Nat
  | .lit (.string bytes) => bytes.length + 1
  | .lit _ => 1
  | .nil => 1
  | .ptr d => uptoBulk d + 1
  | .slice elems spare => uptoBulkAll elems + uptoBulkAll spare + 1
  | .agg parts => uptoBulkAll parts + 1
  | .iface _ d => uptoBulk d + 1
  | .map entries => uptoBulkEntries entries + 1
  | .held _ => 1
def uptoBulkAll {H : Type} : List (DataW H) → Nat
  | [] => 0
  | d :: r => uptoBulk d + uptoBulkAll r
def uptoBulkEntries {H : Type} : List (Lit × DataW H) → Nat
  | [] => 0
  | x :: r => uptoBulkEntry x + uptoBulkEntries r
def uptoBulkEntry {H : Type} : Lit × DataW H → Nat
  | (.string bytes, d) => bytes.length + uptoBulk d + 1
  | (_, d) => uptoBulk d + 1
 end
def uptoSmall : (H : Type) → List (DataW H) → Bool := fun _ ds => decide (uptoBulkAll ds ≤ 1048576)
def OpenSpec.upto (s : _root_.Go.ChangeSpec) : _root_.Go.OpenSpec := { _root_.Go.OpenSpec.ofChange s with cond := some uptoSmall }

/-- 'balerlaw09.LensDepths', WHERE WHAT IT READS IS OF BULK AT MOST 1048576: true; the input reads as it did. -/
def lensDepthsUptoRow : OpenClaim := { program := "ytclmnmfdajlddaa", sum := "0c2fad70a7ce10fb3f46419e90913171b916a1765c1338b0aff9d921ca954bca", func := "baler/balerlaw09.LensDepths", spec := "lensDepths", unfollowed := true, recurses := true, apart := false, narrowed := true }
def LensDepthsUptoSaid : Prop := lensDepthsUptoRow.holds Try.pinned (OpenSpec.upto lensDepthsSpec)

/-- 'balerlaw09.LensOf', WHERE WHAT IT READS IS OF BULK AT MOST 1048576: true; the input reads as it did. -/
def lensOfUptoRow : OpenClaim := { program := "ytclmnmfdajlddaa", sum := "0c2fad70a7ce10fb3f46419e90913171b916a1765c1338b0aff9d921ca954bca", func := "baler/balerlaw09.LensOf", spec := "lensOf", unfollowed := true, recurses := true, apart := false, narrowed := true }
def LensOfUptoSaid : Prop := lensOfUptoRow.holds Try.pinned (OpenSpec.upto lensOfSpec)

/-- 'balerlaw09.LensShare', WHERE WHAT IT READS IS OF BULK AT MOST 1048576: true; the input reads as it did. -/
def lensShareUptoRow : OpenClaim := { program := "ytclmnmfdajlddaa", sum := "0c2fad70a7ce10fb3f46419e90913171b916a1765c1338b0aff9d921ca954bca", func := "baler/balerlaw09.LensShare", spec := "lensShare", unfollowed := true, recurses := true, apart := false, narrowed := true }
def LensShareUptoSaid : Prop := lensShareUptoRow.holds Try.pinned (OpenSpec.upto lensShareSpec)

/-- 'balerlaw09.LensWhole', WHERE WHAT IT READS IS OF BULK AT MOST 1048576: true; the input reads as it did. -/
def lensWholeUptoRow : OpenClaim := { program := "ytclmnmfdajlddaa", sum := "0c2fad70a7ce10fb3f46419e90913171b916a1765c1338b0aff9d921ca954bca", func := "baler/balerlaw09.LensWhole", spec := "lensWhole", unfollowed := true, recurses := true, apart := false, narrowed := true }
def LensWholeUptoSaid : Prop := lensWholeUptoRow.holds Try.pinned (OpenSpec.upto lensWholeSpec)

/-- 'balerlaw09.LensCheap', WHERE WHAT IT READS IS OF BULK AT MOST 1048576: true; the input reads as it did. -/
def lensCheapUptoRow : OpenClaim := { program := "ytclmnmfdajlddaa", sum := "0c2fad70a7ce10fb3f46419e90913171b916a1765c1338b0aff9d921ca954bca", func := "baler/balerlaw09.LensCheap", spec := "lensCheap", unfollowed := true, recurses := true, apart := false, narrowed := true }
def LensCheapUptoSaid : Prop := lensCheapUptoRow.holds Try.pinned (OpenSpec.upto lensCheapSpec)

/-- 'balerlaw09.LensOrder', WHERE WHAT IT READS IS OF BULK AT MOST 1048576: true; the input reads as it did. -/
def lensOrderUptoRow : OpenClaim := { program := "ytclmnmfdajlddaa", sum := "0c2fad70a7ce10fb3f46419e90913171b916a1765c1338b0aff9d921ca954bca", func := "baler/balerlaw09.LensOrder", spec := "lensOrder", unfollowed := true, recurses := true, apart := false, narrowed := true }
def LensOrderUptoSaid : Prop := lensOrderUptoRow.holds Try.pinned (OpenSpec.upto lensOrderSpec)

/-- 'balerlaw10.CanonCodes', WHERE WHAT IT READS IS OF BULK AT MOST 1048576: true; the input reads as it did. -/
def canonCodesUptoRow : OpenClaim := { program := "ytclmnmfdajlddaa", sum := "0c2fad70a7ce10fb3f46419e90913171b916a1765c1338b0aff9d921ca954bca", func := "baler/balerlaw10.CanonCodes", spec := "canonCodes", apart := false, narrowed := true }
def CanonCodesUptoSaid : Prop := canonCodesUptoRow.holds Try.pinned (OpenSpec.upto canonCodesSpec)

/-- 'balerlaw10.CanonPuts', WHERE WHAT IT READS IS OF BULK AT MOST 1048576: true; the input reads as it did. -/
def canonPutsUptoRow : OpenClaim := { program := "ytclmnmfdajlddaa", sum := "0c2fad70a7ce10fb3f46419e90913171b916a1765c1338b0aff9d921ca954bca", func := "baler/balerlaw10.CanonPuts", spec := "canonPuts", apart := false, narrowed := true }
def CanonPutsUptoSaid : Prop := canonPutsUptoRow.holds Try.pinned (OpenSpec.upto canonPutsSpec)

/-- 'balerlaw10.CanonGets', WHERE WHAT IT READS IS OF BULK AT MOST 1048576: true; the input reads as it did. -/
def canonGetsUptoRow : OpenClaim := { program := "ytclmnmfdajlddaa", sum := "0c2fad70a7ce10fb3f46419e90913171b916a1765c1338b0aff9d921ca954bca", func := "baler/balerlaw10.CanonGets", spec := "canonGets", apart := false, narrowed := true }
def CanonGetsUptoSaid : Prop := canonGetsUptoRow.holds Try.pinned (OpenSpec.upto canonGetsSpec)

/-- 'balerlaw10.CanonBack', WHERE WHAT IT READS IS OF BULK AT MOST 1048576: true; the input reads as it did. -/
def canonBackUptoRow : OpenClaim := { program := "ytclmnmfdajlddaa", sum := "0c2fad70a7ce10fb3f46419e90913171b916a1765c1338b0aff9d921ca954bca", func := "baler/balerlaw10.CanonBack", spec := "canonBack", apart := false, narrowed := true }
def CanonBackUptoSaid : Prop := canonBackUptoRow.holds Try.pinned (OpenSpec.upto canonBackSpec)

/-- 'balerlaw10.CanonApart', WHERE WHAT IT READS IS OF BULK AT MOST 1048576: true; the input reads as it did. -/
def canonApartUptoRow : OpenClaim := { program := "ytclmnmfdajlddaa", sum := "0c2fad70a7ce10fb3f46419e90913171b916a1765c1338b0aff9d921ca954bca", func := "baler/balerlaw10.CanonApart", spec := "canonApart", apart := false, narrowed := true }
def CanonApartUptoSaid : Prop := canonApartUptoRow.holds Try.pinned (OpenSpec.upto canonApartSpec)

/-- 'balerlaw10.CanonNil', WHERE WHAT IT READS IS OF BULK AT MOST 1048576: true; the input reads as it did. -/
def canonNilUptoRow : OpenClaim := { program := "ytclmnmfdajlddaa", sum := "0c2fad70a7ce10fb3f46419e90913171b916a1765c1338b0aff9d921ca954bca", func := "baler/balerlaw10.CanonNil", spec := "canonNil", apart := false, narrowed := true }
def CanonNilUptoSaid : Prop := canonNilUptoRow.holds Try.pinned (OpenSpec.upto canonNilSpec)

end Rows
end Go.Proofs.Ytclmnmfdajlddaa
