/-
  NARROWER THAN 'FOR EVERY INPUT', by the rows' own cells (each row's printed sentence says how): RlePieces: laid · RleEncodes: laid · RleDecodes: laid · RleSmall: laid · RleApart: laid · FeedPacks: laid · FeedUnpacks: laid · FeedBack: laid · FeedAnew: laid · FeedNil: laid.
  DERIVED. THE GIVEN ROWS OF THIS SEAT. 10 by the template 'for every input the law returns true; each argument reads behind the call as it read before'; 0 by the template 'total and deterministic' (their statements: YtfaalgogagpimaaDoorTotals.lean).
  GIVEN WITH THE SEED: the statements are not yours to turn. If you find one false, say at which input.
  Laid BY PROGRAM, IN A SANDBOX (cutbox-rows.mjs): the forced cells as the released guide's own fill.sh prints them over the translation 1cebeb696b9efc45… (all of the seat's roots in one cut). By AI agents, Wed Nov 11 2026. No macro, syntax, notation, axiom, sorry.
-/
import Derived.Test.YtfaalgogagpimaaDoorChecked
import GoSem.Claim
import GoSem.ClaimJoined
import GoSem.ClaimMapViews
import Derived.JoinedTies
import Derived.KernelRfl
namespace Go.Proofs.YtfaalgogagpimaaDoor
/- THE CELL 'sum', in the pinned program and in every row, IS THE sha256 OF THE DUMP (.gsa) THAT YtfaalgogagpimaaDoorProg.lean LOADS. Nothing in Lean hashes anything: it is a label: what it is worth is what the hold of that sum in a sandbox is worth. -/
noncomputable def Tryd.pinned : Pinned := { name := "ytfaalgogagpimaadoor", sum := "1cebeb696b9efc45a046e5f34ca4959c7b6aa1354b9c548de48dc34b6cef10a6", checked := Tryd.checked }
namespace Rows
def none {H : Type} : Left H := { results := [], args := [] }

/- WHAT THE LISTED PACKAGE-LEVEL VARIABLES READ AS WHEN THE CALL BEGINS. Each datum BY PROGRAM (the guide's laid-datum.mjs) off the statement by which the dump's own 'gosem.cut.vars' lays the variable. In a bare row this is a premise. The card (YtfaalgogagpimaaDoorCards.lean) ties it to the program's text. -/
def laid_baler_rle_sizes {H : Type} : DataW H := .agg [.lit (.int .i64 0), .lit (.int .i64 1), .lit (.int .i64 2), .lit (.int .i64 3), .lit (.int .i64 5)]

/-- 'balerlaw03.RlePieces': WHATEVER THE INPUT: true; the input reads as it did. -/
def rlePiecesSpec : ChangeSpec := { name := "rlePieces", fn := fun _ => fun
  | [d1, d2] => { results := [.lit (.bool true)], args := [d1, d2] }
  | _ => none }
def rlePiecesRow : OpenClaim := { program := "ytfaalgogagpimaadoor", sum := "1cebeb696b9efc45a046e5f34ca4959c7b6aa1354b9c548de48dc34b6cef10a6", func := "baler/balerlaw03.RlePieces", spec := "rlePieces", inPlace := ["internal/abi.NoEscape", "internal/bytealg.MakeNoZero"], unfollowed := true, recurses := true, named := ["baler/rle.sizes"], apart := false, laid := [("baler/rle.sizes", laid_baler_rle_sizes)] }
def RlePiecesSaid : Prop := rlePiecesRow.holds Tryd.pinned (OpenSpec.ofChange rlePiecesSpec)

/-- ITS FALSE NEIGHBOUR: 'it returns false'. Refute it at one input. -/
def rlePiecesWrong : ChangeSpec := { name := "rlePieces", fn := fun _ => fun
  | [d1, d2] => { results := [.lit (.bool false)], args := [d1, d2] }
  | _ => none }
def RlePiecesWrongFalsely : Prop := rlePiecesRow.holds Tryd.pinned (OpenSpec.ofChange rlePiecesWrong)

/-- 'balerlaw03.RleEncodes': WHATEVER THE INPUT: true; the input reads as it did. -/
def rleEncodesSpec : ChangeSpec := { name := "rleEncodes", fn := fun _ => fun
  | [d] => { results := [.lit (.bool true)], args := [d] }
  | _ => none }
def rleEncodesRow : OpenClaim := { program := "ytfaalgogagpimaadoor", sum := "1cebeb696b9efc45a046e5f34ca4959c7b6aa1354b9c548de48dc34b6cef10a6", func := "baler/balerlaw03.RleEncodes", spec := "rleEncodes", inPlace := ["internal/abi.NoEscape", "internal/bytealg.MakeNoZero"], unfollowed := true, recurses := true, named := ["baler/rle.sizes"], apart := false, laid := [("baler/rle.sizes", laid_baler_rle_sizes)] }
def RleEncodesSaid : Prop := rleEncodesRow.holds Tryd.pinned (OpenSpec.ofChange rleEncodesSpec)

/-- ITS FALSE NEIGHBOUR: 'it returns false'. Refute it at one input. -/
def rleEncodesWrong : ChangeSpec := { name := "rleEncodes", fn := fun _ => fun
  | [d] => { results := [.lit (.bool false)], args := [d] }
  | _ => none }
def RleEncodesWrongFalsely : Prop := rleEncodesRow.holds Tryd.pinned (OpenSpec.ofChange rleEncodesWrong)

/-- 'balerlaw03.RleDecodes': WHATEVER THE INPUT: true; the input reads as it did. -/
def rleDecodesSpec : ChangeSpec := { name := "rleDecodes", fn := fun _ => fun
  | [d] => { results := [.lit (.bool true)], args := [d] }
  | _ => none }
def rleDecodesRow : OpenClaim := { program := "ytfaalgogagpimaadoor", sum := "1cebeb696b9efc45a046e5f34ca4959c7b6aa1354b9c548de48dc34b6cef10a6", func := "baler/balerlaw03.RleDecodes", spec := "rleDecodes", inPlace := ["internal/abi.NoEscape", "internal/bytealg.MakeNoZero"], unfollowed := true, recurses := true, named := ["baler/rle.sizes"], apart := false, laid := [("baler/rle.sizes", laid_baler_rle_sizes)] }
def RleDecodesSaid : Prop := rleDecodesRow.holds Tryd.pinned (OpenSpec.ofChange rleDecodesSpec)

/-- ITS FALSE NEIGHBOUR: 'it returns false'. Refute it at one input. -/
def rleDecodesWrong : ChangeSpec := { name := "rleDecodes", fn := fun _ => fun
  | [d] => { results := [.lit (.bool false)], args := [d] }
  | _ => none }
def RleDecodesWrongFalsely : Prop := rleDecodesRow.holds Tryd.pinned (OpenSpec.ofChange rleDecodesWrong)

/-- 'balerlaw03.RleSmall': WHATEVER THE INPUT: true; the input reads as it did. -/
def rleSmallSpec : ChangeSpec := { name := "rleSmall", fn := fun _ => fun
  | [d1, d2] => { results := [.lit (.bool true)], args := [d1, d2] }
  | _ => none }
def rleSmallRow : OpenClaim := { program := "ytfaalgogagpimaadoor", sum := "1cebeb696b9efc45a046e5f34ca4959c7b6aa1354b9c548de48dc34b6cef10a6", func := "baler/balerlaw03.RleSmall", spec := "rleSmall", inPlace := ["internal/abi.NoEscape", "internal/bytealg.MakeNoZero"], unfollowed := true, recurses := true, named := ["baler/rle.sizes"], apart := false, laid := [("baler/rle.sizes", laid_baler_rle_sizes)] }
def RleSmallSaid : Prop := rleSmallRow.holds Tryd.pinned (OpenSpec.ofChange rleSmallSpec)

/-- ITS FALSE NEIGHBOUR: 'it returns false'. Refute it at one input. -/
def rleSmallWrong : ChangeSpec := { name := "rleSmall", fn := fun _ => fun
  | [d1, d2] => { results := [.lit (.bool false)], args := [d1, d2] }
  | _ => none }
def RleSmallWrongFalsely : Prop := rleSmallRow.holds Tryd.pinned (OpenSpec.ofChange rleSmallWrong)

/-- 'balerlaw03.RleApart': WHATEVER THE INPUT: true; the input reads as it did. -/
def rleApartSpec : ChangeSpec := { name := "rleApart", fn := fun _ => fun
  | [d] => { results := [.lit (.bool true)], args := [d] }
  | _ => none }
def rleApartRow : OpenClaim := { program := "ytfaalgogagpimaadoor", sum := "1cebeb696b9efc45a046e5f34ca4959c7b6aa1354b9c548de48dc34b6cef10a6", func := "baler/balerlaw03.RleApart", spec := "rleApart", inPlace := ["internal/abi.NoEscape", "internal/bytealg.MakeNoZero"], unfollowed := true, recurses := true, named := ["baler/rle.sizes"], apart := false, laid := [("baler/rle.sizes", laid_baler_rle_sizes)] }
def RleApartSaid : Prop := rleApartRow.holds Tryd.pinned (OpenSpec.ofChange rleApartSpec)

/-- ITS FALSE NEIGHBOUR: 'it returns false'. Refute it at one input. -/
def rleApartWrong : ChangeSpec := { name := "rleApart", fn := fun _ => fun
  | [d] => { results := [.lit (.bool false)], args := [d] }
  | _ => none }
def RleApartWrongFalsely : Prop := rleApartRow.holds Tryd.pinned (OpenSpec.ofChange rleApartWrong)

/-- 'balerlaw04.FeedPacks': WHATEVER THE INPUT: true; the input reads as it did. -/
def feedPacksSpec : ChangeSpec := { name := "feedPacks", fn := fun _ => fun
  | [d] => { results := [.lit (.bool true)], args := [d] }
  | _ => none }
def feedPacksRow : OpenClaim := { program := "ytfaalgogagpimaadoor", sum := "1cebeb696b9efc45a046e5f34ca4959c7b6aa1354b9c548de48dc34b6cef10a6", func := "baler/balerlaw04.FeedPacks", spec := "feedPacks", inPlace := ["internal/abi.NoEscape", "internal/bytealg.MakeNoZero"], unfollowed := true, recurses := true, named := ["baler/rle.sizes"], apart := false, laid := [("baler/rle.sizes", laid_baler_rle_sizes)] }
def FeedPacksSaid : Prop := feedPacksRow.holds Tryd.pinned (OpenSpec.ofChange feedPacksSpec)

/-- ITS FALSE NEIGHBOUR: 'it returns false'. Refute it at one input. -/
def feedPacksWrong : ChangeSpec := { name := "feedPacks", fn := fun _ => fun
  | [d] => { results := [.lit (.bool false)], args := [d] }
  | _ => none }
def FeedPacksWrongFalsely : Prop := feedPacksRow.holds Tryd.pinned (OpenSpec.ofChange feedPacksWrong)

/-- 'balerlaw04.FeedUnpacks': WHATEVER THE INPUT: true; the input reads as it did. -/
def feedUnpacksSpec : ChangeSpec := { name := "feedUnpacks", fn := fun _ => fun
  | [d] => { results := [.lit (.bool true)], args := [d] }
  | _ => none }
def feedUnpacksRow : OpenClaim := { program := "ytfaalgogagpimaadoor", sum := "1cebeb696b9efc45a046e5f34ca4959c7b6aa1354b9c548de48dc34b6cef10a6", func := "baler/balerlaw04.FeedUnpacks", spec := "feedUnpacks", inPlace := ["internal/abi.NoEscape", "internal/bytealg.MakeNoZero"], unfollowed := true, recurses := true, named := ["baler/rle.sizes"], apart := false, laid := [("baler/rle.sizes", laid_baler_rle_sizes)] }
def FeedUnpacksSaid : Prop := feedUnpacksRow.holds Tryd.pinned (OpenSpec.ofChange feedUnpacksSpec)

/-- ITS FALSE NEIGHBOUR: 'it returns false'. Refute it at one input. -/
def feedUnpacksWrong : ChangeSpec := { name := "feedUnpacks", fn := fun _ => fun
  | [d] => { results := [.lit (.bool false)], args := [d] }
  | _ => none }
def FeedUnpacksWrongFalsely : Prop := feedUnpacksRow.holds Tryd.pinned (OpenSpec.ofChange feedUnpacksWrong)

/-- 'balerlaw04.FeedBack': WHATEVER THE INPUT: true; the input reads as it did. -/
def feedBackSpec : ChangeSpec := { name := "feedBack", fn := fun _ => fun
  | [d] => { results := [.lit (.bool true)], args := [d] }
  | _ => none }
def feedBackRow : OpenClaim := { program := "ytfaalgogagpimaadoor", sum := "1cebeb696b9efc45a046e5f34ca4959c7b6aa1354b9c548de48dc34b6cef10a6", func := "baler/balerlaw04.FeedBack", spec := "feedBack", inPlace := ["internal/abi.NoEscape", "internal/bytealg.MakeNoZero"], unfollowed := true, recurses := true, named := ["baler/rle.sizes"], apart := false, laid := [("baler/rle.sizes", laid_baler_rle_sizes)] }
def FeedBackSaid : Prop := feedBackRow.holds Tryd.pinned (OpenSpec.ofChange feedBackSpec)

/-- ITS FALSE NEIGHBOUR: 'it returns false'. Refute it at one input. -/
def feedBackWrong : ChangeSpec := { name := "feedBack", fn := fun _ => fun
  | [d] => { results := [.lit (.bool false)], args := [d] }
  | _ => none }
def FeedBackWrongFalsely : Prop := feedBackRow.holds Tryd.pinned (OpenSpec.ofChange feedBackWrong)

/-- 'balerlaw04.FeedAnew': WHATEVER THE INPUT: true; the input reads as it did. -/
def feedAnewSpec : ChangeSpec := { name := "feedAnew", fn := fun _ => fun
  | [d1, d2] => { results := [.lit (.bool true)], args := [d1, d2] }
  | _ => none }
def feedAnewRow : OpenClaim := { program := "ytfaalgogagpimaadoor", sum := "1cebeb696b9efc45a046e5f34ca4959c7b6aa1354b9c548de48dc34b6cef10a6", func := "baler/balerlaw04.FeedAnew", spec := "feedAnew", inPlace := ["internal/abi.NoEscape", "internal/bytealg.MakeNoZero"], unfollowed := true, recurses := true, named := ["baler/rle.sizes"], apart := false, laid := [("baler/rle.sizes", laid_baler_rle_sizes)] }
def FeedAnewSaid : Prop := feedAnewRow.holds Tryd.pinned (OpenSpec.ofChange feedAnewSpec)

/-- ITS FALSE NEIGHBOUR: 'it returns false'. Refute it at one input. -/
def feedAnewWrong : ChangeSpec := { name := "feedAnew", fn := fun _ => fun
  | [d1, d2] => { results := [.lit (.bool false)], args := [d1, d2] }
  | _ => none }
def FeedAnewWrongFalsely : Prop := feedAnewRow.holds Tryd.pinned (OpenSpec.ofChange feedAnewWrong)

/-- 'balerlaw04.FeedNil': WHATEVER THE INPUT: true; the input reads as it did. -/
def feedNilSpec : ChangeSpec := { name := "feedNil", fn := fun _ => fun
  | [d] => { results := [.lit (.bool true)], args := [d] }
  | _ => none }
def feedNilRow : OpenClaim := { program := "ytfaalgogagpimaadoor", sum := "1cebeb696b9efc45a046e5f34ca4959c7b6aa1354b9c548de48dc34b6cef10a6", func := "baler/balerlaw04.FeedNil", spec := "feedNil", inPlace := ["internal/abi.NoEscape", "internal/bytealg.MakeNoZero"], unfollowed := true, recurses := true, named := ["baler/rle.sizes"], apart := false, laid := [("baler/rle.sizes", laid_baler_rle_sizes)] }
def FeedNilSaid : Prop := feedNilRow.holds Tryd.pinned (OpenSpec.ofChange feedNilSpec)

/-- ITS FALSE NEIGHBOUR: 'it returns false'. Refute it at one input. -/
def feedNilWrong : ChangeSpec := { name := "feedNil", fn := fun _ => fun
  | [d] => { results := [.lit (.bool false)], args := [d] }
  | _ => none }
def FeedNilWrongFalsely : Prop := feedNilRow.holds Tryd.pinned (OpenSpec.ofChange feedNilWrong)

/- THE SECOND FORM. 'bulk': how many values and letters a reading holds, each counted each time it is reached (what is shared counts as often as it is met; a slice's spare places count too). A statement '..UptoSaid' is the law's where the arguments, and the package variables that the reading takes, are together of bulk at most 1048576: NARROWER than '..Said'. Prove '..Said' where nothing that the law and all that it calls make is longer than what came in: it says more and counts as full. Else prove '..UptoSaid'. A law counts once. -/
mutual
def uptoBulk {H : Type} : DataW H → Nat
  | .lit (.string bytes) => bytes.length + 1
  | .lit _ => 1
  | .nil => 1
  | .ptr d => uptoBulk d + 1
  | .slice elems spare => uptoBulkAll elems + uptoBulkAll spare + 1
  | .agg parts => uptoBulkAll parts + 1
  | .iface _ d => uptoBulk d + 1
  | .map entries => uptoBulkEntries entries + 1
  | .held _ => 1
def uptoBulkAll {H : Type} : List (DataW H) → Nat
  | [] => 0
  | d :: r => uptoBulk d + uptoBulkAll r
def uptoBulkEntries {H : Type} : List (Lit × DataW H) → Nat
  | [] => 0
  | x :: r => uptoBulkEntry x + uptoBulkEntries r
def uptoBulkEntry {H : Type} : Lit × DataW H → Nat
  | (.string bytes, d) => bytes.length + uptoBulk d + 1
  | (_, d) => uptoBulk d + 1
 end
def uptoSmall : (H : Type) → List (DataW H) → Bool := fun _ ds => decide (uptoBulkAll ds ≤ 1048576)
def OpenSpec.upto (s : _root_.Go.ChangeSpec) : _root_.Go.OpenSpec := { _root_.Go.OpenSpec.ofChange s with cond := some uptoSmall }

/-- 'balerlaw03.RlePieces', WHERE WHAT IT READS IS OF BULK AT MOST 1048576: true; the input reads as it did. -/
def rlePiecesUptoRow : OpenClaim := { program := "ytfaalgogagpimaadoor", sum := "1cebeb696b9efc45a046e5f34ca4959c7b6aa1354b9c548de48dc34b6cef10a6", func := "baler/balerlaw03.RlePieces", spec := "rlePieces", inPlace := ["internal/abi.NoEscape", "internal/bytealg.MakeNoZero"], unfollowed := true, recurses := true, named := ["baler/rle.sizes"], apart := false, laid := [("baler/rle.sizes", laid_baler_rle_sizes)], narrowed := true }
def RlePiecesUptoSaid : Prop := rlePiecesUptoRow.holds Tryd.pinned (OpenSpec.upto rlePiecesSpec)

/-- 'balerlaw03.RleEncodes', WHERE WHAT IT READS IS OF BULK AT MOST 1048576: true; the input reads as it did. -/
def rleEncodesUptoRow : OpenClaim := { program := "ytfaalgogagpimaadoor", sum := "1cebeb696b9efc45a046e5f34ca4959c7b6aa1354b9c548de48dc34b6cef10a6", func := "baler/balerlaw03.RleEncodes", spec := "rleEncodes", inPlace := ["internal/abi.NoEscape", "internal/bytealg.MakeNoZero"], unfollowed := true, recurses := true, named := ["baler/rle.sizes"], apart := false, laid := [("baler/rle.sizes", laid_baler_rle_sizes)], narrowed := true }
def RleEncodesUptoSaid : Prop := rleEncodesUptoRow.holds Tryd.pinned (OpenSpec.upto rleEncodesSpec)

/-- 'balerlaw03.RleDecodes', WHERE WHAT IT READS IS OF BULK AT MOST 1048576: true; the input reads as it did. -/
def rleDecodesUptoRow : OpenClaim := { program := "ytfaalgogagpimaadoor", sum := "1cebeb696b9efc45a046e5f34ca4959c7b6aa1354b9c548de48dc34b6cef10a6", func := "baler/balerlaw03.RleDecodes", spec := "rleDecodes", inPlace := ["internal/abi.NoEscape", "internal/bytealg.MakeNoZero"], unfollowed := true, recurses := true, named := ["baler/rle.sizes"], apart := false, laid := [("baler/rle.sizes", laid_baler_rle_sizes)], narrowed := true }
def RleDecodesUptoSaid : Prop := rleDecodesUptoRow.holds Tryd.pinned (OpenSpec.upto rleDecodesSpec)

/-- 'balerlaw03.RleSmall', WHERE WHAT IT READS IS OF BULK AT MOST 1048576: true; the input reads as it did. -/
def rleSmallUptoRow : OpenClaim := { program := "ytfaalgogagpimaadoor", sum := "1cebeb696b9efc45a046e5f34ca4959c7b6aa1354b9c548de48dc34b6cef10a6", func := "baler/balerlaw03.RleSmall", spec := "rleSmall", inPlace := ["internal/abi.NoEscape", "internal/bytealg.MakeNoZero"], unfollowed := true, recurses := true, named := ["baler/rle.sizes"], apart := false, laid := [("baler/rle.sizes", laid_baler_rle_sizes)], narrowed := true }
def RleSmallUptoSaid : Prop := rleSmallUptoRow.holds Tryd.pinned (OpenSpec.upto rleSmallSpec)

/-- 'balerlaw03.RleApart', WHERE WHAT IT READS IS OF BULK AT MOST 1048576: true; the input reads as it did. -/
def rleApartUptoRow : OpenClaim := { program := "ytfaalgogagpimaadoor", sum := "1cebeb696b9efc45a046e5f34ca4959c7b6aa1354b9c548de48dc34b6cef10a6", func := "baler/balerlaw03.RleApart", spec := "rleApart", inPlace := ["internal/abi.NoEscape", "internal/bytealg.MakeNoZero"], unfollowed := true, recurses := true, named := ["baler/rle.sizes"], apart := false, laid := [("baler/rle.sizes", laid_baler_rle_sizes)], narrowed := true }
def RleApartUptoSaid : Prop := rleApartUptoRow.holds Tryd.pinned (OpenSpec.upto rleApartSpec)

/-- 'balerlaw04.FeedPacks', WHERE WHAT IT READS IS OF BULK AT MOST 1048576: true; the input reads as it did. -/
def feedPacksUptoRow : OpenClaim := { program := "ytfaalgogagpimaadoor", sum := "1cebeb696b9efc45a046e5f34ca4959c7b6aa1354b9c548de48dc34b6cef10a6", func := "baler/balerlaw04.FeedPacks", spec := "feedPacks", inPlace := ["internal/abi.NoEscape", "internal/bytealg.MakeNoZero"], unfollowed := true, recurses := true, named := ["baler/rle.sizes"], apart := false, laid := [("baler/rle.sizes", laid_baler_rle_sizes)], narrowed := true }
def FeedPacksUptoSaid : Prop := feedPacksUptoRow.holds Tryd.pinned (OpenSpec.upto feedPacksSpec)

/-- 'balerlaw04.FeedUnpacks', WHERE WHAT IT READS IS OF BULK AT MOST 1048576: true; the input reads as it did. -/
def feedUnpacksUptoRow : OpenClaim := { program := "ytfaalgogagpimaadoor", sum := "1cebeb696b9efc45a046e5f34ca4959c7b6aa1354b9c548de48dc34b6cef10a6", func := "baler/balerlaw04.FeedUnpacks", spec := "feedUnpacks", inPlace := ["internal/abi.NoEscape", "internal/bytealg.MakeNoZero"], unfollowed := true, recurses := true, named := ["baler/rle.sizes"], apart := false, laid := [("baler/rle.sizes", laid_baler_rle_sizes)], narrowed := true }
def FeedUnpacksUptoSaid : Prop := feedUnpacksUptoRow.holds Tryd.pinned (OpenSpec.upto feedUnpacksSpec)

/-- 'balerlaw04.FeedBack', WHERE WHAT IT READS IS OF BULK AT MOST 1048576: true; the input reads as it did. -/
def feedBackUptoRow : OpenClaim := { program := "ytfaalgogagpimaadoor", sum := "1cebeb696b9efc45a046e5f34ca4959c7b6aa1354b9c548de48dc34b6cef10a6", func := "baler/balerlaw04.FeedBack", spec := "feedBack", inPlace := ["internal/abi.NoEscape", "internal/bytealg.MakeNoZero"], unfollowed := true, recurses := true, named := ["baler/rle.sizes"], apart := false, laid := [("baler/rle.sizes", laid_baler_rle_sizes)], narrowed := true }
def FeedBackUptoSaid : Prop := feedBackUptoRow.holds Tryd.pinned (OpenSpec.upto feedBackSpec)

/-- 'balerlaw04.FeedAnew', WHERE WHAT IT READS IS OF BULK AT MOST 1048576: true; the input reads as it did. -/
def feedAnewUptoRow : OpenClaim := { program := "ytfaalgogagpimaadoor", sum := "1cebeb696b9efc45a046e5f34ca4959c7b6aa1354b9c548de48dc34b6cef10a6", func := "baler/balerlaw04.FeedAnew", spec := "feedAnew", inPlace := ["internal/abi.NoEscape", "internal/bytealg.MakeNoZero"], unfollowed := true, recurses := true, named := ["baler/rle.sizes"], apart := false, laid := [("baler/rle.sizes", laid_baler_rle_sizes)], narrowed := true }
def FeedAnewUptoSaid : Prop := feedAnewUptoRow.holds Tryd.pinned (OpenSpec.upto feedAnewSpec)

/-- 'balerlaw04.FeedNil', WHERE WHAT IT READS IS OF BULK AT MOST 1048576: true; the input reads as it did. -/
def feedNilUptoRow : OpenClaim := { program := "ytfaalgogagpimaadoor", sum := "1cebeb696b9efc45a046e5f34ca4959c7b6aa1354b9c548de48dc34b6cef10a6", func := "baler/balerlaw04.FeedNil", spec := "feedNil", inPlace := ["internal/abi.NoEscape", "internal/bytealg.MakeNoZero"], unfollowed := true, recurses := true, named := ["baler/rle.sizes"], apart := false, laid := [("baler/rle.sizes", laid_baler_rle_sizes)], narrowed := true }
def FeedNilUptoSaid : Prop := feedNilUptoRow.holds Tryd.pinned (OpenSpec.upto feedNilSpec)

end Rows
end Go.Proofs.YtfaalgogagpimaaDoor
