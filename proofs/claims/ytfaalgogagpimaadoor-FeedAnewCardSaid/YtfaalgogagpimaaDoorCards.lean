/-
  DERIVED. GIVEN WITH THE SEED: THE CARDS: each row of YtfaalgogagpimaaDoorRows.lean that lists a variable, with what it lists TIED to the program's text (the seventh form; the later family's looks); each row that meets fmt, with fmt's text TOLD by the authors' own Lean function (tested against real Go, not proved from fmt's source: count such statements apart). THE CARD IS WHAT COUNTS. Prove the row's statement (the work); the ties are given (YtfaalgogagpimaaDoorTie.lean); close each card by the builder's one call (the guide's Derived/Test/ToyasCard.lean, 'card_holds'). Laid BY PROGRAM, IN A SANDBOX (cutbox-door.mjs). By AI agents, Wed Nov 11 2026. No macro, syntax, notation, axiom, sorry.
-/
import Derived.Test.YtfaalgogagpimaaDoorRows
import GoSem.ClaimSeven
namespace Go.Proofs.YtfaalgogagpimaaDoor
namespace Rows

/-- THE TIED CARD OF 'balerlaw03.RlePieces'. -/
def rlePiecesCard : Claim7 := { stood := { row := rlePiecesRow, standIns := [], harness := (true, "37b7725f3e0cd93f494296649fa4c95799ec069dce24f8dc55f84084f1ff3b81"), looks := false }, kinds := [], alts := [], laidByText := true, laidKinds := [.data], laidTests := true, laidLooks := .later }
def RlePiecesCardSaid : Prop := Claim7.holds Tryd.pinned (.plain (OpenSpec.ofChange rlePiecesSpec)) rlePiecesCard

/-- THE TIED CARD OF 'balerlaw03.RleEncodes'. -/
def rleEncodesCard : Claim7 := { stood := { row := rleEncodesRow, standIns := [], harness := (true, "37b7725f3e0cd93f494296649fa4c95799ec069dce24f8dc55f84084f1ff3b81"), looks := false }, kinds := [], alts := [], laidByText := true, laidKinds := [.data], laidTests := true, laidLooks := .later }
def RleEncodesCardSaid : Prop := Claim7.holds Tryd.pinned (.plain (OpenSpec.ofChange rleEncodesSpec)) rleEncodesCard

/-- THE TIED CARD OF 'balerlaw03.RleDecodes'. -/
def rleDecodesCard : Claim7 := { stood := { row := rleDecodesRow, standIns := [], harness := (true, "37b7725f3e0cd93f494296649fa4c95799ec069dce24f8dc55f84084f1ff3b81"), looks := false }, kinds := [], alts := [], laidByText := true, laidKinds := [.data], laidTests := true, laidLooks := .later }
def RleDecodesCardSaid : Prop := Claim7.holds Tryd.pinned (.plain (OpenSpec.ofChange rleDecodesSpec)) rleDecodesCard

/-- THE TIED CARD OF 'balerlaw03.RleSmall'. -/
def rleSmallCard : Claim7 := { stood := { row := rleSmallRow, standIns := [], harness := (true, "37b7725f3e0cd93f494296649fa4c95799ec069dce24f8dc55f84084f1ff3b81"), looks := false }, kinds := [], alts := [], laidByText := true, laidKinds := [.data], laidTests := true, laidLooks := .later }
def RleSmallCardSaid : Prop := Claim7.holds Tryd.pinned (.plain (OpenSpec.ofChange rleSmallSpec)) rleSmallCard

/-- THE TIED CARD OF 'balerlaw03.RleApart'. -/
def rleApartCard : Claim7 := { stood := { row := rleApartRow, standIns := [], harness := (true, "37b7725f3e0cd93f494296649fa4c95799ec069dce24f8dc55f84084f1ff3b81"), looks := false }, kinds := [], alts := [], laidByText := true, laidKinds := [.data], laidTests := true, laidLooks := .later }
def RleApartCardSaid : Prop := Claim7.holds Tryd.pinned (.plain (OpenSpec.ofChange rleApartSpec)) rleApartCard

/-- THE TIED CARD OF 'balerlaw04.FeedPacks'. -/
def feedPacksCard : Claim7 := { stood := { row := feedPacksRow, standIns := [], harness := (true, "37b7725f3e0cd93f494296649fa4c95799ec069dce24f8dc55f84084f1ff3b81"), looks := false }, kinds := [], alts := [], laidByText := true, laidKinds := [.data], laidTests := true, laidLooks := .later }
def FeedPacksCardSaid : Prop := Claim7.holds Tryd.pinned (.plain (OpenSpec.ofChange feedPacksSpec)) feedPacksCard

/-- THE TIED CARD OF 'balerlaw04.FeedUnpacks'. -/
def feedUnpacksCard : Claim7 := { stood := { row := feedUnpacksRow, standIns := [], harness := (true, "37b7725f3e0cd93f494296649fa4c95799ec069dce24f8dc55f84084f1ff3b81"), looks := false }, kinds := [], alts := [], laidByText := true, laidKinds := [.data], laidTests := true, laidLooks := .later }
def FeedUnpacksCardSaid : Prop := Claim7.holds Tryd.pinned (.plain (OpenSpec.ofChange feedUnpacksSpec)) feedUnpacksCard

/-- THE TIED CARD OF 'balerlaw04.FeedBack'. -/
def feedBackCard : Claim7 := { stood := { row := feedBackRow, standIns := [], harness := (true, "37b7725f3e0cd93f494296649fa4c95799ec069dce24f8dc55f84084f1ff3b81"), looks := false }, kinds := [], alts := [], laidByText := true, laidKinds := [.data], laidTests := true, laidLooks := .later }
def FeedBackCardSaid : Prop := Claim7.holds Tryd.pinned (.plain (OpenSpec.ofChange feedBackSpec)) feedBackCard

/-- THE TIED CARD OF 'balerlaw04.FeedAnew'. -/
def feedAnewCard : Claim7 := { stood := { row := feedAnewRow, standIns := [], harness := (true, "37b7725f3e0cd93f494296649fa4c95799ec069dce24f8dc55f84084f1ff3b81"), looks := false }, kinds := [], alts := [], laidByText := true, laidKinds := [.data], laidTests := true, laidLooks := .later }
def FeedAnewCardSaid : Prop := Claim7.holds Tryd.pinned (.plain (OpenSpec.ofChange feedAnewSpec)) feedAnewCard

/-- THE TIED CARD OF 'balerlaw04.FeedNil'. -/
def feedNilCard : Claim7 := { stood := { row := feedNilRow, standIns := [], harness := (true, "37b7725f3e0cd93f494296649fa4c95799ec069dce24f8dc55f84084f1ff3b81"), looks := false }, kinds := [], alts := [], laidByText := true, laidKinds := [.data], laidTests := true, laidLooks := .later }
def FeedNilCardSaid : Prop := Claim7.holds Tryd.pinned (.plain (OpenSpec.ofChange feedNilSpec)) feedNilCard

/-- THE SECOND FORM's CARD OF 'balerlaw03.RlePieces'. -/
def rlePiecesUptoCard : Claim7 := { stood := { row := rlePiecesUptoRow, standIns := [], harness := (true, "37b7725f3e0cd93f494296649fa4c95799ec069dce24f8dc55f84084f1ff3b81"), looks := false }, kinds := [], alts := [], laidByText := true, laidKinds := [.data], laidTests := true, laidLooks := .later }
def RlePiecesUptoCardSaid : Prop := Claim7.holds Tryd.pinned (.plain (OpenSpec.upto rlePiecesSpec)) rlePiecesUptoCard

/-- THE SECOND FORM's CARD OF 'balerlaw03.RleEncodes'. -/
def rleEncodesUptoCard : Claim7 := { stood := { row := rleEncodesUptoRow, standIns := [], harness := (true, "37b7725f3e0cd93f494296649fa4c95799ec069dce24f8dc55f84084f1ff3b81"), looks := false }, kinds := [], alts := [], laidByText := true, laidKinds := [.data], laidTests := true, laidLooks := .later }
def RleEncodesUptoCardSaid : Prop := Claim7.holds Tryd.pinned (.plain (OpenSpec.upto rleEncodesSpec)) rleEncodesUptoCard

/-- THE SECOND FORM's CARD OF 'balerlaw03.RleDecodes'. -/
def rleDecodesUptoCard : Claim7 := { stood := { row := rleDecodesUptoRow, standIns := [], harness := (true, "37b7725f3e0cd93f494296649fa4c95799ec069dce24f8dc55f84084f1ff3b81"), looks := false }, kinds := [], alts := [], laidByText := true, laidKinds := [.data], laidTests := true, laidLooks := .later }
def RleDecodesUptoCardSaid : Prop := Claim7.holds Tryd.pinned (.plain (OpenSpec.upto rleDecodesSpec)) rleDecodesUptoCard

/-- THE SECOND FORM's CARD OF 'balerlaw03.RleSmall'. -/
def rleSmallUptoCard : Claim7 := { stood := { row := rleSmallUptoRow, standIns := [], harness := (true, "37b7725f3e0cd93f494296649fa4c95799ec069dce24f8dc55f84084f1ff3b81"), looks := false }, kinds := [], alts := [], laidByText := true, laidKinds := [.data], laidTests := true, laidLooks := .later }
def RleSmallUptoCardSaid : Prop := Claim7.holds Tryd.pinned (.plain (OpenSpec.upto rleSmallSpec)) rleSmallUptoCard

/-- THE SECOND FORM's CARD OF 'balerlaw03.RleApart'. -/
def rleApartUptoCard : Claim7 := { stood := { row := rleApartUptoRow, standIns := [], harness := (true, "37b7725f3e0cd93f494296649fa4c95799ec069dce24f8dc55f84084f1ff3b81"), looks := false }, kinds := [], alts := [], laidByText := true, laidKinds := [.data], laidTests := true, laidLooks := .later }
def RleApartUptoCardSaid : Prop := Claim7.holds Tryd.pinned (.plain (OpenSpec.upto rleApartSpec)) rleApartUptoCard

/-- THE SECOND FORM's CARD OF 'balerlaw04.FeedPacks'. -/
def feedPacksUptoCard : Claim7 := { stood := { row := feedPacksUptoRow, standIns := [], harness := (true, "37b7725f3e0cd93f494296649fa4c95799ec069dce24f8dc55f84084f1ff3b81"), looks := false }, kinds := [], alts := [], laidByText := true, laidKinds := [.data], laidTests := true, laidLooks := .later }
def FeedPacksUptoCardSaid : Prop := Claim7.holds Tryd.pinned (.plain (OpenSpec.upto feedPacksSpec)) feedPacksUptoCard

/-- THE SECOND FORM's CARD OF 'balerlaw04.FeedUnpacks'. -/
def feedUnpacksUptoCard : Claim7 := { stood := { row := feedUnpacksUptoRow, standIns := [], harness := (true, "37b7725f3e0cd93f494296649fa4c95799ec069dce24f8dc55f84084f1ff3b81"), looks := false }, kinds := [], alts := [], laidByText := true, laidKinds := [.data], laidTests := true, laidLooks := .later }
def FeedUnpacksUptoCardSaid : Prop := Claim7.holds Tryd.pinned (.plain (OpenSpec.upto feedUnpacksSpec)) feedUnpacksUptoCard

/-- THE SECOND FORM's CARD OF 'balerlaw04.FeedBack'. -/
def feedBackUptoCard : Claim7 := { stood := { row := feedBackUptoRow, standIns := [], harness := (true, "37b7725f3e0cd93f494296649fa4c95799ec069dce24f8dc55f84084f1ff3b81"), looks := false }, kinds := [], alts := [], laidByText := true, laidKinds := [.data], laidTests := true, laidLooks := .later }
def FeedBackUptoCardSaid : Prop := Claim7.holds Tryd.pinned (.plain (OpenSpec.upto feedBackSpec)) feedBackUptoCard

/-- THE SECOND FORM's CARD OF 'balerlaw04.FeedAnew'. -/
def feedAnewUptoCard : Claim7 := { stood := { row := feedAnewUptoRow, standIns := [], harness := (true, "37b7725f3e0cd93f494296649fa4c95799ec069dce24f8dc55f84084f1ff3b81"), looks := false }, kinds := [], alts := [], laidByText := true, laidKinds := [.data], laidTests := true, laidLooks := .later }
def FeedAnewUptoCardSaid : Prop := Claim7.holds Tryd.pinned (.plain (OpenSpec.upto feedAnewSpec)) feedAnewUptoCard

/-- THE SECOND FORM's CARD OF 'balerlaw04.FeedNil'. -/
def feedNilUptoCard : Claim7 := { stood := { row := feedNilUptoRow, standIns := [], harness := (true, "37b7725f3e0cd93f494296649fa4c95799ec069dce24f8dc55f84084f1ff3b81"), looks := false }, kinds := [], alts := [], laidByText := true, laidKinds := [.data], laidTests := true, laidLooks := .later }
def FeedNilUptoCardSaid : Prop := Claim7.holds Tryd.pinned (.plain (OpenSpec.upto feedNilSpec)) feedNilUptoCard
end Rows
end Go.Proofs.YtfaalgogagpimaaDoor
