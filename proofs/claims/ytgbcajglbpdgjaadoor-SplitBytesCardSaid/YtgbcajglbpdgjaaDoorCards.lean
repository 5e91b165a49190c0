/-
  DERIVED. GIVEN WITH THE SEED: THE CARDS: each row of YtgbcajglbpdgjaaDoorRows.lean that lists a variable, with what it lists TIED to the program's text (the seventh form; the later family's looks); each row that meets fmt, with fmt's text TOLD by the authors' own Lean function (tested against real Go, not proved from fmt's source: count such statements apart). THE CARD IS WHAT COUNTS. Prove the row's statement (the work); the ties are given (YtgbcajglbpdgjaaDoorTie.lean); close each card by the builder's one call (the guide's Derived/Test/ToyasCard.lean, 'card_holds'). Laid BY PROGRAM, IN A SANDBOX (cutbox-door.mjs). By AI agents, Wed Nov 11 2026. No macro, syntax, notation, axiom, sorry.
-/
import Derived.Test.YtgbcajglbpdgjaaDoorRows
import GoSem.ClaimSeven
namespace Go.Proofs.YtgbcajglbpdgjaaDoor
namespace Rows

/-- THE TIED CARD OF 'balerlaw19.SplitRoom'. -/
def splitRoomCard : Claim7 := { stood := { row := splitRoomRow, standIns := [], harness := (true, "58d7e397cd84e4d5bb69b7eb121590a6e360681bf5235b3d84c6766562a6522c"), looks := false }, kinds := [], alts := [], laidByText := true, laidKinds := [.data], laidTests := true, laidLooks := .later }
def SplitRoomCardSaid : Prop := Claim7.holds Tryd.pinned (.plain (OpenSpec.ofChange splitRoomSpec)) splitRoomCard

/-- THE TIED CARD OF 'balerlaw19.SplitOf'. -/
def splitOfCard : Claim7 := { stood := { row := splitOfRow, standIns := [], harness := (true, "58d7e397cd84e4d5bb69b7eb121590a6e360681bf5235b3d84c6766562a6522c"), looks := false }, kinds := [], alts := [], laidByText := true, laidKinds := [.data], laidTests := true, laidLooks := .later }
def SplitOfCardSaid : Prop := Claim7.holds Tryd.pinned (.plain (OpenSpec.ofChange splitOfSpec)) splitOfCard

/-- THE TIED CARD OF 'balerlaw19.SplitBytes'. -/
def splitBytesCard : Claim7 := { stood := { row := splitBytesRow, standIns := [], harness := (true, "58d7e397cd84e4d5bb69b7eb121590a6e360681bf5235b3d84c6766562a6522c"), looks := false }, kinds := [], alts := [], laidByText := true, laidKinds := [.data], laidTests := true, laidLooks := .later }
def SplitBytesCardSaid : Prop := Claim7.holds Tryd.pinned (.plain (OpenSpec.ofChange splitBytesSpec)) splitBytesCard

/-- THE TIED CARD OF 'balerlaw19.SplitWhole'. -/
def splitWholeCard : Claim7 := { stood := { row := splitWholeRow, standIns := [], harness := (true, "58d7e397cd84e4d5bb69b7eb121590a6e360681bf5235b3d84c6766562a6522c"), looks := false }, kinds := [], alts := [], laidByText := true, laidKinds := [.data], laidTests := true, laidLooks := .later }
def SplitWholeCardSaid : Prop := Claim7.holds Tryd.pinned (.plain (OpenSpec.ofChange splitWholeSpec)) splitWholeCard

/-- THE TIED CARD OF 'balerlaw19.SplitFull'. -/
def splitFullCard : Claim7 := { stood := { row := splitFullRow, standIns := [], harness := (true, "58d7e397cd84e4d5bb69b7eb121590a6e360681bf5235b3d84c6766562a6522c"), looks := false }, kinds := [], alts := [], laidByText := true, laidKinds := [.data], laidTests := true, laidLooks := .later }
def SplitFullCardSaid : Prop := Claim7.holds Tryd.pinned (.plain (OpenSpec.ofChange splitFullSpec)) splitFullCard

/-- THE TIED CARD OF 'balerlaw19.SplitNil'. -/
def splitNilCard : Claim7 := { stood := { row := splitNilRow, standIns := [], harness := (true, "58d7e397cd84e4d5bb69b7eb121590a6e360681bf5235b3d84c6766562a6522c"), looks := false }, kinds := [], alts := [], laidByText := true, laidKinds := [.data], laidTests := true, laidLooks := .later }
def SplitNilCardSaid : Prop := Claim7.holds Tryd.pinned (.plain (OpenSpec.ofChange splitNilSpec)) splitNilCard

/-- THE SECOND FORM's CARD OF 'balerlaw19.SplitRoom'. -/
def splitRoomUptoCard : Claim7 := { stood := { row := splitRoomUptoRow, standIns := [], harness := (true, "58d7e397cd84e4d5bb69b7eb121590a6e360681bf5235b3d84c6766562a6522c"), looks := false }, kinds := [], alts := [], laidByText := true, laidKinds := [.data], laidTests := true, laidLooks := .later }
def SplitRoomUptoCardSaid : Prop := Claim7.holds Tryd.pinned (.plain (OpenSpec.upto splitRoomSpec)) splitRoomUptoCard

/-- THE SECOND FORM's CARD OF 'balerlaw19.SplitOf'. -/
def splitOfUptoCard : Claim7 := { stood := { row := splitOfUptoRow, standIns := [], harness := (true, "58d7e397cd84e4d5bb69b7eb121590a6e360681bf5235b3d84c6766562a6522c"), looks := false }, kinds := [], alts := [], laidByText := true, laidKinds := [.data], laidTests := true, laidLooks := .later }
def SplitOfUptoCardSaid : Prop := Claim7.holds Tryd.pinned (.plain (OpenSpec.upto splitOfSpec)) splitOfUptoCard

/-- THE SECOND FORM's CARD OF 'balerlaw19.SplitBytes'. -/
def splitBytesUptoCard : Claim7 := { stood := { row := splitBytesUptoRow, standIns := [], harness := (true, "58d7e397cd84e4d5bb69b7eb121590a6e360681bf5235b3d84c6766562a6522c"), looks := false }, kinds := [], alts := [], laidByText := true, laidKinds := [.data], laidTests := true, laidLooks := .later }
def SplitBytesUptoCardSaid : Prop := Claim7.holds Tryd.pinned (.plain (OpenSpec.upto splitBytesSpec)) splitBytesUptoCard

/-- THE SECOND FORM's CARD OF 'balerlaw19.SplitWhole'. -/
def splitWholeUptoCard : Claim7 := { stood := { row := splitWholeUptoRow, standIns := [], harness := (true, "58d7e397cd84e4d5bb69b7eb121590a6e360681bf5235b3d84c6766562a6522c"), looks := false }, kinds := [], alts := [], laidByText := true, laidKinds := [.data], laidTests := true, laidLooks := .later }
def SplitWholeUptoCardSaid : Prop := Claim7.holds Tryd.pinned (.plain (OpenSpec.upto splitWholeSpec)) splitWholeUptoCard

/-- THE SECOND FORM's CARD OF 'balerlaw19.SplitFull'. -/
def splitFullUptoCard : Claim7 := { stood := { row := splitFullUptoRow, standIns := [], harness := (true, "58d7e397cd84e4d5bb69b7eb121590a6e360681bf5235b3d84c6766562a6522c"), looks := false }, kinds := [], alts := [], laidByText := true, laidKinds := [.data], laidTests := true, laidLooks := .later }
def SplitFullUptoCardSaid : Prop := Claim7.holds Tryd.pinned (.plain (OpenSpec.upto splitFullSpec)) splitFullUptoCard

/-- THE SECOND FORM's CARD OF 'balerlaw19.SplitNil'. -/
def splitNilUptoCard : Claim7 := { stood := { row := splitNilUptoRow, standIns := [], harness := (true, "58d7e397cd84e4d5bb69b7eb121590a6e360681bf5235b3d84c6766562a6522c"), looks := false }, kinds := [], alts := [], laidByText := true, laidKinds := [.data], laidTests := true, laidLooks := .later }
def SplitNilUptoCardSaid : Prop := Claim7.holds Tryd.pinned (.plain (OpenSpec.upto splitNilSpec)) splitNilUptoCard
end Rows
end Go.Proofs.YtgbcajglbpdgjaaDoor
