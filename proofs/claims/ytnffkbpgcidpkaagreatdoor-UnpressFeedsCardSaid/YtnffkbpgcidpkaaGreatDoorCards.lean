/-
  DERIVED. GIVEN WITH THE SEED: THE CARDS: each row of YtnffkbpgcidpkaaGreatDoorRows.lean that lists a variable, with what it lists TIED to the program's text (the seventh form; the later family's looks); each row that meets fmt, with fmt's text TOLD by the authors' own Lean function (tested against real Go, not proved from fmt's source: count such statements apart). THE CARD IS WHAT COUNTS. Prove the row's statement (the work); the ties are given (YtnffkbpgcidpkaaGreatDoorTie.lean); close each card by the builder's one call (the guide's Derived/Test/ToyasCard.lean, 'card_holds'). Laid BY PROGRAM, IN A SANDBOX (cutbox-door.mjs). By AI agents, Wed Nov 11 2026. No macro, syntax, notation, axiom, sorry.
-/
import Derived.Test.YtnffkbpgcidpkaaGreatDoorRows
import GoSem.ClaimSeven
namespace Go.Proofs.YtnffkbpgcidpkaaGreatDoor
namespace Rows

/-- THE TIED CARD OF 'balerlaw24.UnpressNews'. -/
def unpressNewsCard : Claim7 := { stood := { row := unpressNewsRow, standIns := [], harness := (true, "625e29d4cfe49f0e39d6078a97744d9c1e234b6e3a55a59caaebdf45ca07e6a3"), looks := false }, kinds := [], alts := [], laidByText := true, laidKinds := [.data], laidTests := true, laidLooks := .later }
def UnpressNewsCardSaid : Prop := Claim7.holds Tryz.pinned (.plain (OpenSpec.ofChange unpressNewsSpec)) unpressNewsCard

/-- THE TIED CARD OF 'balerlaw24.UnpressFeeds'. -/
def unpressFeedsCard : Claim7 := { stood := { row := unpressFeedsRow, standIns := [], harness := (true, "625e29d4cfe49f0e39d6078a97744d9c1e234b6e3a55a59caaebdf45ca07e6a3"), looks := false }, kinds := [], alts := [], laidByText := true, laidKinds := [.data], laidTests := true, laidLooks := .later }
def UnpressFeedsCardSaid : Prop := Claim7.holds Tryz.pinned (.plain (OpenSpec.ofChange unpressFeedsSpec)) unpressFeedsCard

/-- THE TIED CARD OF 'balerlaw24.UnpressNil'. -/
def unpressNilCard : Claim7 := { stood := { row := unpressNilRow, standIns := [], harness := (true, "625e29d4cfe49f0e39d6078a97744d9c1e234b6e3a55a59caaebdf45ca07e6a3"), looks := false }, kinds := [], alts := [], laidByText := true, laidKinds := [.data], laidTests := true, laidLooks := .later }
def UnpressNilCardSaid : Prop := Claim7.holds Tryz.pinned (.plain (OpenSpec.ofChange unpressNilSpec)) unpressNilCard

/-- THE SECOND FORM's CARD OF 'balerlaw24.UnpressNews'. -/
def unpressNewsUptoCard : Claim7 := { stood := { row := unpressNewsUptoRow, standIns := [], harness := (true, "625e29d4cfe49f0e39d6078a97744d9c1e234b6e3a55a59caaebdf45ca07e6a3"), looks := false }, kinds := [], alts := [], laidByText := true, laidKinds := [.data], laidTests := true, laidLooks := .later }
def UnpressNewsUptoCardSaid : Prop := Claim7.holds Tryz.pinned (.plain (OpenSpec.upto unpressNewsSpec)) unpressNewsUptoCard

/-- THE SECOND FORM's CARD OF 'balerlaw24.UnpressFeeds'. -/
def unpressFeedsUptoCard : Claim7 := { stood := { row := unpressFeedsUptoRow, standIns := [], harness := (true, "625e29d4cfe49f0e39d6078a97744d9c1e234b6e3a55a59caaebdf45ca07e6a3"), looks := false }, kinds := [], alts := [], laidByText := true, laidKinds := [.data], laidTests := true, laidLooks := .later }
def UnpressFeedsUptoCardSaid : Prop := Claim7.holds Tryz.pinned (.plain (OpenSpec.upto unpressFeedsSpec)) unpressFeedsUptoCard

/-- THE SECOND FORM's CARD OF 'balerlaw24.UnpressNil'. -/
def unpressNilUptoCard : Claim7 := { stood := { row := unpressNilUptoRow, standIns := [], harness := (true, "625e29d4cfe49f0e39d6078a97744d9c1e234b6e3a55a59caaebdf45ca07e6a3"), looks := false }, kinds := [], alts := [], laidByText := true, laidKinds := [.data], laidTests := true, laidLooks := .later }
def UnpressNilUptoCardSaid : Prop := Claim7.holds Tryz.pinned (.plain (OpenSpec.upto unpressNilSpec)) unpressNilUptoCard
end Rows
end Go.Proofs.YtnffkbpgcidpkaaGreatDoor
