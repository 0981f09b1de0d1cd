/-
  DERIVED. GIVEN WITH THE SEED: THE CARDS: each row of YtibekkfbpmloiaaGreatDoorRows.lean that lists a variable, with what it lists TIED to the program's text (the seventh form; the later family's looks); each row that meets fmt, with fmt's text TOLD by the authors' own Lean function (tested against real Go, not proved from fmt's source: count such statements apart). THE CARD IS WHAT COUNTS. Prove the row's statement (the work); the ties are given (YtibekkfbpmloiaaGreatDoorTie.lean); close each card by the builder's one call (the guide's Derived/Test/ToyasCard.lean, 'card_holds'). Laid BY PROGRAM, IN A SANDBOX (cutbox-door.mjs). By AI agents, Wed Nov 11 2026. No macro, syntax, notation, axiom, sorry.
-/
import Derived.Test.YtibekkfbpmloiaaGreatDoorRows
import GoSem.ClaimSeven
namespace Go.Proofs.YtibekkfbpmloiaaGreatDoor
namespace Rows

/-- THE TIED CARD OF 'laws.FnExactLookUp'. -/
def fnExactLookUpCard : Claim7 := { stood := { row := fnExactLookUpRow, standIns := [], harness := (true, "3b4dd94f7a7b6f02a41d22b7ec68897a40f5a4081acdc42f6dd10fd6b7318ac7"), looks := true }, kinds := [], alts := [], laidByText := true, laidKinds := [.data, .sentinel, .sentinel], laidTests := true, laidLooks := .later }
def FnExactLookUpCardSaid : Prop := Claim7.holds Tryz.pinned (.plain (OpenSpec.ofChange fnExactLookUpSpec)) fnExactLookUpCard

/-- THE TIED CARD OF 'laws.FnExactReadDir'. -/
def fnExactReadDirCard : Claim7 := { stood := { row := fnExactReadDirRow, standIns := [], harness := (true, "3b4dd94f7a7b6f02a41d22b7ec68897a40f5a4081acdc42f6dd10fd6b7318ac7"), looks := true }, kinds := [], alts := [], laidByText := true, laidKinds := [.data, .sentinel, .sentinel], laidTests := true, laidLooks := .later }
def FnExactReadDirCardSaid : Prop := Claim7.holds Tryz.pinned (.plain (OpenSpec.ofChange fnExactReadDirSpec)) fnExactReadDirCard

/-- THE TIED CARD OF 'laws.FnExactReadFile'. -/
def fnExactReadFileCard : Claim7 := { stood := { row := fnExactReadFileRow, standIns := [], harness := (true, "3b4dd94f7a7b6f02a41d22b7ec68897a40f5a4081acdc42f6dd10fd6b7318ac7"), looks := true }, kinds := [], alts := [], laidByText := true, laidKinds := [.data, .sentinel, .sentinel], laidTests := true, laidLooks := .later }
def FnExactReadFileCardSaid : Prop := Claim7.holds Tryz.pinned (.plain (OpenSpec.ofChange fnExactReadFileSpec)) fnExactReadFileCard

/-- THE TIED CARD OF 'laws.FnExactReadLink'. -/
def fnExactReadLinkCard : Claim7 := { stood := { row := fnExactReadLinkRow, standIns := [], harness := (true, "3b4dd94f7a7b6f02a41d22b7ec68897a40f5a4081acdc42f6dd10fd6b7318ac7"), looks := true }, kinds := [], alts := [], laidByText := true, laidKinds := [.data, .sentinel, .sentinel], laidTests := true, laidLooks := .later }
def FnExactReadLinkCardSaid : Prop := Claim7.holds Tryz.pinned (.plain (OpenSpec.ofChange fnExactReadLinkSpec)) fnExactReadLinkCard

/-- THE TIED CARD OF 'laws.FnExactWalk'. -/
def fnExactWalkCard : Claim7 := { stood := { row := fnExactWalkRow, standIns := [], harness := (true, "3b4dd94f7a7b6f02a41d22b7ec68897a40f5a4081acdc42f6dd10fd6b7318ac7"), looks := true }, kinds := [], alts := [], laidByText := true, laidKinds := [.data, .sentinel, .sentinel], laidTests := true, laidLooks := .later }
def FnExactWalkCardSaid : Prop := Claim7.holds Tryz.pinned (.plain (OpenSpec.ofChange fnExactWalkSpec)) fnExactWalkCard

/-- THE TIED CARD OF 'laws.FnExactLayerOf'. -/
def fnExactLayerOfCard : Claim7 := { stood := { row := fnExactLayerOfRow, standIns := [], harness := (true, "3b4dd94f7a7b6f02a41d22b7ec68897a40f5a4081acdc42f6dd10fd6b7318ac7"), looks := true }, kinds := [], alts := [], laidByText := true, laidKinds := [.data, .sentinel, .sentinel], laidTests := true, laidLooks := .later }
def FnExactLayerOfCardSaid : Prop := Claim7.holds Tryz.pinned (.plain (OpenSpec.ofChange fnExactLayerOfSpec)) fnExactLayerOfCard

/-- THE SECOND FORM's CARD OF 'laws.FnExactLookUp'. -/
def fnExactLookUpUptoCard : Claim7 := { stood := { row := fnExactLookUpUptoRow, standIns := [], harness := (true, "3b4dd94f7a7b6f02a41d22b7ec68897a40f5a4081acdc42f6dd10fd6b7318ac7"), looks := true }, kinds := [], alts := [], laidByText := true, laidKinds := [.data, .sentinel, .sentinel], laidTests := true, laidLooks := .later }
def FnExactLookUpUptoCardSaid : Prop := Claim7.holds Tryz.pinned (.plain (OpenSpec.upto fnExactLookUpSpec)) fnExactLookUpUptoCard

/-- THE SECOND FORM's CARD OF 'laws.FnExactReadDir'. -/
def fnExactReadDirUptoCard : Claim7 := { stood := { row := fnExactReadDirUptoRow, standIns := [], harness := (true, "3b4dd94f7a7b6f02a41d22b7ec68897a40f5a4081acdc42f6dd10fd6b7318ac7"), looks := true }, kinds := [], alts := [], laidByText := true, laidKinds := [.data, .sentinel, .sentinel], laidTests := true, laidLooks := .later }
def FnExactReadDirUptoCardSaid : Prop := Claim7.holds Tryz.pinned (.plain (OpenSpec.upto fnExactReadDirSpec)) fnExactReadDirUptoCard

/-- THE SECOND FORM's CARD OF 'laws.FnExactReadFile'. -/
def fnExactReadFileUptoCard : Claim7 := { stood := { row := fnExactReadFileUptoRow, standIns := [], harness := (true, "3b4dd94f7a7b6f02a41d22b7ec68897a40f5a4081acdc42f6dd10fd6b7318ac7"), looks := true }, kinds := [], alts := [], laidByText := true, laidKinds := [.data, .sentinel, .sentinel], laidTests := true, laidLooks := .later }
def FnExactReadFileUptoCardSaid : Prop := Claim7.holds Tryz.pinned (.plain (OpenSpec.upto fnExactReadFileSpec)) fnExactReadFileUptoCard

/-- THE SECOND FORM's CARD OF 'laws.FnExactReadLink'. -/
def fnExactReadLinkUptoCard : Claim7 := { stood := { row := fnExactReadLinkUptoRow, standIns := [], harness := (true, "3b4dd94f7a7b6f02a41d22b7ec68897a40f5a4081acdc42f6dd10fd6b7318ac7"), looks := true }, kinds := [], alts := [], laidByText := true, laidKinds := [.data, .sentinel, .sentinel], laidTests := true, laidLooks := .later }
def FnExactReadLinkUptoCardSaid : Prop := Claim7.holds Tryz.pinned (.plain (OpenSpec.upto fnExactReadLinkSpec)) fnExactReadLinkUptoCard

/-- THE SECOND FORM's CARD OF 'laws.FnExactWalk'. -/
def fnExactWalkUptoCard : Claim7 := { stood := { row := fnExactWalkUptoRow, standIns := [], harness := (true, "3b4dd94f7a7b6f02a41d22b7ec68897a40f5a4081acdc42f6dd10fd6b7318ac7"), looks := true }, kinds := [], alts := [], laidByText := true, laidKinds := [.data, .sentinel, .sentinel], laidTests := true, laidLooks := .later }
def FnExactWalkUptoCardSaid : Prop := Claim7.holds Tryz.pinned (.plain (OpenSpec.upto fnExactWalkSpec)) fnExactWalkUptoCard

/-- THE SECOND FORM's CARD OF 'laws.FnExactLayerOf'. -/
def fnExactLayerOfUptoCard : Claim7 := { stood := { row := fnExactLayerOfUptoRow, standIns := [], harness := (true, "3b4dd94f7a7b6f02a41d22b7ec68897a40f5a4081acdc42f6dd10fd6b7318ac7"), looks := true }, kinds := [], alts := [], laidByText := true, laidKinds := [.data, .sentinel, .sentinel], laidTests := true, laidLooks := .later }
def FnExactLayerOfUptoCardSaid : Prop := Claim7.holds Tryz.pinned (.plain (OpenSpec.upto fnExactLayerOfSpec)) fnExactLayerOfUptoCard
end Rows
end Go.Proofs.YtibekkfbpmloiaaGreatDoor
