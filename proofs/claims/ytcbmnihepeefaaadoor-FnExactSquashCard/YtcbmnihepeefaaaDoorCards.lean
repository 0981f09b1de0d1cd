/-
  DERIVED. GIVEN WITH THE SEED: THE CARDS: each row of YtcbmnihepeefaaaDoorRows.lean that lists a variable, with what it lists TIED to the program's text (the seventh form; the later family's looks); each row that meets fmt, with fmt's text TOLD by the authors' own Lean function (tested against real Go, not proved from fmt's source: count such statements apart). THE CARD IS WHAT COUNTS. Prove the row's statement (the work); the ties are given (YtcbmnihepeefaaaDoorTie.lean); close each card by the builder's one call (the guide's Derived/Test/ToyasCard.lean, 'card_holds'). Laid BY PROGRAM, IN A SANDBOX (cutbox-door.mjs). By AI agents, Wed Nov 11 2026. No macro, syntax, notation, axiom, sorry.
-/
import Derived.Test.YtcbmnihepeefaaaDoorRows
import GoSem.ClaimSeven
namespace Go.Proofs.YtcbmnihepeefaaaDoor
namespace Rows

/-- THE TIED CARD OF 'laws.FnExactSquash'. -/
def fnExactSquashCard : Claim7 := { stood := { row := fnExactSquashRow, standIns := [], harness := (true, "a2e49d06deaeb8f36ba0c9aa6e6a19bfdc2e1345bc239bfa4f1a268e884950b9"), looks := true }, kinds := [], alts := [], laidByText := true, laidKinds := [.data, .sentinel, .sentinel], laidTests := true, laidLooks := .later }
def FnExactSquashCardSaid : Prop := Claim7.holds Tryd.pinned (.plain (OpenSpec.ofChange fnExactSquashSpec)) fnExactSquashCard

/-- THE TIED CARD OF 'laws.FnExactHidden'. -/
def fnExactHiddenCard : Claim7 := { stood := { row := fnExactHiddenRow, standIns := [], harness := (true, "a2e49d06deaeb8f36ba0c9aa6e6a19bfdc2e1345bc239bfa4f1a268e884950b9"), looks := true }, kinds := [], alts := [], laidByText := true, laidKinds := [.data, .sentinel, .sentinel], laidTests := true, laidLooks := .later }
def FnExactHiddenCardSaid : Prop := Claim7.holds Tryd.pinned (.plain (OpenSpec.ofChange fnExactHiddenSpec)) fnExactHiddenCard

/-- THE TIED CARD OF 'laws.FnExactCuts'. -/
def fnExactCutsCard : Claim7 := { stood := { row := fnExactCutsRow, standIns := [], harness := (true, "a2e49d06deaeb8f36ba0c9aa6e6a19bfdc2e1345bc239bfa4f1a268e884950b9"), looks := true }, kinds := [], alts := [], laidByText := true, laidKinds := [.data, .sentinel, .sentinel], laidTests := true, laidLooks := .later }
def FnExactCutsCardSaid : Prop := Claim7.holds Tryd.pinned (.plain (OpenSpec.ofChange fnExactCutsSpec)) fnExactCutsCard

/-- THE TIED CARD OF 'laws.FnExactAlike'. -/
def fnExactAlikeCard : Claim7 := { stood := { row := fnExactAlikeRow, standIns := [], harness := (true, "a2e49d06deaeb8f36ba0c9aa6e6a19bfdc2e1345bc239bfa4f1a268e884950b9"), looks := true }, kinds := [], alts := [], laidByText := true, laidKinds := [.data, .sentinel, .sentinel], laidTests := true, laidLooks := .later }
def FnExactAlikeCardSaid : Prop := Claim7.holds Tryd.pinned (.plain (OpenSpec.ofChange fnExactAlikeSpec)) fnExactAlikeCard

/-- THE SECOND FORM's CARD OF 'laws.FnExactSquash'. -/
def fnExactSquashUptoCard : Claim7 := { stood := { row := fnExactSquashUptoRow, standIns := [], harness := (true, "a2e49d06deaeb8f36ba0c9aa6e6a19bfdc2e1345bc239bfa4f1a268e884950b9"), looks := true }, kinds := [], alts := [], laidByText := true, laidKinds := [.data, .sentinel, .sentinel], laidTests := true, laidLooks := .later }
def FnExactSquashUptoCardSaid : Prop := Claim7.holds Tryd.pinned (.plain (OpenSpec.upto fnExactSquashSpec)) fnExactSquashUptoCard

/-- THE SECOND FORM's CARD OF 'laws.FnExactHidden'. -/
def fnExactHiddenUptoCard : Claim7 := { stood := { row := fnExactHiddenUptoRow, standIns := [], harness := (true, "a2e49d06deaeb8f36ba0c9aa6e6a19bfdc2e1345bc239bfa4f1a268e884950b9"), looks := true }, kinds := [], alts := [], laidByText := true, laidKinds := [.data, .sentinel, .sentinel], laidTests := true, laidLooks := .later }
def FnExactHiddenUptoCardSaid : Prop := Claim7.holds Tryd.pinned (.plain (OpenSpec.upto fnExactHiddenSpec)) fnExactHiddenUptoCard

/-- THE SECOND FORM's CARD OF 'laws.FnExactCuts'. -/
def fnExactCutsUptoCard : Claim7 := { stood := { row := fnExactCutsUptoRow, standIns := [], harness := (true, "a2e49d06deaeb8f36ba0c9aa6e6a19bfdc2e1345bc239bfa4f1a268e884950b9"), looks := true }, kinds := [], alts := [], laidByText := true, laidKinds := [.data, .sentinel, .sentinel], laidTests := true, laidLooks := .later }
def FnExactCutsUptoCardSaid : Prop := Claim7.holds Tryd.pinned (.plain (OpenSpec.upto fnExactCutsSpec)) fnExactCutsUptoCard

/-- THE SECOND FORM's CARD OF 'laws.FnExactAlike'. -/
def fnExactAlikeUptoCard : Claim7 := { stood := { row := fnExactAlikeUptoRow, standIns := [], harness := (true, "a2e49d06deaeb8f36ba0c9aa6e6a19bfdc2e1345bc239bfa4f1a268e884950b9"), looks := true }, kinds := [], alts := [], laidByText := true, laidKinds := [.data, .sentinel, .sentinel], laidTests := true, laidLooks := .later }
def FnExactAlikeUptoCardSaid : Prop := Claim7.holds Tryd.pinned (.plain (OpenSpec.upto fnExactAlikeSpec)) fnExactAlikeUptoCard
end Rows
end Go.Proofs.YtcbmnihepeefaaaDoor
