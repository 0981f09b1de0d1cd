/-
  DERIVED. GIVEN WITH THE SEED: THE CARDS: each row of YthopokiablgjoabDoorRows.lean that lists a variable, with what it lists TIED to the program's text (the seventh form; the later family's looks); each row that meets fmt, with fmt's text TOLD by the authors' own Lean function (tested against real Go, not proved from fmt's source: count such statements apart). THE CARD IS WHAT COUNTS. Prove the row's statement (the work); the ties are given (YthopokiablgjoabDoorTie.lean); close each card by the builder's one call (the guide's Derived/Test/ToyasCard.lean, 'card_holds'). Laid BY PROGRAM, IN A SANDBOX (cutbox-door.mjs). By AI agents, Wed Nov 11 2026. No macro, syntax, notation, axiom, sorry.
-/
import Derived.Test.YthopokiablgjoabDoorRows
import GoSem.ClaimSeven
namespace Go.Proofs.YthopokiablgjoabDoor
namespace Rows

/-- THE TIED CARD OF 'laws.FnExactWinnerAt'. -/
def fnExactWinnerAtCard : Claim7 := { stood := { row := fnExactWinnerAtRow, standIns := [], harness := (true, "dbef37237227aae7647a9e6ee875060b5432d79ee60b1a0ad8f380ed9179daac"), looks := true }, kinds := [], alts := [], laidByText := true, laidKinds := [.data, .sentinel, .sentinel], laidTests := true, laidLooks := .later }
def FnExactWinnerAtCardSaid : Prop := Claim7.holds Tryd.pinned (.plain (OpenSpec.ofChange fnExactWinnerAtSpec)) fnExactWinnerAtCard

/-- THE TIED CARD OF 'laws.FnExactPathsOf'. -/
def fnExactPathsOfCard : Claim7 := { stood := { row := fnExactPathsOfRow, standIns := [], harness := (true, "dbef37237227aae7647a9e6ee875060b5432d79ee60b1a0ad8f380ed9179daac"), looks := true }, kinds := [], alts := [], laidByText := true, laidKinds := [.data, .sentinel, .sentinel], laidTests := true, laidLooks := .later }
def FnExactPathsOfCardSaid : Prop := Claim7.holds Tryd.pinned (.plain (OpenSpec.ofChange fnExactPathsOfSpec)) fnExactPathsOfCard

/-- THE TIED CARD OF 'laws.FnExactCutDepth'. -/
def fnExactCutDepthCard : Claim7 := { stood := { row := fnExactCutDepthRow, standIns := [], harness := (true, "dbef37237227aae7647a9e6ee875060b5432d79ee60b1a0ad8f380ed9179daac"), looks := true }, kinds := [], alts := [], laidByText := true, laidKinds := [.data, .sentinel, .sentinel], laidTests := true, laidLooks := .later }
def FnExactCutDepthCardSaid : Prop := Claim7.holds Tryd.pinned (.plain (OpenSpec.ofChange fnExactCutDepthSpec)) fnExactCutDepthCard

/-- THE SECOND FORM's CARD OF 'laws.FnExactWinnerAt'. -/
def fnExactWinnerAtUptoCard : Claim7 := { stood := { row := fnExactWinnerAtUptoRow, standIns := [], harness := (true, "dbef37237227aae7647a9e6ee875060b5432d79ee60b1a0ad8f380ed9179daac"), looks := true }, kinds := [], alts := [], laidByText := true, laidKinds := [.data, .sentinel, .sentinel], laidTests := true, laidLooks := .later }
def FnExactWinnerAtUptoCardSaid : Prop := Claim7.holds Tryd.pinned (.plain (OpenSpec.upto fnExactWinnerAtSpec)) fnExactWinnerAtUptoCard

/-- THE SECOND FORM's CARD OF 'laws.FnExactPathsOf'. -/
def fnExactPathsOfUptoCard : Claim7 := { stood := { row := fnExactPathsOfUptoRow, standIns := [], harness := (true, "dbef37237227aae7647a9e6ee875060b5432d79ee60b1a0ad8f380ed9179daac"), looks := true }, kinds := [], alts := [], laidByText := true, laidKinds := [.data, .sentinel, .sentinel], laidTests := true, laidLooks := .later }
def FnExactPathsOfUptoCardSaid : Prop := Claim7.holds Tryd.pinned (.plain (OpenSpec.upto fnExactPathsOfSpec)) fnExactPathsOfUptoCard

/-- THE SECOND FORM's CARD OF 'laws.FnExactCutDepth'. -/
def fnExactCutDepthUptoCard : Claim7 := { stood := { row := fnExactCutDepthUptoRow, standIns := [], harness := (true, "dbef37237227aae7647a9e6ee875060b5432d79ee60b1a0ad8f380ed9179daac"), looks := true }, kinds := [], alts := [], laidByText := true, laidKinds := [.data, .sentinel, .sentinel], laidTests := true, laidLooks := .later }
def FnExactCutDepthUptoCardSaid : Prop := Claim7.holds Tryd.pinned (.plain (OpenSpec.upto fnExactCutDepthSpec)) fnExactCutDepthUptoCard
end Rows
end Go.Proofs.YthopokiablgjoabDoor
