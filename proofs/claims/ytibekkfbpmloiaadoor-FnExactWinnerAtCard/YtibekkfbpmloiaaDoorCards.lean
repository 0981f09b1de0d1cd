/-
  DERIVED. GIVEN WITH THE SEED: THE CARDS: each row of YtibekkfbpmloiaaDoorRows.lean that lists a variable, with what it lists TIED to the program's text (the seventh form; the later family's looks); each row that meets fmt, with fmt's text TOLD by the authors' own Lean function (tested against real Go, not proved from fmt's source: count such statements apart). THE CARD IS WHAT COUNTS. Prove the row's statement (the work); the ties are given (YtibekkfbpmloiaaDoorTie.lean); close each card by the builder's one call (the guide's Derived/Test/ToyasCard.lean, 'card_holds'). Laid BY PROGRAM, IN A SANDBOX (cutbox-door.mjs). By AI agents, Wed Nov 11 2026. No macro, syntax, notation, axiom, sorry.
-/
import Derived.Test.YtibekkfbpmloiaaDoorRows
import GoSem.ClaimSeven
namespace Go.Proofs.YtibekkfbpmloiaaDoor
namespace Rows

/-- THE TIED CARD OF 'laws.FnExactWinnerAt'. -/
def fnExactWinnerAtCard : Claim7 := { stood := { row := fnExactWinnerAtRow, standIns := [], harness := (true, "8f633f2cff1e1908457a2d5e593f48f4d15ee14ec680f633138f09b9b1461080"), looks := true }, kinds := [], alts := [], laidByText := true, laidKinds := [.data, .sentinel, .sentinel], laidTests := true, laidLooks := .later }
def FnExactWinnerAtCardSaid : Prop := Claim7.holds Tryd.pinned (.plain (OpenSpec.ofChange fnExactWinnerAtSpec)) fnExactWinnerAtCard

/-- THE SECOND FORM's CARD OF 'laws.FnExactWinnerAt'. -/
def fnExactWinnerAtUptoCard : Claim7 := { stood := { row := fnExactWinnerAtUptoRow, standIns := [], harness := (true, "8f633f2cff1e1908457a2d5e593f48f4d15ee14ec680f633138f09b9b1461080"), looks := true }, kinds := [], alts := [], laidByText := true, laidKinds := [.data, .sentinel, .sentinel], laidTests := true, laidLooks := .later }
def FnExactWinnerAtUptoCardSaid : Prop := Claim7.holds Tryd.pinned (.plain (OpenSpec.upto fnExactWinnerAtSpec)) fnExactWinnerAtUptoCard
end Rows
end Go.Proofs.YtibekkfbpmloiaaDoor
