/-
  DERIVED. GIVEN WITH THE SEED: THE CARDS: each row of YtcnjiphoahoojaaGreatDoorRows.lean that lists a variable, with what it lists TIED to the program's text (the seventh form; the later family's looks); each row that meets fmt, with fmt's text TOLD by the authors' own Lean function (tested against real Go, not proved from fmt's source: count such statements apart). THE CARD IS WHAT COUNTS. Prove the row's statement (the work); the ties are given (YtcnjiphoahoojaaGreatDoorTie.lean); close each card by the builder's one call (the guide's Derived/Test/ToyasCard.lean, 'card_holds'). Laid BY PROGRAM, IN A SANDBOX (cutbox-door.mjs). By AI agents, Wed Nov 11 2026. No macro, syntax, notation, axiom, sorry.
-/
import Derived.Test.YtcnjiphoahoojaaGreatDoorRows
import GoSem.ClaimSeven
namespace Go.Proofs.YtcnjiphoahoojaaGreatDoor
namespace Rows

/-- THE TIED CARD OF 'laws.FnExactMergeTrace'. -/
def fnExactMergeTraceCard : Claim7 := { stood := { row := fnExactMergeTraceRow, standIns := [], harness := (true, "c74859f02d4a300927075739b4e1aeb9102a8ff4b7d1a5c80969ff8ea843fe82"), looks := true }, kinds := [], alts := [], laidByText := true, laidKinds := [.data, .sentinel, .sentinel], laidTests := true, laidLooks := .later }
def FnExactMergeTraceCardSaid : Prop := Claim7.holds Tryz.pinned (.plain (OpenSpec.ofChange fnExactMergeTraceSpec)) fnExactMergeTraceCard

/-- THE TIED CARD OF 'laws.FnExactMergeMany'. -/
def fnExactMergeManyCard : Claim7 := { stood := { row := fnExactMergeManyRow, standIns := [], harness := (true, "c74859f02d4a300927075739b4e1aeb9102a8ff4b7d1a5c80969ff8ea843fe82"), looks := true }, kinds := [], alts := [], laidByText := true, laidKinds := [.data, .sentinel, .sentinel], laidTests := true, laidLooks := .later }
def FnExactMergeManyCardSaid : Prop := Claim7.holds Tryz.pinned (.plain (OpenSpec.ofChange fnExactMergeManySpec)) fnExactMergeManyCard

/-- THE TIED CARD OF 'laws.FnExactLayerBetween'. -/
def fnExactLayerBetweenCard : Claim7 := { stood := { row := fnExactLayerBetweenRow, standIns := [], harness := (true, "c74859f02d4a300927075739b4e1aeb9102a8ff4b7d1a5c80969ff8ea843fe82"), looks := true }, kinds := [], alts := [], laidByText := true, laidKinds := [.data, .sentinel, .sentinel], laidTests := true, laidLooks := .later }
def FnExactLayerBetweenCardSaid : Prop := Claim7.holds Tryz.pinned (.plain (OpenSpec.ofChange fnExactLayerBetweenSpec)) fnExactLayerBetweenCard

/-- THE SECOND FORM's CARD OF 'laws.FnExactMergeTrace'. -/
def fnExactMergeTraceUptoCard : Claim7 := { stood := { row := fnExactMergeTraceUptoRow, standIns := [], harness := (true, "c74859f02d4a300927075739b4e1aeb9102a8ff4b7d1a5c80969ff8ea843fe82"), looks := true }, kinds := [], alts := [], laidByText := true, laidKinds := [.data, .sentinel, .sentinel], laidTests := true, laidLooks := .later }
def FnExactMergeTraceUptoCardSaid : Prop := Claim7.holds Tryz.pinned (.plain (OpenSpec.upto fnExactMergeTraceSpec)) fnExactMergeTraceUptoCard

/-- THE SECOND FORM's CARD OF 'laws.FnExactMergeMany'. -/
def fnExactMergeManyUptoCard : Claim7 := { stood := { row := fnExactMergeManyUptoRow, standIns := [], harness := (true, "c74859f02d4a300927075739b4e1aeb9102a8ff4b7d1a5c80969ff8ea843fe82"), looks := true }, kinds := [], alts := [], laidByText := true, laidKinds := [.data, .sentinel, .sentinel], laidTests := true, laidLooks := .later }
def FnExactMergeManyUptoCardSaid : Prop := Claim7.holds Tryz.pinned (.plain (OpenSpec.upto fnExactMergeManySpec)) fnExactMergeManyUptoCard

/-- THE SECOND FORM's CARD OF 'laws.FnExactLayerBetween'. -/
def fnExactLayerBetweenUptoCard : Claim7 := { stood := { row := fnExactLayerBetweenUptoRow, standIns := [], harness := (true, "c74859f02d4a300927075739b4e1aeb9102a8ff4b7d1a5c80969ff8ea843fe82"), looks := true }, kinds := [], alts := [], laidByText := true, laidKinds := [.data, .sentinel, .sentinel], laidTests := true, laidLooks := .later }
def FnExactLayerBetweenUptoCardSaid : Prop := Claim7.holds Tryz.pinned (.plain (OpenSpec.upto fnExactLayerBetweenSpec)) fnExactLayerBetweenUptoCard
end Rows
end Go.Proofs.YtcnjiphoahoojaaGreatDoor
