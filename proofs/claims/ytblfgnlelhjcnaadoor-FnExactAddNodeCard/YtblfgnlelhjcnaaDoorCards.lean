/-
  DERIVED. GIVEN WITH THE SEED: THE CARDS: each row of YtblfgnlelhjcnaaDoorRows.lean that lists a variable, with what it lists TIED to the program's text (the seventh form; the later family's looks); each row that meets fmt, with fmt's text TOLD by the authors' own Lean function (tested against real Go, not proved from fmt's source: count such statements apart). THE CARD IS WHAT COUNTS. Prove the row's statement (the work); the ties are given (YtblfgnlelhjcnaaDoorTie.lean); close each card by the builder's one call (the guide's Derived/Test/ToyasCard.lean, 'card_holds'). Laid BY PROGRAM, IN A SANDBOX (cutbox-door.mjs). By AI agents, Wed Nov 11 2026. No macro, syntax, notation, axiom, sorry.
-/
import Derived.Test.YtblfgnlelhjcnaaDoorRows
import GoSem.ClaimSeven
namespace Go.Proofs.YtblfgnlelhjcnaaDoor
namespace Rows

/-- THE TIED CARD OF 'laws.FnExactTreeOK'. -/
def fnExactTreeOKCard : Claim7 := { stood := { row := fnExactTreeOKRow, standIns := [], harness := (true, "c1da20daaad5165d31b07ad7d8ecd9f2c79c6b6130726ddcbadc50a607228d49"), looks := true }, kinds := [], alts := [], laidByText := true, laidKinds := [.data, .sentinel, .sentinel], laidTests := true, laidLooks := .later }
def FnExactTreeOKCardSaid : Prop := Claim7.holds Tryd.pinned (.plain (OpenSpec.ofChange fnExactTreeOKSpec)) fnExactTreeOKCard

/-- THE TIED CARD OF 'laws.FnExactFindNode'. -/
def fnExactFindNodeCard : Claim7 := { stood := { row := fnExactFindNodeRow, standIns := [], harness := (true, "c1da20daaad5165d31b07ad7d8ecd9f2c79c6b6130726ddcbadc50a607228d49"), looks := true }, kinds := [], alts := [], laidByText := true, laidKinds := [.data, .sentinel, .sentinel], laidTests := true, laidLooks := .later }
def FnExactFindNodeCardSaid : Prop := Claim7.holds Tryd.pinned (.plain (OpenSpec.ofChange fnExactFindNodeSpec)) fnExactFindNodeCard

/-- THE TIED CARD OF 'laws.FnExactListDir'. -/
def fnExactListDirCard : Claim7 := { stood := { row := fnExactListDirRow, standIns := [], harness := (true, "c1da20daaad5165d31b07ad7d8ecd9f2c79c6b6130726ddcbadc50a607228d49"), looks := true }, kinds := [], alts := [], laidByText := true, laidKinds := [.data, .sentinel, .sentinel], laidTests := true, laidLooks := .later }
def FnExactListDirCardSaid : Prop := Claim7.holds Tryd.pinned (.plain (OpenSpec.ofChange fnExactListDirSpec)) fnExactListDirCard

/-- THE TIED CARD OF 'laws.FnExactAddNode'. -/
def fnExactAddNodeCard : Claim7 := { stood := { row := fnExactAddNodeRow, standIns := [], harness := (true, "c1da20daaad5165d31b07ad7d8ecd9f2c79c6b6130726ddcbadc50a607228d49"), looks := true }, kinds := [], alts := [], laidByText := true, laidKinds := [.data, .sentinel, .sentinel], laidTests := true, laidLooks := .later }
def FnExactAddNodeCardSaid : Prop := Claim7.holds Tryd.pinned (.plain (OpenSpec.ofChange fnExactAddNodeSpec)) fnExactAddNodeCard

/-- THE TIED CARD OF 'laws.FnExactRemoveNode'. -/
def fnExactRemoveNodeCard : Claim7 := { stood := { row := fnExactRemoveNodeRow, standIns := [], harness := (true, "c1da20daaad5165d31b07ad7d8ecd9f2c79c6b6130726ddcbadc50a607228d49"), looks := true }, kinds := [], alts := [], laidByText := true, laidKinds := [.data, .sentinel, .sentinel], laidTests := true, laidLooks := .later }
def FnExactRemoveNodeCardSaid : Prop := Claim7.holds Tryd.pinned (.plain (OpenSpec.ofChange fnExactRemoveNodeSpec)) fnExactRemoveNodeCard

/-- THE TIED CARD OF 'laws.FnExactLayerOfTree'. -/
def fnExactLayerOfTreeCard : Claim7 := { stood := { row := fnExactLayerOfTreeRow, standIns := [], harness := (true, "c1da20daaad5165d31b07ad7d8ecd9f2c79c6b6130726ddcbadc50a607228d49"), looks := true }, kinds := [], alts := [], laidByText := true, laidKinds := [.data, .sentinel, .sentinel], laidTests := true, laidLooks := .later }
def FnExactLayerOfTreeCardSaid : Prop := Claim7.holds Tryd.pinned (.plain (OpenSpec.ofChange fnExactLayerOfTreeSpec)) fnExactLayerOfTreeCard

/-- THE TIED CARD OF 'laws.FnExactSameTree'. -/
def fnExactSameTreeCard : Claim7 := { stood := { row := fnExactSameTreeRow, standIns := [], harness := (true, "c1da20daaad5165d31b07ad7d8ecd9f2c79c6b6130726ddcbadc50a607228d49"), looks := true }, kinds := [], alts := [], laidByText := true, laidKinds := [.data, .sentinel, .sentinel], laidTests := true, laidLooks := .later }
def FnExactSameTreeCardSaid : Prop := Claim7.holds Tryd.pinned (.plain (OpenSpec.ofChange fnExactSameTreeSpec)) fnExactSameTreeCard

/-- THE SECOND FORM's CARD OF 'laws.FnExactTreeOK'. -/
def fnExactTreeOKUptoCard : Claim7 := { stood := { row := fnExactTreeOKUptoRow, standIns := [], harness := (true, "c1da20daaad5165d31b07ad7d8ecd9f2c79c6b6130726ddcbadc50a607228d49"), looks := true }, kinds := [], alts := [], laidByText := true, laidKinds := [.data, .sentinel, .sentinel], laidTests := true, laidLooks := .later }
def FnExactTreeOKUptoCardSaid : Prop := Claim7.holds Tryd.pinned (.plain (OpenSpec.upto fnExactTreeOKSpec)) fnExactTreeOKUptoCard

/-- THE SECOND FORM's CARD OF 'laws.FnExactFindNode'. -/
def fnExactFindNodeUptoCard : Claim7 := { stood := { row := fnExactFindNodeUptoRow, standIns := [], harness := (true, "c1da20daaad5165d31b07ad7d8ecd9f2c79c6b6130726ddcbadc50a607228d49"), looks := true }, kinds := [], alts := [], laidByText := true, laidKinds := [.data, .sentinel, .sentinel], laidTests := true, laidLooks := .later }
def FnExactFindNodeUptoCardSaid : Prop := Claim7.holds Tryd.pinned (.plain (OpenSpec.upto fnExactFindNodeSpec)) fnExactFindNodeUptoCard

/-- THE SECOND FORM's CARD OF 'laws.FnExactListDir'. -/
def fnExactListDirUptoCard : Claim7 := { stood := { row := fnExactListDirUptoRow, standIns := [], harness := (true, "c1da20daaad5165d31b07ad7d8ecd9f2c79c6b6130726ddcbadc50a607228d49"), looks := true }, kinds := [], alts := [], laidByText := true, laidKinds := [.data, .sentinel, .sentinel], laidTests := true, laidLooks := .later }
def FnExactListDirUptoCardSaid : Prop := Claim7.holds Tryd.pinned (.plain (OpenSpec.upto fnExactListDirSpec)) fnExactListDirUptoCard

/-- THE SECOND FORM's CARD OF 'laws.FnExactAddNode'. -/
def fnExactAddNodeUptoCard : Claim7 := { stood := { row := fnExactAddNodeUptoRow, standIns := [], harness := (true, "c1da20daaad5165d31b07ad7d8ecd9f2c79c6b6130726ddcbadc50a607228d49"), looks := true }, kinds := [], alts := [], laidByText := true, laidKinds := [.data, .sentinel, .sentinel], laidTests := true, laidLooks := .later }
def FnExactAddNodeUptoCardSaid : Prop := Claim7.holds Tryd.pinned (.plain (OpenSpec.upto fnExactAddNodeSpec)) fnExactAddNodeUptoCard

/-- THE SECOND FORM's CARD OF 'laws.FnExactRemoveNode'. -/
def fnExactRemoveNodeUptoCard : Claim7 := { stood := { row := fnExactRemoveNodeUptoRow, standIns := [], harness := (true, "c1da20daaad5165d31b07ad7d8ecd9f2c79c6b6130726ddcbadc50a607228d49"), looks := true }, kinds := [], alts := [], laidByText := true, laidKinds := [.data, .sentinel, .sentinel], laidTests := true, laidLooks := .later }
def FnExactRemoveNodeUptoCardSaid : Prop := Claim7.holds Tryd.pinned (.plain (OpenSpec.upto fnExactRemoveNodeSpec)) fnExactRemoveNodeUptoCard

/-- THE SECOND FORM's CARD OF 'laws.FnExactLayerOfTree'. -/
def fnExactLayerOfTreeUptoCard : Claim7 := { stood := { row := fnExactLayerOfTreeUptoRow, standIns := [], harness := (true, "c1da20daaad5165d31b07ad7d8ecd9f2c79c6b6130726ddcbadc50a607228d49"), looks := true }, kinds := [], alts := [], laidByText := true, laidKinds := [.data, .sentinel, .sentinel], laidTests := true, laidLooks := .later }
def FnExactLayerOfTreeUptoCardSaid : Prop := Claim7.holds Tryd.pinned (.plain (OpenSpec.upto fnExactLayerOfTreeSpec)) fnExactLayerOfTreeUptoCard

/-- THE SECOND FORM's CARD OF 'laws.FnExactSameTree'. -/
def fnExactSameTreeUptoCard : Claim7 := { stood := { row := fnExactSameTreeUptoRow, standIns := [], harness := (true, "c1da20daaad5165d31b07ad7d8ecd9f2c79c6b6130726ddcbadc50a607228d49"), looks := true }, kinds := [], alts := [], laidByText := true, laidKinds := [.data, .sentinel, .sentinel], laidTests := true, laidLooks := .later }
def FnExactSameTreeUptoCardSaid : Prop := Claim7.holds Tryd.pinned (.plain (OpenSpec.upto fnExactSameTreeSpec)) fnExactSameTreeUptoCard
end Rows
end Go.Proofs.YtblfgnlelhjcnaaDoor
