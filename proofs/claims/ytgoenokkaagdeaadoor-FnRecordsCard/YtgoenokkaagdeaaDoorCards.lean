/-
  DERIVED. GIVEN WITH THE SEED: THE CARDS: each row of YtgoenokkaagdeaaDoorRows.lean that lists a variable, with what it lists TIED to the program's text (the seventh form; the later family's looks); each row that meets fmt, with fmt's text TOLD by the authors' own Lean function (tested against real Go, not proved from fmt's source: count such statements apart). THE CARD IS WHAT COUNTS. Prove the row's statement (the work); the ties are given (YtgoenokkaagdeaaDoorTie.lean); close each card by the builder's one call (the guide's Derived/Test/ToyasCard.lean, 'card_holds'). Laid BY PROGRAM, IN A SANDBOX (cutbox-door.mjs). By AI agents, Wed Nov 11 2026. No macro, syntax, notation, axiom, sorry.
-/
import Derived.Test.YtgoenokkaagdeaaDoorRows
import GoSem.ClaimSeven
namespace Go.Proofs.YtgoenokkaagdeaaDoor
namespace Rows

/-- THE TIED CARD OF 'laws.FnRecords'. -/
def fnRecordsCard : Claim7 := { stood := { row := fnRecordsRow, standIns := [], harness := (true, "3777bf5a04414f64a36c2f767070390093b1f0dcaae763880ca004ff28a8ef7a"), looks := false }, kinds := [], alts := [], laidByText := true, laidKinds := [.data], laidTests := true, laidLooks := .later }
def FnRecordsCardSaid : Prop := Claim7.holds Tryd.pinned (.plain (OpenSpec.ofChange fnRecordsSpec)) fnRecordsCard

/-- THE TIED CARD OF 'laws.FnExactRecordOK'. -/
def fnExactRecordOKCard : Claim7 := { stood := { row := fnExactRecordOKRow, standIns := [], harness := (true, "3777bf5a04414f64a36c2f767070390093b1f0dcaae763880ca004ff28a8ef7a"), looks := false }, kinds := [], alts := [], laidByText := true, laidKinds := [.data], laidTests := true, laidLooks := .later }
def FnExactRecordOKCardSaid : Prop := Claim7.holds Tryd.pinned (.plain (OpenSpec.ofChange fnExactRecordOKSpec)) fnExactRecordOKCard

/-- THE TIED CARD OF 'laws.FnExactRecordFault'. -/
def fnExactRecordFaultCard : Claim7 := { stood := { row := fnExactRecordFaultRow, standIns := [], harness := (true, "3777bf5a04414f64a36c2f767070390093b1f0dcaae763880ca004ff28a8ef7a"), looks := false }, kinds := [], alts := [], laidByText := true, laidKinds := [.data], laidTests := true, laidLooks := .later }
def FnExactRecordFaultCardSaid : Prop := Claim7.holds Tryd.pinned (.plain (OpenSpec.ofChange fnExactRecordFaultSpec)) fnExactRecordFaultCard

/-- THE TIED CARD OF 'laws.FnExactMakeFile'. -/
def fnExactMakeFileCard : Claim7 := { stood := { row := fnExactMakeFileRow, standIns := [], harness := (true, "3777bf5a04414f64a36c2f767070390093b1f0dcaae763880ca004ff28a8ef7a"), looks := false }, kinds := [], alts := [], laidByText := true, laidKinds := [.data], laidTests := true, laidLooks := .later }
def FnExactMakeFileCardSaid : Prop := Claim7.holds Tryd.pinned (.plain (OpenSpec.ofChange fnExactMakeFileSpec)) fnExactMakeFileCard

/-- THE TIED CARD OF 'laws.FnExactMakeDir'. -/
def fnExactMakeDirCard : Claim7 := { stood := { row := fnExactMakeDirRow, standIns := [], harness := (true, "3777bf5a04414f64a36c2f767070390093b1f0dcaae763880ca004ff28a8ef7a"), looks := false }, kinds := [], alts := [], laidByText := true, laidKinds := [.data], laidTests := true, laidLooks := .later }
def FnExactMakeDirCardSaid : Prop := Claim7.holds Tryd.pinned (.plain (OpenSpec.ofChange fnExactMakeDirSpec)) fnExactMakeDirCard

/-- THE TIED CARD OF 'laws.FnExactMakeWhite'. -/
def fnExactMakeWhiteCard : Claim7 := { stood := { row := fnExactMakeWhiteRow, standIns := [], harness := (true, "3777bf5a04414f64a36c2f767070390093b1f0dcaae763880ca004ff28a8ef7a"), looks := false }, kinds := [], alts := [], laidByText := true, laidKinds := [.data], laidTests := true, laidLooks := .later }
def FnExactMakeWhiteCardSaid : Prop := Claim7.holds Tryd.pinned (.plain (OpenSpec.ofChange fnExactMakeWhiteSpec)) fnExactMakeWhiteCard

/-- THE TIED CARD OF 'laws.FnExactMakeLink'. -/
def fnExactMakeLinkCard : Claim7 := { stood := { row := fnExactMakeLinkRow, standIns := [], harness := (true, "3777bf5a04414f64a36c2f767070390093b1f0dcaae763880ca004ff28a8ef7a"), looks := false }, kinds := [], alts := [], laidByText := true, laidKinds := [.data], laidTests := true, laidLooks := .later }
def FnExactMakeLinkCardSaid : Prop := Claim7.holds Tryd.pinned (.plain (OpenSpec.ofChange fnExactMakeLinkSpec)) fnExactMakeLinkCard

/-- THE SECOND FORM's CARD OF 'laws.FnRecords'. -/
def fnRecordsUptoCard : Claim7 := { stood := { row := fnRecordsUptoRow, standIns := [], harness := (true, "3777bf5a04414f64a36c2f767070390093b1f0dcaae763880ca004ff28a8ef7a"), looks := false }, kinds := [], alts := [], laidByText := true, laidKinds := [.data], laidTests := true, laidLooks := .later }
def FnRecordsUptoCardSaid : Prop := Claim7.holds Tryd.pinned (.plain (OpenSpec.upto fnRecordsSpec)) fnRecordsUptoCard

/-- THE SECOND FORM's CARD OF 'laws.FnExactRecordOK'. -/
def fnExactRecordOKUptoCard : Claim7 := { stood := { row := fnExactRecordOKUptoRow, standIns := [], harness := (true, "3777bf5a04414f64a36c2f767070390093b1f0dcaae763880ca004ff28a8ef7a"), looks := false }, kinds := [], alts := [], laidByText := true, laidKinds := [.data], laidTests := true, laidLooks := .later }
def FnExactRecordOKUptoCardSaid : Prop := Claim7.holds Tryd.pinned (.plain (OpenSpec.upto fnExactRecordOKSpec)) fnExactRecordOKUptoCard

/-- THE SECOND FORM's CARD OF 'laws.FnExactRecordFault'. -/
def fnExactRecordFaultUptoCard : Claim7 := { stood := { row := fnExactRecordFaultUptoRow, standIns := [], harness := (true, "3777bf5a04414f64a36c2f767070390093b1f0dcaae763880ca004ff28a8ef7a"), looks := false }, kinds := [], alts := [], laidByText := true, laidKinds := [.data], laidTests := true, laidLooks := .later }
def FnExactRecordFaultUptoCardSaid : Prop := Claim7.holds Tryd.pinned (.plain (OpenSpec.upto fnExactRecordFaultSpec)) fnExactRecordFaultUptoCard

/-- THE SECOND FORM's CARD OF 'laws.FnExactMakeFile'. -/
def fnExactMakeFileUptoCard : Claim7 := { stood := { row := fnExactMakeFileUptoRow, standIns := [], harness := (true, "3777bf5a04414f64a36c2f767070390093b1f0dcaae763880ca004ff28a8ef7a"), looks := false }, kinds := [], alts := [], laidByText := true, laidKinds := [.data], laidTests := true, laidLooks := .later }
def FnExactMakeFileUptoCardSaid : Prop := Claim7.holds Tryd.pinned (.plain (OpenSpec.upto fnExactMakeFileSpec)) fnExactMakeFileUptoCard

/-- THE SECOND FORM's CARD OF 'laws.FnExactMakeDir'. -/
def fnExactMakeDirUptoCard : Claim7 := { stood := { row := fnExactMakeDirUptoRow, standIns := [], harness := (true, "3777bf5a04414f64a36c2f767070390093b1f0dcaae763880ca004ff28a8ef7a"), looks := false }, kinds := [], alts := [], laidByText := true, laidKinds := [.data], laidTests := true, laidLooks := .later }
def FnExactMakeDirUptoCardSaid : Prop := Claim7.holds Tryd.pinned (.plain (OpenSpec.upto fnExactMakeDirSpec)) fnExactMakeDirUptoCard

/-- THE SECOND FORM's CARD OF 'laws.FnExactMakeWhite'. -/
def fnExactMakeWhiteUptoCard : Claim7 := { stood := { row := fnExactMakeWhiteUptoRow, standIns := [], harness := (true, "3777bf5a04414f64a36c2f767070390093b1f0dcaae763880ca004ff28a8ef7a"), looks := false }, kinds := [], alts := [], laidByText := true, laidKinds := [.data], laidTests := true, laidLooks := .later }
def FnExactMakeWhiteUptoCardSaid : Prop := Claim7.holds Tryd.pinned (.plain (OpenSpec.upto fnExactMakeWhiteSpec)) fnExactMakeWhiteUptoCard

/-- THE SECOND FORM's CARD OF 'laws.FnExactMakeLink'. -/
def fnExactMakeLinkUptoCard : Claim7 := { stood := { row := fnExactMakeLinkUptoRow, standIns := [], harness := (true, "3777bf5a04414f64a36c2f767070390093b1f0dcaae763880ca004ff28a8ef7a"), looks := false }, kinds := [], alts := [], laidByText := true, laidKinds := [.data], laidTests := true, laidLooks := .later }
def FnExactMakeLinkUptoCardSaid : Prop := Claim7.holds Tryd.pinned (.plain (OpenSpec.upto fnExactMakeLinkSpec)) fnExactMakeLinkUptoCard
end Rows
end Go.Proofs.YtgoenokkaagdeaaDoor
