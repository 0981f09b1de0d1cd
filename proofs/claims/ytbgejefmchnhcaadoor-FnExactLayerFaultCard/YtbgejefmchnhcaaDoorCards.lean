/-
  DERIVED. GIVEN WITH THE SEED: THE CARDS: each row of YtbgejefmchnhcaaDoorRows.lean that lists a variable, with what it lists TIED to the program's text (the seventh form; the later family's looks); each row that meets fmt, with fmt's text TOLD by the authors' own Lean function (tested against real Go, not proved from fmt's source: count such statements apart). THE CARD IS WHAT COUNTS. Prove the row's statement (the work); the ties are given (YtbgejefmchnhcaaDoorTie.lean); close each card by the builder's one call (the guide's Derived/Test/ToyasCard.lean, 'card_holds'). Laid BY PROGRAM, IN A SANDBOX (cutbox-door.mjs). By AI agents, Wed Nov 11 2026. No macro, syntax, notation, axiom, sorry.
-/
import Derived.Test.YtbgejefmchnhcaaDoorRows
import GoSem.ClaimSeven
namespace Go.Proofs.YtbgejefmchnhcaaDoor
namespace Rows

/-- THE TIED CARD OF 'laws.FnExactLayerFault'. -/
def fnExactLayerFaultCard : Claim7 := { stood := { row := fnExactLayerFaultRow, standIns := [], harness := (true, "3e6ed27a6303b7e3dbb0bc986e30717b15c108eb17f1139b8d7a9330db8013f7"), looks := true }, kinds := [], alts := [], laidByText := true, laidKinds := [.handle, .data, .sentinel, .sentinel], laidTests := true, laidLooks := .later }
def FnExactLayerFaultCardSaid : Prop := Claim7.holds Tryd.pinned (.plain (OpenSpec.ofChange fnExactLayerFaultSpec)) fnExactLayerFaultCard

/-- THE TIED CARD OF 'laws.FnExactLayerOK'. -/
def fnExactLayerOKCard : Claim7 := { stood := { row := fnExactLayerOKRow, standIns := [], harness := (true, "3e6ed27a6303b7e3dbb0bc986e30717b15c108eb17f1139b8d7a9330db8013f7"), looks := true }, kinds := [], alts := [], laidByText := true, laidKinds := [.data, .sentinel], laidTests := true, laidLooks := .later }
def FnExactLayerOKCardSaid : Prop := Claim7.holds Tryd.pinned (.plain (OpenSpec.ofChange fnExactLayerOKSpec)) fnExactLayerOKCard

/-- THE TIED CARD OF 'laws.FnExactFindRecord'. -/
def fnExactFindRecordCard : Claim7 := { stood := { row := fnExactFindRecordRow, standIns := [], harness := (true, "3e6ed27a6303b7e3dbb0bc986e30717b15c108eb17f1139b8d7a9330db8013f7"), looks := true }, kinds := [], alts := [], laidByText := true, laidKinds := [.data, .sentinel, .sentinel], laidTests := true, laidLooks := .later }
def FnExactFindRecordCardSaid : Prop := Claim7.holds Tryd.pinned (.plain (OpenSpec.ofChange fnExactFindRecordSpec)) fnExactFindRecordCard

/-- THE TIED CARD OF 'laws.FnExactCanonical'. -/
def fnExactCanonicalCard : Claim7 := { stood := { row := fnExactCanonicalRow, standIns := [], harness := (true, "3e6ed27a6303b7e3dbb0bc986e30717b15c108eb17f1139b8d7a9330db8013f7"), looks := true }, kinds := [], alts := [], laidByText := true, laidKinds := [.data, .sentinel, .sentinel], laidTests := true, laidLooks := .later }
def FnExactCanonicalCardSaid : Prop := Claim7.holds Tryd.pinned (.plain (OpenSpec.ofChange fnExactCanonicalSpec)) fnExactCanonicalCard

/-- THE TIED CARD OF 'laws.FnExactIsCanonical'. -/
def fnExactIsCanonicalCard : Claim7 := { stood := { row := fnExactIsCanonicalRow, standIns := [], harness := (true, "3e6ed27a6303b7e3dbb0bc986e30717b15c108eb17f1139b8d7a9330db8013f7"), looks := true }, kinds := [], alts := [], laidByText := true, laidKinds := [.data, .sentinel, .sentinel], laidTests := true, laidLooks := .later }
def FnExactIsCanonicalCardSaid : Prop := Claim7.holds Tryd.pinned (.plain (OpenSpec.ofChange fnExactIsCanonicalSpec)) fnExactIsCanonicalCard

/-- THE TIED CARD OF 'laws.FnExactSameLayer'. -/
def fnExactSameLayerCard : Claim7 := { stood := { row := fnExactSameLayerRow, standIns := [], harness := (true, "3e6ed27a6303b7e3dbb0bc986e30717b15c108eb17f1139b8d7a9330db8013f7"), looks := true }, kinds := [], alts := [], laidByText := true, laidKinds := [.data, .sentinel], laidTests := true, laidLooks := .later }
def FnExactSameLayerCardSaid : Prop := Claim7.holds Tryd.pinned (.plain (OpenSpec.ofChange fnExactSameLayerSpec)) fnExactSameLayerCard

/-- THE TIED CARD OF 'laws.FnExactUnderOpaque'. -/
def fnExactUnderOpaqueCard : Claim7 := { stood := { row := fnExactUnderOpaqueRow, standIns := [], harness := (true, "3e6ed27a6303b7e3dbb0bc986e30717b15c108eb17f1139b8d7a9330db8013f7"), looks := true }, kinds := [], alts := [], laidByText := true, laidKinds := [.data, .sentinel, .sentinel], laidTests := true, laidLooks := .later }
def FnExactUnderOpaqueCardSaid : Prop := Claim7.holds Tryd.pinned (.plain (OpenSpec.ofChange fnExactUnderOpaqueSpec)) fnExactUnderOpaqueCard

/-- THE SECOND FORM's CARD OF 'laws.FnExactLayerFault'. -/
def fnExactLayerFaultUptoCard : Claim7 := { stood := { row := fnExactLayerFaultUptoRow, standIns := [], harness := (true, "3e6ed27a6303b7e3dbb0bc986e30717b15c108eb17f1139b8d7a9330db8013f7"), looks := true }, kinds := [], alts := [], laidByText := true, laidKinds := [.handle, .data, .sentinel, .sentinel], laidTests := true, laidLooks := .later }
def FnExactLayerFaultUptoCardSaid : Prop := Claim7.holds Tryd.pinned (.plain (OpenSpec.upto fnExactLayerFaultSpec)) fnExactLayerFaultUptoCard

/-- THE SECOND FORM's CARD OF 'laws.FnExactLayerOK'. -/
def fnExactLayerOKUptoCard : Claim7 := { stood := { row := fnExactLayerOKUptoRow, standIns := [], harness := (true, "3e6ed27a6303b7e3dbb0bc986e30717b15c108eb17f1139b8d7a9330db8013f7"), looks := true }, kinds := [], alts := [], laidByText := true, laidKinds := [.data, .sentinel], laidTests := true, laidLooks := .later }
def FnExactLayerOKUptoCardSaid : Prop := Claim7.holds Tryd.pinned (.plain (OpenSpec.upto fnExactLayerOKSpec)) fnExactLayerOKUptoCard

/-- THE SECOND FORM's CARD OF 'laws.FnExactFindRecord'. -/
def fnExactFindRecordUptoCard : Claim7 := { stood := { row := fnExactFindRecordUptoRow, standIns := [], harness := (true, "3e6ed27a6303b7e3dbb0bc986e30717b15c108eb17f1139b8d7a9330db8013f7"), looks := true }, kinds := [], alts := [], laidByText := true, laidKinds := [.data, .sentinel, .sentinel], laidTests := true, laidLooks := .later }
def FnExactFindRecordUptoCardSaid : Prop := Claim7.holds Tryd.pinned (.plain (OpenSpec.upto fnExactFindRecordSpec)) fnExactFindRecordUptoCard

/-- THE SECOND FORM's CARD OF 'laws.FnExactCanonical'. -/
def fnExactCanonicalUptoCard : Claim7 := { stood := { row := fnExactCanonicalUptoRow, standIns := [], harness := (true, "3e6ed27a6303b7e3dbb0bc986e30717b15c108eb17f1139b8d7a9330db8013f7"), looks := true }, kinds := [], alts := [], laidByText := true, laidKinds := [.data, .sentinel, .sentinel], laidTests := true, laidLooks := .later }
def FnExactCanonicalUptoCardSaid : Prop := Claim7.holds Tryd.pinned (.plain (OpenSpec.upto fnExactCanonicalSpec)) fnExactCanonicalUptoCard

/-- THE SECOND FORM's CARD OF 'laws.FnExactIsCanonical'. -/
def fnExactIsCanonicalUptoCard : Claim7 := { stood := { row := fnExactIsCanonicalUptoRow, standIns := [], harness := (true, "3e6ed27a6303b7e3dbb0bc986e30717b15c108eb17f1139b8d7a9330db8013f7"), looks := true }, kinds := [], alts := [], laidByText := true, laidKinds := [.data, .sentinel, .sentinel], laidTests := true, laidLooks := .later }
def FnExactIsCanonicalUptoCardSaid : Prop := Claim7.holds Tryd.pinned (.plain (OpenSpec.upto fnExactIsCanonicalSpec)) fnExactIsCanonicalUptoCard

/-- THE SECOND FORM's CARD OF 'laws.FnExactSameLayer'. -/
def fnExactSameLayerUptoCard : Claim7 := { stood := { row := fnExactSameLayerUptoRow, standIns := [], harness := (true, "3e6ed27a6303b7e3dbb0bc986e30717b15c108eb17f1139b8d7a9330db8013f7"), looks := true }, kinds := [], alts := [], laidByText := true, laidKinds := [.data, .sentinel], laidTests := true, laidLooks := .later }
def FnExactSameLayerUptoCardSaid : Prop := Claim7.holds Tryd.pinned (.plain (OpenSpec.upto fnExactSameLayerSpec)) fnExactSameLayerUptoCard

/-- THE SECOND FORM's CARD OF 'laws.FnExactUnderOpaque'. -/
def fnExactUnderOpaqueUptoCard : Claim7 := { stood := { row := fnExactUnderOpaqueUptoRow, standIns := [], harness := (true, "3e6ed27a6303b7e3dbb0bc986e30717b15c108eb17f1139b8d7a9330db8013f7"), looks := true }, kinds := [], alts := [], laidByText := true, laidKinds := [.data, .sentinel, .sentinel], laidTests := true, laidLooks := .later }
def FnExactUnderOpaqueUptoCardSaid : Prop := Claim7.holds Tryd.pinned (.plain (OpenSpec.upto fnExactUnderOpaqueSpec)) fnExactUnderOpaqueUptoCard
end Rows
end Go.Proofs.YtbgejefmchnhcaaDoor
