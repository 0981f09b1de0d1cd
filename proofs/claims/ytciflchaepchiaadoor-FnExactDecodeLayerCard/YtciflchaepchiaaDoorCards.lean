/-
  DERIVED. GIVEN WITH THE SEED: THE CARDS: each row of YtciflchaepchiaaDoorRows.lean that lists a variable, with what it lists TIED to the program's text (the seventh form; the later family's looks); each row that meets fmt, with fmt's text TOLD by the authors' own Lean function (tested against real Go, not proved from fmt's source: count such statements apart). THE CARD IS WHAT COUNTS. Prove the row's statement (the work); the ties are given (YtciflchaepchiaaDoorTie.lean); close each card by the builder's one call (the guide's Derived/Test/ToyasCard.lean, 'card_holds'). Laid BY PROGRAM, IN A SANDBOX (cutbox-door.mjs). By AI agents, Wed Nov 11 2026. No macro, syntax, notation, axiom, sorry.
-/
import Derived.Test.YtciflchaepchiaaDoorRows
import GoSem.ClaimSeven
namespace Go.Proofs.YtciflchaepchiaaDoor
namespace Rows

/-- THE TIED CARD OF 'laws.FnExactEncodeRecord'. -/
def fnExactEncodeRecordCard : Claim7 := { stood := { row := fnExactEncodeRecordRow, standIns := [], harness := (true, "a51c87d354b127ea028465c1fb8677d21727b63bb81e77e60b153ad6ba27b37d"), looks := true }, kinds := [], alts := [], laidByText := true, laidKinds := [.data], laidTests := true, laidLooks := .later }
def FnExactEncodeRecordCardSaid : Prop := Claim7.holds Tryd.pinned (.plain (OpenSpec.ofChange fnExactEncodeRecordSpec)) fnExactEncodeRecordCard

/-- THE TIED CARD OF 'laws.FnExactDecodeRecord'. -/
def fnExactDecodeRecordCard : Claim7 := { stood := { row := fnExactDecodeRecordRow, standIns := [], harness := (true, "a51c87d354b127ea028465c1fb8677d21727b63bb81e77e60b153ad6ba27b37d"), looks := true }, kinds := [], alts := [], laidByText := true, laidKinds := [.data], laidTests := true, laidLooks := .later }
def FnExactDecodeRecordCardSaid : Prop := Claim7.holds Tryd.pinned (.plain (OpenSpec.ofChange fnExactDecodeRecordSpec)) fnExactDecodeRecordCard

/-- THE TIED CARD OF 'laws.FnExactEncodeLayer'. -/
def fnExactEncodeLayerCard : Claim7 := { stood := { row := fnExactEncodeLayerRow, standIns := [], harness := (true, "a51c87d354b127ea028465c1fb8677d21727b63bb81e77e60b153ad6ba27b37d"), looks := true }, kinds := [], alts := [], laidByText := true, laidKinds := [.data, .sentinel, .sentinel], laidTests := true, laidLooks := .later }
def FnExactEncodeLayerCardSaid : Prop := Claim7.holds Tryd.pinned (.plain (OpenSpec.ofChange fnExactEncodeLayerSpec)) fnExactEncodeLayerCard

/-- THE TIED CARD OF 'laws.FnExactDecodeLayer'. -/
def fnExactDecodeLayerCard : Claim7 := { stood := { row := fnExactDecodeLayerRow, standIns := [], harness := (true, "a51c87d354b127ea028465c1fb8677d21727b63bb81e77e60b153ad6ba27b37d"), looks := true }, kinds := [], alts := [], laidByText := true, laidKinds := [.data], laidTests := true, laidLooks := .later }
def FnExactDecodeLayerCardSaid : Prop := Claim7.holds Tryd.pinned (.plain (OpenSpec.ofChange fnExactDecodeLayerSpec)) fnExactDecodeLayerCard

/-- THE TIED CARD OF 'laws.FnExactFirstFault'. -/
def fnExactFirstFaultCard : Claim7 := { stood := { row := fnExactFirstFaultRow, standIns := [], harness := (true, "a51c87d354b127ea028465c1fb8677d21727b63bb81e77e60b153ad6ba27b37d"), looks := true }, kinds := [], alts := [], laidByText := true, laidKinds := [.data], laidTests := true, laidLooks := .later }
def FnExactFirstFaultCardSaid : Prop := Claim7.holds Tryd.pinned (.plain (OpenSpec.ofChange fnExactFirstFaultSpec)) fnExactFirstFaultCard

/-- THE SECOND FORM's CARD OF 'laws.FnExactEncodeRecord'. -/
def fnExactEncodeRecordUptoCard : Claim7 := { stood := { row := fnExactEncodeRecordUptoRow, standIns := [], harness := (true, "a51c87d354b127ea028465c1fb8677d21727b63bb81e77e60b153ad6ba27b37d"), looks := true }, kinds := [], alts := [], laidByText := true, laidKinds := [.data], laidTests := true, laidLooks := .later }
def FnExactEncodeRecordUptoCardSaid : Prop := Claim7.holds Tryd.pinned (.plain (OpenSpec.upto fnExactEncodeRecordSpec)) fnExactEncodeRecordUptoCard

/-- THE SECOND FORM's CARD OF 'laws.FnExactDecodeRecord'. -/
def fnExactDecodeRecordUptoCard : Claim7 := { stood := { row := fnExactDecodeRecordUptoRow, standIns := [], harness := (true, "a51c87d354b127ea028465c1fb8677d21727b63bb81e77e60b153ad6ba27b37d"), looks := true }, kinds := [], alts := [], laidByText := true, laidKinds := [.data], laidTests := true, laidLooks := .later }
def FnExactDecodeRecordUptoCardSaid : Prop := Claim7.holds Tryd.pinned (.plain (OpenSpec.upto fnExactDecodeRecordSpec)) fnExactDecodeRecordUptoCard

/-- THE SECOND FORM's CARD OF 'laws.FnExactEncodeLayer'. -/
def fnExactEncodeLayerUptoCard : Claim7 := { stood := { row := fnExactEncodeLayerUptoRow, standIns := [], harness := (true, "a51c87d354b127ea028465c1fb8677d21727b63bb81e77e60b153ad6ba27b37d"), looks := true }, kinds := [], alts := [], laidByText := true, laidKinds := [.data, .sentinel, .sentinel], laidTests := true, laidLooks := .later }
def FnExactEncodeLayerUptoCardSaid : Prop := Claim7.holds Tryd.pinned (.plain (OpenSpec.upto fnExactEncodeLayerSpec)) fnExactEncodeLayerUptoCard

/-- THE SECOND FORM's CARD OF 'laws.FnExactDecodeLayer'. -/
def fnExactDecodeLayerUptoCard : Claim7 := { stood := { row := fnExactDecodeLayerUptoRow, standIns := [], harness := (true, "a51c87d354b127ea028465c1fb8677d21727b63bb81e77e60b153ad6ba27b37d"), looks := true }, kinds := [], alts := [], laidByText := true, laidKinds := [.data], laidTests := true, laidLooks := .later }
def FnExactDecodeLayerUptoCardSaid : Prop := Claim7.holds Tryd.pinned (.plain (OpenSpec.upto fnExactDecodeLayerSpec)) fnExactDecodeLayerUptoCard

/-- THE SECOND FORM's CARD OF 'laws.FnExactFirstFault'. -/
def fnExactFirstFaultUptoCard : Claim7 := { stood := { row := fnExactFirstFaultUptoRow, standIns := [], harness := (true, "a51c87d354b127ea028465c1fb8677d21727b63bb81e77e60b153ad6ba27b37d"), looks := true }, kinds := [], alts := [], laidByText := true, laidKinds := [.data], laidTests := true, laidLooks := .later }
def FnExactFirstFaultUptoCardSaid : Prop := Claim7.holds Tryd.pinned (.plain (OpenSpec.upto fnExactFirstFaultSpec)) fnExactFirstFaultUptoCard
end Rows
end Go.Proofs.YtciflchaepchiaaDoor
