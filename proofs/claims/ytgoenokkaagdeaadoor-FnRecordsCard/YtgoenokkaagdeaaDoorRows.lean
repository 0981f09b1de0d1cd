/-
  NARROWER THAN 'FOR EVERY INPUT', by the rows' own cells (each row's printed sentence says how): FnRecords: laid · FnExactRecordOK: laid · FnExactRecordFault: laid · FnExactMakeFile: laid · FnExactMakeDir: laid · FnExactMakeWhite: laid · FnExactMakeLink: laid.
  DERIVED. THE GIVEN ROWS OF THIS SEAT. 7 by the template 'for every input the law returns true; each argument reads behind the call as it read before'; 0 by the template 'total and deterministic' (their statements: YtgoenokkaagdeaaDoorTotals.lean).
  GIVEN WITH THE SEED: the statements are not yours to turn. If you find one false, say at which input.
  Laid BY PROGRAM, IN A SANDBOX (cutbox-rows.mjs): the forced cells as the released guide's own fill.sh prints them over the translation 78d31a40e208a33f… (all of the seat's roots in one cut). By AI agents, Wed Nov 11 2026. No macro, syntax, notation, axiom, sorry.
-/
import Derived.Test.YtgoenokkaagdeaaDoorChecked
import GoSem.Claim
import GoSem.ClaimJoined
import GoSem.ClaimMapViews
import Derived.JoinedTies
import Derived.KernelRfl
namespace Go.Proofs.YtgoenokkaagdeaaDoor
/- THE CELL 'sum', in the pinned program and in every row, IS THE sha256 OF THE DUMP (.gsa) THAT YtgoenokkaagdeaaDoorProg.lean LOADS. Nothing in Lean hashes anything: it is a label: what it is worth is what the hold of that sum in a sandbox is worth. -/
noncomputable def Tryd.pinned : Pinned := { name := "ytgoenokkaagdeaadoor", sum := "78d31a40e208a33fb4ce0c4073340d2c31bfa6a9d2d7fc67ff6c84198abf9898", checked := Tryd.checked }
namespace Rows
def none {H : Type} : Left H := { results := [], args := [] }

/- WHAT THE LISTED PACKAGE-LEVEL VARIABLES READ AS WHEN THE CALL BEGINS. Each datum BY PROGRAM (the guide's laid-datum.mjs) off the statement by which the dump's own 'gosem.cut.vars' lays the variable. In a bare row this is a premise. The card (YtgoenokkaagdeaaDoorCards.lean) ties it to the program's text. -/
def laid_loop_example_g00798_impl_kindRules {H : Type} : DataW H := .agg [.agg [.lit (.bool false), .lit (.bool false), .lit (.bool false), .lit (.bool false)], .agg [.lit (.bool true), .lit (.bool false), .lit (.bool true), .lit (.bool false)], .agg [.lit (.bool true), .lit (.bool true), .lit (.bool false), .lit (.bool false)], .agg [.lit (.bool false), .lit (.bool false), .lit (.bool true), .lit (.bool true)], .agg [.lit (.bool false), .lit (.bool false), .lit (.bool false), .lit (.bool false)]]

/-- 'laws.FnRecords': WHATEVER THE INPUT: true; the input reads as it did. -/
def fnRecordsSpec : ChangeSpec := { name := "fnRecords", vars := ["loop.example/g00798/impl.kindRules"], fn := fun _ => fun
  | [d1, d2, g1] => { results := [.lit (.bool true)], args := [d1, d2], vars := [g1] }
  | _ => none }
def fnRecordsRow : OpenClaim := { program := "ytgoenokkaagdeaadoor", sum := "78d31a40e208a33fb4ce0c4073340d2c31bfa6a9d2d7fc67ff6c84198abf9898", func := "loop.example/g00798/laws.FnRecords", spec := "fnRecords", named := ["loop.example/g00798/impl.kindRules"], apart := false, laid := [("loop.example/g00798/impl.kindRules", laid_loop_example_g00798_impl_kindRules)] }
def FnRecordsSaid : Prop := fnRecordsRow.holds Tryd.pinned (OpenSpec.ofChange fnRecordsSpec)

/-- ITS FALSE NEIGHBOUR: 'it returns false'. Refute it at one input. -/
def fnRecordsWrong : ChangeSpec := { name := "fnRecords", vars := ["loop.example/g00798/impl.kindRules"], fn := fun _ => fun
  | [d1, d2, g1] => { results := [.lit (.bool false)], args := [d1, d2], vars := [g1] }
  | _ => none }
def FnRecordsWrongFalsely : Prop := fnRecordsRow.holds Tryd.pinned (OpenSpec.ofChange fnRecordsWrong)

/-- 'laws.FnExactRecordOK': WHATEVER THE INPUT: true; the input reads as it did. -/
def fnExactRecordOKSpec : ChangeSpec := { name := "fnExactRecordOK", vars := ["loop.example/g00798/impl.kindRules"], fn := fun _ => fun
  | [d, g1] => { results := [.lit (.bool true)], args := [d], vars := [g1] }
  | _ => none }
def fnExactRecordOKRow : OpenClaim := { program := "ytgoenokkaagdeaadoor", sum := "78d31a40e208a33fb4ce0c4073340d2c31bfa6a9d2d7fc67ff6c84198abf9898", func := "loop.example/g00798/laws.FnExactRecordOK", spec := "fnExactRecordOK", named := ["loop.example/g00798/impl.kindRules"], apart := false, laid := [("loop.example/g00798/impl.kindRules", laid_loop_example_g00798_impl_kindRules)] }
def FnExactRecordOKSaid : Prop := fnExactRecordOKRow.holds Tryd.pinned (OpenSpec.ofChange fnExactRecordOKSpec)

/-- ITS FALSE NEIGHBOUR: 'it returns false'. Refute it at one input. -/
def fnExactRecordOKWrong : ChangeSpec := { name := "fnExactRecordOK", vars := ["loop.example/g00798/impl.kindRules"], fn := fun _ => fun
  | [d, g1] => { results := [.lit (.bool false)], args := [d], vars := [g1] }
  | _ => none }
def FnExactRecordOKWrongFalsely : Prop := fnExactRecordOKRow.holds Tryd.pinned (OpenSpec.ofChange fnExactRecordOKWrong)

/-- 'laws.FnExactRecordFault': WHATEVER THE INPUT: true; the input reads as it did. -/
def fnExactRecordFaultSpec : ChangeSpec := { name := "fnExactRecordFault", vars := ["loop.example/g00798/impl.kindRules"], fn := fun _ => fun
  | [d, g1] => { results := [.lit (.bool true)], args := [d], vars := [g1] }
  | _ => none }
def fnExactRecordFaultRow : OpenClaim := { program := "ytgoenokkaagdeaadoor", sum := "78d31a40e208a33fb4ce0c4073340d2c31bfa6a9d2d7fc67ff6c84198abf9898", func := "loop.example/g00798/laws.FnExactRecordFault", spec := "fnExactRecordFault", named := ["loop.example/g00798/impl.kindRules"], apart := false, laid := [("loop.example/g00798/impl.kindRules", laid_loop_example_g00798_impl_kindRules)] }
def FnExactRecordFaultSaid : Prop := fnExactRecordFaultRow.holds Tryd.pinned (OpenSpec.ofChange fnExactRecordFaultSpec)

/-- ITS FALSE NEIGHBOUR: 'it returns false'. Refute it at one input. -/
def fnExactRecordFaultWrong : ChangeSpec := { name := "fnExactRecordFault", vars := ["loop.example/g00798/impl.kindRules"], fn := fun _ => fun
  | [d, g1] => { results := [.lit (.bool false)], args := [d], vars := [g1] }
  | _ => none }
def FnExactRecordFaultWrongFalsely : Prop := fnExactRecordFaultRow.holds Tryd.pinned (OpenSpec.ofChange fnExactRecordFaultWrong)

/-- 'laws.FnExactMakeFile': WHATEVER THE INPUT: true; the input reads as it did. -/
def fnExactMakeFileSpec : ChangeSpec := { name := "fnExactMakeFile", vars := ["loop.example/g00798/impl.kindRules"], fn := fun _ => fun
  | [d1, d2, d3, g1] => { results := [.lit (.bool true)], args := [d1, d2, d3], vars := [g1] }
  | _ => none }
def fnExactMakeFileRow : OpenClaim := { program := "ytgoenokkaagdeaadoor", sum := "78d31a40e208a33fb4ce0c4073340d2c31bfa6a9d2d7fc67ff6c84198abf9898", func := "loop.example/g00798/laws.FnExactMakeFile", spec := "fnExactMakeFile", named := ["loop.example/g00798/impl.kindRules"], apart := false, laid := [("loop.example/g00798/impl.kindRules", laid_loop_example_g00798_impl_kindRules)] }
def FnExactMakeFileSaid : Prop := fnExactMakeFileRow.holds Tryd.pinned (OpenSpec.ofChange fnExactMakeFileSpec)

/-- ITS FALSE NEIGHBOUR: 'it returns false'. Refute it at one input. -/
def fnExactMakeFileWrong : ChangeSpec := { name := "fnExactMakeFile", vars := ["loop.example/g00798/impl.kindRules"], fn := fun _ => fun
  | [d1, d2, d3, g1] => { results := [.lit (.bool false)], args := [d1, d2, d3], vars := [g1] }
  | _ => none }
def FnExactMakeFileWrongFalsely : Prop := fnExactMakeFileRow.holds Tryd.pinned (OpenSpec.ofChange fnExactMakeFileWrong)

/-- 'laws.FnExactMakeDir': WHATEVER THE INPUT: true; the input reads as it did. -/
def fnExactMakeDirSpec : ChangeSpec := { name := "fnExactMakeDir", vars := ["loop.example/g00798/impl.kindRules"], fn := fun _ => fun
  | [d1, d2, d3, g1] => { results := [.lit (.bool true)], args := [d1, d2, d3], vars := [g1] }
  | _ => none }
def fnExactMakeDirRow : OpenClaim := { program := "ytgoenokkaagdeaadoor", sum := "78d31a40e208a33fb4ce0c4073340d2c31bfa6a9d2d7fc67ff6c84198abf9898", func := "loop.example/g00798/laws.FnExactMakeDir", spec := "fnExactMakeDir", named := ["loop.example/g00798/impl.kindRules"], apart := false, laid := [("loop.example/g00798/impl.kindRules", laid_loop_example_g00798_impl_kindRules)] }
def FnExactMakeDirSaid : Prop := fnExactMakeDirRow.holds Tryd.pinned (OpenSpec.ofChange fnExactMakeDirSpec)

/-- ITS FALSE NEIGHBOUR: 'it returns false'. Refute it at one input. -/
def fnExactMakeDirWrong : ChangeSpec := { name := "fnExactMakeDir", vars := ["loop.example/g00798/impl.kindRules"], fn := fun _ => fun
  | [d1, d2, d3, g1] => { results := [.lit (.bool false)], args := [d1, d2, d3], vars := [g1] }
  | _ => none }
def FnExactMakeDirWrongFalsely : Prop := fnExactMakeDirRow.holds Tryd.pinned (OpenSpec.ofChange fnExactMakeDirWrong)

/-- 'laws.FnExactMakeWhite': WHATEVER THE INPUT: true; the input reads as it did. -/
def fnExactMakeWhiteSpec : ChangeSpec := { name := "fnExactMakeWhite", vars := ["loop.example/g00798/impl.kindRules"], fn := fun _ => fun
  | [d, g1] => { results := [.lit (.bool true)], args := [d], vars := [g1] }
  | _ => none }
def fnExactMakeWhiteRow : OpenClaim := { program := "ytgoenokkaagdeaadoor", sum := "78d31a40e208a33fb4ce0c4073340d2c31bfa6a9d2d7fc67ff6c84198abf9898", func := "loop.example/g00798/laws.FnExactMakeWhite", spec := "fnExactMakeWhite", named := ["loop.example/g00798/impl.kindRules"], apart := false, laid := [("loop.example/g00798/impl.kindRules", laid_loop_example_g00798_impl_kindRules)] }
def FnExactMakeWhiteSaid : Prop := fnExactMakeWhiteRow.holds Tryd.pinned (OpenSpec.ofChange fnExactMakeWhiteSpec)

/-- ITS FALSE NEIGHBOUR: 'it returns false'. Refute it at one input. -/
def fnExactMakeWhiteWrong : ChangeSpec := { name := "fnExactMakeWhite", vars := ["loop.example/g00798/impl.kindRules"], fn := fun _ => fun
  | [d, g1] => { results := [.lit (.bool false)], args := [d], vars := [g1] }
  | _ => none }
def FnExactMakeWhiteWrongFalsely : Prop := fnExactMakeWhiteRow.holds Tryd.pinned (OpenSpec.ofChange fnExactMakeWhiteWrong)

/-- 'laws.FnExactMakeLink': WHATEVER THE INPUT: true; the input reads as it did. -/
def fnExactMakeLinkSpec : ChangeSpec := { name := "fnExactMakeLink", vars := ["loop.example/g00798/impl.kindRules"], fn := fun _ => fun
  | [d1, d2, g1] => { results := [.lit (.bool true)], args := [d1, d2], vars := [g1] }
  | _ => none }
def fnExactMakeLinkRow : OpenClaim := { program := "ytgoenokkaagdeaadoor", sum := "78d31a40e208a33fb4ce0c4073340d2c31bfa6a9d2d7fc67ff6c84198abf9898", func := "loop.example/g00798/laws.FnExactMakeLink", spec := "fnExactMakeLink", named := ["loop.example/g00798/impl.kindRules"], apart := false, laid := [("loop.example/g00798/impl.kindRules", laid_loop_example_g00798_impl_kindRules)] }
def FnExactMakeLinkSaid : Prop := fnExactMakeLinkRow.holds Tryd.pinned (OpenSpec.ofChange fnExactMakeLinkSpec)

/-- ITS FALSE NEIGHBOUR: 'it returns false'. Refute it at one input. -/
def fnExactMakeLinkWrong : ChangeSpec := { name := "fnExactMakeLink", vars := ["loop.example/g00798/impl.kindRules"], fn := fun _ => fun
  | [d1, d2, g1] => { results := [.lit (.bool false)], args := [d1, d2], vars := [g1] }
  | _ => none }
def FnExactMakeLinkWrongFalsely : Prop := fnExactMakeLinkRow.holds Tryd.pinned (OpenSpec.ofChange fnExactMakeLinkWrong)

/- THE SECOND FORM. 'bulk': how many values and letters a reading holds, each counted each time it is reached (what is shared counts as often as it is met; a slice's spare places count too). A statement '..UptoSaid' is the law's where the arguments, and the package variables that the reading takes, are together of bulk at most 1048576: NARROWER than '..Said'. Prove '..Said' where nothing that the law and all that it calls make is longer than what came in: it says more and counts as full. Else prove '..UptoSaid'. A law counts once. -/
mutual
def uptoBulk {H : Type} : DataW H → Nat
  | .lit (.string bytes) => bytes.length + 1
  | .lit _ => 1
  | .nil => 1
  | .ptr d => uptoBulk d + 1
  | .slice elems spare => uptoBulkAll elems + uptoBulkAll spare + 1
  | .agg parts => uptoBulkAll parts + 1
  | .iface _ d => uptoBulk d + 1
  | .map entries => uptoBulkEntries entries + 1
  | .held _ => 1
def uptoBulkAll {H : Type} : List (DataW H) → Nat
  | [] => 0
  | d :: r => uptoBulk d + uptoBulkAll r
def uptoBulkEntries {H : Type} : List (Lit × DataW H) → Nat
  | [] => 0
  | x :: r => uptoBulkEntry x + uptoBulkEntries r
def uptoBulkEntry {H : Type} : Lit × DataW H → Nat
  | (.string bytes, d) => bytes.length + uptoBulk d + 1
  | (_, d) => uptoBulk d + 1
 end
def uptoSmall : (H : Type) → List (DataW H) → Bool := fun _ ds => decide (uptoBulkAll ds ≤ 1048576)
def OpenSpec.upto (s : _root_.Go.ChangeSpec) : _root_.Go.OpenSpec := { _root_.Go.OpenSpec.ofChange s with cond := some uptoSmall }

/-- 'laws.FnRecords', WHERE WHAT IT READS IS OF BULK AT MOST 1048576: true; the input reads as it did. -/
def fnRecordsUptoRow : OpenClaim := { program := "ytgoenokkaagdeaadoor", sum := "78d31a40e208a33fb4ce0c4073340d2c31bfa6a9d2d7fc67ff6c84198abf9898", func := "loop.example/g00798/laws.FnRecords", spec := "fnRecords", named := ["loop.example/g00798/impl.kindRules"], apart := false, laid := [("loop.example/g00798/impl.kindRules", laid_loop_example_g00798_impl_kindRules)], narrowed := true }
def FnRecordsUptoSaid : Prop := fnRecordsUptoRow.holds Tryd.pinned (OpenSpec.upto fnRecordsSpec)

/-- 'laws.FnExactRecordOK', WHERE WHAT IT READS IS OF BULK AT MOST 1048576: true; the input reads as it did. -/
def fnExactRecordOKUptoRow : OpenClaim := { program := "ytgoenokkaagdeaadoor", sum := "78d31a40e208a33fb4ce0c4073340d2c31bfa6a9d2d7fc67ff6c84198abf9898", func := "loop.example/g00798/laws.FnExactRecordOK", spec := "fnExactRecordOK", named := ["loop.example/g00798/impl.kindRules"], apart := false, laid := [("loop.example/g00798/impl.kindRules", laid_loop_example_g00798_impl_kindRules)], narrowed := true }
def FnExactRecordOKUptoSaid : Prop := fnExactRecordOKUptoRow.holds Tryd.pinned (OpenSpec.upto fnExactRecordOKSpec)

/-- 'laws.FnExactRecordFault', WHERE WHAT IT READS IS OF BULK AT MOST 1048576: true; the input reads as it did. -/
def fnExactRecordFaultUptoRow : OpenClaim := { program := "ytgoenokkaagdeaadoor", sum := "78d31a40e208a33fb4ce0c4073340d2c31bfa6a9d2d7fc67ff6c84198abf9898", func := "loop.example/g00798/laws.FnExactRecordFault", spec := "fnExactRecordFault", named := ["loop.example/g00798/impl.kindRules"], apart := false, laid := [("loop.example/g00798/impl.kindRules", laid_loop_example_g00798_impl_kindRules)], narrowed := true }
def FnExactRecordFaultUptoSaid : Prop := fnExactRecordFaultUptoRow.holds Tryd.pinned (OpenSpec.upto fnExactRecordFaultSpec)

/-- 'laws.FnExactMakeFile', WHERE WHAT IT READS IS OF BULK AT MOST 1048576: true; the input reads as it did. -/
def fnExactMakeFileUptoRow : OpenClaim := { program := "ytgoenokkaagdeaadoor", sum := "78d31a40e208a33fb4ce0c4073340d2c31bfa6a9d2d7fc67ff6c84198abf9898", func := "loop.example/g00798/laws.FnExactMakeFile", spec := "fnExactMakeFile", named := ["loop.example/g00798/impl.kindRules"], apart := false, laid := [("loop.example/g00798/impl.kindRules", laid_loop_example_g00798_impl_kindRules)], narrowed := true }
def FnExactMakeFileUptoSaid : Prop := fnExactMakeFileUptoRow.holds Tryd.pinned (OpenSpec.upto fnExactMakeFileSpec)

/-- 'laws.FnExactMakeDir', WHERE WHAT IT READS IS OF BULK AT MOST 1048576: true; the input reads as it did. -/
def fnExactMakeDirUptoRow : OpenClaim := { program := "ytgoenokkaagdeaadoor", sum := "78d31a40e208a33fb4ce0c4073340d2c31bfa6a9d2d7fc67ff6c84198abf9898", func := "loop.example/g00798/laws.FnExactMakeDir", spec := "fnExactMakeDir", named := ["loop.example/g00798/impl.kindRules"], apart := false, laid := [("loop.example/g00798/impl.kindRules", laid_loop_example_g00798_impl_kindRules)], narrowed := true }
def FnExactMakeDirUptoSaid : Prop := fnExactMakeDirUptoRow.holds Tryd.pinned (OpenSpec.upto fnExactMakeDirSpec)

/-- 'laws.FnExactMakeWhite', WHERE WHAT IT READS IS OF BULK AT MOST 1048576: true; the input reads as it did. -/
def fnExactMakeWhiteUptoRow : OpenClaim := { program := "ytgoenokkaagdeaadoor", sum := "78d31a40e208a33fb4ce0c4073340d2c31bfa6a9d2d7fc67ff6c84198abf9898", func := "loop.example/g00798/laws.FnExactMakeWhite", spec := "fnExactMakeWhite", named := ["loop.example/g00798/impl.kindRules"], apart := false, laid := [("loop.example/g00798/impl.kindRules", laid_loop_example_g00798_impl_kindRules)], narrowed := true }
def FnExactMakeWhiteUptoSaid : Prop := fnExactMakeWhiteUptoRow.holds Tryd.pinned (OpenSpec.upto fnExactMakeWhiteSpec)

/-- 'laws.FnExactMakeLink', WHERE WHAT IT READS IS OF BULK AT MOST 1048576: true; the input reads as it did. -/
def fnExactMakeLinkUptoRow : OpenClaim := { program := "ytgoenokkaagdeaadoor", sum := "78d31a40e208a33fb4ce0c4073340d2c31bfa6a9d2d7fc67ff6c84198abf9898", func := "loop.example/g00798/laws.FnExactMakeLink", spec := "fnExactMakeLink", named := ["loop.example/g00798/impl.kindRules"], apart := false, laid := [("loop.example/g00798/impl.kindRules", laid_loop_example_g00798_impl_kindRules)], narrowed := true }
def FnExactMakeLinkUptoSaid : Prop := fnExactMakeLinkUptoRow.holds Tryd.pinned (OpenSpec.upto fnExactMakeLinkSpec)

end Rows
end Go.Proofs.YtgoenokkaagdeaaDoor
