/-
  NARROWER THAN 'FOR EVERY INPUT', by the rows' own cells (each row's printed sentence says how): FnExactLookUp: ifaces, laid · FnExactReadDir: ifaces, laid · FnExactReadFile: ifaces, laid · FnExactReadLink: ifaces, laid · FnExactWalk: ifaces, laid · FnExactLayerOf: ifaces, laid.
  DERIVED. THE GIVEN ROWS OF THIS SEAT. 6 by the template 'for every input the law returns true; each argument reads behind the call as it read before'; 0 by the template 'total and deterministic' (their statements: YtibekkfbpmloiaaGreatDoorTotals.lean).
  GIVEN WITH THE SEED: the statements are not yours to turn. If you find one false, say at which input.
  Laid BY PROGRAM, IN A SANDBOX (cutbox-rows.mjs): the forced cells as the released guide's own fill.sh prints them over the translation 5b87c8b1aead4e61… (all of the seat's roots in one cut). By AI agents, Wed Nov 11 2026. No macro, syntax, notation, axiom, sorry.
-/
import Derived.Test.YtibekkfbpmloiaaGreatDoorChecked
import GoSem.Claim
import GoSem.ClaimJoined
import GoSem.ClaimMapViews
import Derived.JoinedTies
import Derived.KernelRfl
namespace Go.Proofs.YtibekkfbpmloiaaGreatDoor
/- THE CELL 'sum', in the pinned program and in every row, IS THE sha256 OF THE DUMP (.gsa) THAT YtibekkfbpmloiaaGreatDoorProg.lean LOADS. Nothing in Lean hashes anything: it is a label: what it is worth is what the hold of that sum in a sandbox is worth. -/
noncomputable def Tryz.pinned : Pinned := { name := "ytibekkfbpmloiaagreatdoor", sum := "5b87c8b1aead4e61abf596b4b9d6e9be0077982e4aeca9bb4dc08aca47a973b0", checked := Tryz.checked }
namespace Rows
def none {H : Type} : Left H := { results := [], args := [] }

/- WHAT THE LISTED PACKAGE-LEVEL VARIABLES READ AS WHEN THE CALL BEGINS. Each datum BY PROGRAM (the guide's laid-datum.mjs) off the statement by which the dump's own 'gosem.cut.vars' lays the variable. In a bare row this is a premise. The card (YtibekkfbpmloiaaGreatDoorCards.lean) ties it to the program's text. -/
def laid_loop_example_g00798_impl_kindRules {H : Type} : DataW H := .agg [.agg [.lit (.bool false), .lit (.bool false), .lit (.bool false), .lit (.bool false)], .agg [.lit (.bool true), .lit (.bool false), .lit (.bool true), .lit (.bool false)], .agg [.lit (.bool true), .lit (.bool true), .lit (.bool false), .lit (.bool false)], .agg [.lit (.bool false), .lit (.bool false), .lit (.bool true), .lit (.bool true)], .agg [.lit (.bool false), .lit (.bool false), .lit (.bool false), .lit (.bool false)]]
def laid_loop_example_g00798_impl_errTooLong {H : Type} : DataW H := .iface "*errors.errorString" (.ptr (.agg [.lit (.string [97, 110, 32, 97, 114, 103, 117, 109, 101, 110, 116, 32, 105, 115, 32, 116, 111, 111, 32, 108, 111, 110, 103])]))
def laid_loop_example_g00798_impl_errInvalid {H : Type} : DataW H := .iface "*errors.errorString" (.ptr (.agg [.lit (.string [97, 110, 32, 97, 114, 103, 117, 109, 101, 110, 116, 32, 105, 115, 32, 105, 110, 118, 97, 108, 105, 100])]))

/-- 'laws.FnExactLookUp': WHATEVER THE INPUT: true; the input reads as it did. -/
def fnExactLookUpSpec : ChangeSpec := { name := "fnExactLookUp", vars := ["loop.example/g00798/impl.errTooLong", "loop.example/g00798/impl.errInvalid", "loop.example/g00798/impl.kindRules"], fn := fun _ => fun
  | [d1, d2, g1, g2, g3] => { results := [.lit (.bool true)], args := [d1, d2], vars := [g1, g2, g3] }
  | _ => none }
def fnExactLookUpRow : OpenClaim := { program := "ytibekkfbpmloiaagreatdoor", sum := "5b87c8b1aead4e61abf596b4b9d6e9be0077982e4aeca9bb4dc08aca47a973b0", func := "loop.example/g00798/laws.FnExactLookUp", spec := "fnExactLookUp", inPlace := ["internal/abi.NoEscape", "internal/bytealg.MakeNoZero", "internal/reflectlite.TypeOf"], unfollowed := true, recurses := true, named := ["loop.example/g00798/impl.errTooLong", "loop.example/g00798/impl.errInvalid", "loop.example/g00798/impl.kindRules"], ifaces := true, apart := false, laid := [("loop.example/g00798/impl.kindRules", laid_loop_example_g00798_impl_kindRules), ("loop.example/g00798/impl.errTooLong", laid_loop_example_g00798_impl_errTooLong), ("loop.example/g00798/impl.errInvalid", laid_loop_example_g00798_impl_errInvalid)] }
def FnExactLookUpSaid : Prop := fnExactLookUpRow.holds Tryz.pinned (OpenSpec.ofChange fnExactLookUpSpec)

/-- ITS FALSE NEIGHBOUR: 'it returns false'. Refute it at one input. -/
def fnExactLookUpWrong : ChangeSpec := { name := "fnExactLookUp", vars := ["loop.example/g00798/impl.errTooLong", "loop.example/g00798/impl.errInvalid", "loop.example/g00798/impl.kindRules"], fn := fun _ => fun
  | [d1, d2, g1, g2, g3] => { results := [.lit (.bool false)], args := [d1, d2], vars := [g1, g2, g3] }
  | _ => none }
def FnExactLookUpWrongFalsely : Prop := fnExactLookUpRow.holds Tryz.pinned (OpenSpec.ofChange fnExactLookUpWrong)

/-- 'laws.FnExactReadDir': WHATEVER THE INPUT: true; the input reads as it did. -/
def fnExactReadDirSpec : ChangeSpec := { name := "fnExactReadDir", vars := ["loop.example/g00798/impl.errTooLong", "loop.example/g00798/impl.errInvalid", "loop.example/g00798/impl.kindRules"], fn := fun _ => fun
  | [d1, d2, g1, g2, g3] => { results := [.lit (.bool true)], args := [d1, d2], vars := [g1, g2, g3] }
  | _ => none }
def fnExactReadDirRow : OpenClaim := { program := "ytibekkfbpmloiaagreatdoor", sum := "5b87c8b1aead4e61abf596b4b9d6e9be0077982e4aeca9bb4dc08aca47a973b0", func := "loop.example/g00798/laws.FnExactReadDir", spec := "fnExactReadDir", inPlace := ["internal/abi.NoEscape", "internal/bytealg.MakeNoZero", "internal/reflectlite.TypeOf"], unfollowed := true, recurses := true, named := ["loop.example/g00798/impl.errTooLong", "loop.example/g00798/impl.errInvalid", "loop.example/g00798/impl.kindRules"], ifaces := true, apart := false, laid := [("loop.example/g00798/impl.kindRules", laid_loop_example_g00798_impl_kindRules), ("loop.example/g00798/impl.errTooLong", laid_loop_example_g00798_impl_errTooLong), ("loop.example/g00798/impl.errInvalid", laid_loop_example_g00798_impl_errInvalid)] }
def FnExactReadDirSaid : Prop := fnExactReadDirRow.holds Tryz.pinned (OpenSpec.ofChange fnExactReadDirSpec)

/-- ITS FALSE NEIGHBOUR: 'it returns false'. Refute it at one input. -/
def fnExactReadDirWrong : ChangeSpec := { name := "fnExactReadDir", vars := ["loop.example/g00798/impl.errTooLong", "loop.example/g00798/impl.errInvalid", "loop.example/g00798/impl.kindRules"], fn := fun _ => fun
  | [d1, d2, g1, g2, g3] => { results := [.lit (.bool false)], args := [d1, d2], vars := [g1, g2, g3] }
  | _ => none }
def FnExactReadDirWrongFalsely : Prop := fnExactReadDirRow.holds Tryz.pinned (OpenSpec.ofChange fnExactReadDirWrong)

/-- 'laws.FnExactReadFile': WHATEVER THE INPUT: true; the input reads as it did. -/
def fnExactReadFileSpec : ChangeSpec := { name := "fnExactReadFile", vars := ["loop.example/g00798/impl.errTooLong", "loop.example/g00798/impl.errInvalid", "loop.example/g00798/impl.kindRules"], fn := fun _ => fun
  | [d1, d2, d3, d4, g1, g2, g3] => { results := [.lit (.bool true)], args := [d1, d2, d3, d4], vars := [g1, g2, g3] }
  | _ => none }
def fnExactReadFileRow : OpenClaim := { program := "ytibekkfbpmloiaagreatdoor", sum := "5b87c8b1aead4e61abf596b4b9d6e9be0077982e4aeca9bb4dc08aca47a973b0", func := "loop.example/g00798/laws.FnExactReadFile", spec := "fnExactReadFile", inPlace := ["internal/abi.NoEscape", "internal/bytealg.MakeNoZero", "internal/reflectlite.TypeOf"], unfollowed := true, recurses := true, named := ["loop.example/g00798/impl.errTooLong", "loop.example/g00798/impl.errInvalid", "loop.example/g00798/impl.kindRules"], ifaces := true, apart := false, laid := [("loop.example/g00798/impl.kindRules", laid_loop_example_g00798_impl_kindRules), ("loop.example/g00798/impl.errTooLong", laid_loop_example_g00798_impl_errTooLong), ("loop.example/g00798/impl.errInvalid", laid_loop_example_g00798_impl_errInvalid)] }
def FnExactReadFileSaid : Prop := fnExactReadFileRow.holds Tryz.pinned (OpenSpec.ofChange fnExactReadFileSpec)

/-- ITS FALSE NEIGHBOUR: 'it returns false'. Refute it at one input. -/
def fnExactReadFileWrong : ChangeSpec := { name := "fnExactReadFile", vars := ["loop.example/g00798/impl.errTooLong", "loop.example/g00798/impl.errInvalid", "loop.example/g00798/impl.kindRules"], fn := fun _ => fun
  | [d1, d2, d3, d4, g1, g2, g3] => { results := [.lit (.bool false)], args := [d1, d2, d3, d4], vars := [g1, g2, g3] }
  | _ => none }
def FnExactReadFileWrongFalsely : Prop := fnExactReadFileRow.holds Tryz.pinned (OpenSpec.ofChange fnExactReadFileWrong)

/-- 'laws.FnExactReadLink': WHATEVER THE INPUT: true; the input reads as it did. -/
def fnExactReadLinkSpec : ChangeSpec := { name := "fnExactReadLink", vars := ["loop.example/g00798/impl.errTooLong", "loop.example/g00798/impl.errInvalid", "loop.example/g00798/impl.kindRules"], fn := fun _ => fun
  | [d1, d2, g1, g2, g3] => { results := [.lit (.bool true)], args := [d1, d2], vars := [g1, g2, g3] }
  | _ => none }
def fnExactReadLinkRow : OpenClaim := { program := "ytibekkfbpmloiaagreatdoor", sum := "5b87c8b1aead4e61abf596b4b9d6e9be0077982e4aeca9bb4dc08aca47a973b0", func := "loop.example/g00798/laws.FnExactReadLink", spec := "fnExactReadLink", inPlace := ["internal/abi.NoEscape", "internal/bytealg.MakeNoZero", "internal/reflectlite.TypeOf"], unfollowed := true, recurses := true, named := ["loop.example/g00798/impl.errTooLong", "loop.example/g00798/impl.errInvalid", "loop.example/g00798/impl.kindRules"], ifaces := true, apart := false, laid := [("loop.example/g00798/impl.kindRules", laid_loop_example_g00798_impl_kindRules), ("loop.example/g00798/impl.errTooLong", laid_loop_example_g00798_impl_errTooLong), ("loop.example/g00798/impl.errInvalid", laid_loop_example_g00798_impl_errInvalid)] }
def FnExactReadLinkSaid : Prop := fnExactReadLinkRow.holds Tryz.pinned (OpenSpec.ofChange fnExactReadLinkSpec)

/-- ITS FALSE NEIGHBOUR: 'it returns false'. Refute it at one input. -/
def fnExactReadLinkWrong : ChangeSpec := { name := "fnExactReadLink", vars := ["loop.example/g00798/impl.errTooLong", "loop.example/g00798/impl.errInvalid", "loop.example/g00798/impl.kindRules"], fn := fun _ => fun
  | [d1, d2, g1, g2, g3] => { results := [.lit (.bool false)], args := [d1, d2], vars := [g1, g2, g3] }
  | _ => none }
def FnExactReadLinkWrongFalsely : Prop := fnExactReadLinkRow.holds Tryz.pinned (OpenSpec.ofChange fnExactReadLinkWrong)

/-- 'laws.FnExactWalk': WHATEVER THE INPUT: true; the input reads as it did. -/
def fnExactWalkSpec : ChangeSpec := { name := "fnExactWalk", vars := ["loop.example/g00798/impl.errTooLong", "loop.example/g00798/impl.errInvalid", "loop.example/g00798/impl.kindRules"], fn := fun _ => fun
  | [d1, d2, g1, g2, g3] => { results := [.lit (.bool true)], args := [d1, d2], vars := [g1, g2, g3] }
  | _ => none }
def fnExactWalkRow : OpenClaim := { program := "ytibekkfbpmloiaagreatdoor", sum := "5b87c8b1aead4e61abf596b4b9d6e9be0077982e4aeca9bb4dc08aca47a973b0", func := "loop.example/g00798/laws.FnExactWalk", spec := "fnExactWalk", inPlace := ["internal/abi.NoEscape", "internal/bytealg.MakeNoZero", "internal/reflectlite.TypeOf"], unfollowed := true, recurses := true, named := ["loop.example/g00798/impl.errTooLong", "loop.example/g00798/impl.errInvalid", "loop.example/g00798/impl.kindRules"], ifaces := true, apart := false, laid := [("loop.example/g00798/impl.kindRules", laid_loop_example_g00798_impl_kindRules), ("loop.example/g00798/impl.errTooLong", laid_loop_example_g00798_impl_errTooLong), ("loop.example/g00798/impl.errInvalid", laid_loop_example_g00798_impl_errInvalid)] }
def FnExactWalkSaid : Prop := fnExactWalkRow.holds Tryz.pinned (OpenSpec.ofChange fnExactWalkSpec)

/-- ITS FALSE NEIGHBOUR: 'it returns false'. Refute it at one input. -/
def fnExactWalkWrong : ChangeSpec := { name := "fnExactWalk", vars := ["loop.example/g00798/impl.errTooLong", "loop.example/g00798/impl.errInvalid", "loop.example/g00798/impl.kindRules"], fn := fun _ => fun
  | [d1, d2, g1, g2, g3] => { results := [.lit (.bool false)], args := [d1, d2], vars := [g1, g2, g3] }
  | _ => none }
def FnExactWalkWrongFalsely : Prop := fnExactWalkRow.holds Tryz.pinned (OpenSpec.ofChange fnExactWalkWrong)

/-- 'laws.FnExactLayerOf': WHATEVER THE INPUT: true; the input reads as it did. -/
def fnExactLayerOfSpec : ChangeSpec := { name := "fnExactLayerOf", vars := ["loop.example/g00798/impl.errTooLong", "loop.example/g00798/impl.errInvalid", "loop.example/g00798/impl.kindRules"], fn := fun _ => fun
  | [d1, d2, g1, g2, g3] => { results := [.lit (.bool true)], args := [d1, d2], vars := [g1, g2, g3] }
  | _ => none }
def fnExactLayerOfRow : OpenClaim := { program := "ytibekkfbpmloiaagreatdoor", sum := "5b87c8b1aead4e61abf596b4b9d6e9be0077982e4aeca9bb4dc08aca47a973b0", func := "loop.example/g00798/laws.FnExactLayerOf", spec := "fnExactLayerOf", inPlace := ["internal/abi.NoEscape", "internal/bytealg.MakeNoZero", "internal/reflectlite.TypeOf"], unfollowed := true, recurses := true, named := ["loop.example/g00798/impl.errTooLong", "loop.example/g00798/impl.errInvalid", "loop.example/g00798/impl.kindRules"], ifaces := true, apart := false, laid := [("loop.example/g00798/impl.kindRules", laid_loop_example_g00798_impl_kindRules), ("loop.example/g00798/impl.errTooLong", laid_loop_example_g00798_impl_errTooLong), ("loop.example/g00798/impl.errInvalid", laid_loop_example_g00798_impl_errInvalid)] }
def FnExactLayerOfSaid : Prop := fnExactLayerOfRow.holds Tryz.pinned (OpenSpec.ofChange fnExactLayerOfSpec)

/-- ITS FALSE NEIGHBOUR: 'it returns false'. Refute it at one input. -/
def fnExactLayerOfWrong : ChangeSpec := { name := "fnExactLayerOf", vars := ["loop.example/g00798/impl.errTooLong", "loop.example/g00798/impl.errInvalid", "loop.example/g00798/impl.kindRules"], fn := fun _ => fun
  | [d1, d2, g1, g2, g3] => { results := [.lit (.bool false)], args := [d1, d2], vars := [g1, g2, g3] }
  | _ => none }
def FnExactLayerOfWrongFalsely : Prop := fnExactLayerOfRow.holds Tryz.pinned (OpenSpec.ofChange fnExactLayerOfWrong)

/- THE SECOND FORM. 'bulk': how many values and letters a reading holds, each counted each time it is reached (what is shared counts as often as it is met; a slice's spare places count too). A statement '..UptoSaid' is the law's where the arguments, and the package variables that the reading takes, are together of bulk at most 1048576: NARROWER than '..Said'. Prove '..Said' where nothing that the law and all that it calls make is longer than what came in: it says more and counts as full. Else prove '..UptoSaid'. A law counts once. -/
mutual
def uptoBulk {H : Type} : DataW H → Nat
  | .lit (.string bytes) => bytes.length + 1
  | .lit _ => 1
  | .nil => 1
  | .ptr d => uptoBulk d + 1
  | .slice elems spare => uptoBulkAll elems + uptoBulkAll spare + 1
  | .agg parts => uptoBulkAll parts + 1
  | .iface _ d => uptoBulk d + 1
  | .map entries => uptoBulkEntries entries + 1
  | .held _ => 1
def uptoBulkAll {H : Type} : List (DataW H) → Nat
  | [] => 0
  | d :: r => uptoBulk d + uptoBulkAll r
def uptoBulkEntries {H : Type} : List (Lit × DataW H) → Nat
  | [] => 0
  | x :: r => uptoBulkEntry x + uptoBulkEntries r
def uptoBulkEntry {H : Type} : Lit × DataW H → Nat
  | (.string bytes, d) => bytes.length + uptoBulk d + 1
  | (_, d) => uptoBulk d + 1
 end
def uptoSmall : (H : Type) → List (DataW H) → Bool := fun _ ds => decide (uptoBulkAll ds ≤ 1048576)
def OpenSpec.upto (s : _root_.Go.ChangeSpec) : _root_.Go.OpenSpec := { _root_.Go.OpenSpec.ofChange s with cond := some uptoSmall }

/-- 'laws.FnExactLookUp', WHERE WHAT IT READS IS OF BULK AT MOST 1048576: true; the input reads as it did. -/
def fnExactLookUpUptoRow : OpenClaim := { program := "ytibekkfbpmloiaagreatdoor", sum := "5b87c8b1aead4e61abf596b4b9d6e9be0077982e4aeca9bb4dc08aca47a973b0", func := "loop.example/g00798/laws.FnExactLookUp", spec := "fnExactLookUp", inPlace := ["internal/abi.NoEscape", "internal/bytealg.MakeNoZero", "internal/reflectlite.TypeOf"], unfollowed := true, recurses := true, named := ["loop.example/g00798/impl.errTooLong", "loop.example/g00798/impl.errInvalid", "loop.example/g00798/impl.kindRules"], ifaces := true, apart := false, laid := [("loop.example/g00798/impl.kindRules", laid_loop_example_g00798_impl_kindRules), ("loop.example/g00798/impl.errTooLong", laid_loop_example_g00798_impl_errTooLong), ("loop.example/g00798/impl.errInvalid", laid_loop_example_g00798_impl_errInvalid)], narrowed := true }
def FnExactLookUpUptoSaid : Prop := fnExactLookUpUptoRow.holds Tryz.pinned (OpenSpec.upto fnExactLookUpSpec)

/-- 'laws.FnExactReadDir', WHERE WHAT IT READS IS OF BULK AT MOST 1048576: true; the input reads as it did. -/
def fnExactReadDirUptoRow : OpenClaim := { program := "ytibekkfbpmloiaagreatdoor", sum := "5b87c8b1aead4e61abf596b4b9d6e9be0077982e4aeca9bb4dc08aca47a973b0", func := "loop.example/g00798/laws.FnExactReadDir", spec := "fnExactReadDir", inPlace := ["internal/abi.NoEscape", "internal/bytealg.MakeNoZero", "internal/reflectlite.TypeOf"], unfollowed := true, recurses := true, named := ["loop.example/g00798/impl.errTooLong", "loop.example/g00798/impl.errInvalid", "loop.example/g00798/impl.kindRules"], ifaces := true, apart := false, laid := [("loop.example/g00798/impl.kindRules", laid_loop_example_g00798_impl_kindRules), ("loop.example/g00798/impl.errTooLong", laid_loop_example_g00798_impl_errTooLong), ("loop.example/g00798/impl.errInvalid", laid_loop_example_g00798_impl_errInvalid)], narrowed := true }
def FnExactReadDirUptoSaid : Prop := fnExactReadDirUptoRow.holds Tryz.pinned (OpenSpec.upto fnExactReadDirSpec)

/-- 'laws.FnExactReadFile', WHERE WHAT IT READS IS OF BULK AT MOST 1048576: true; the input reads as it did. -/
def fnExactReadFileUptoRow : OpenClaim := { program := "ytibekkfbpmloiaagreatdoor", sum := "5b87c8b1aead4e61abf596b4b9d6e9be0077982e4aeca9bb4dc08aca47a973b0", func := "loop.example/g00798/laws.FnExactReadFile", spec := "fnExactReadFile", inPlace := ["internal/abi.NoEscape", "internal/bytealg.MakeNoZero", "internal/reflectlite.TypeOf"], unfollowed := true, recurses := true, named := ["loop.example/g00798/impl.errTooLong", "loop.example/g00798/impl.errInvalid", "loop.example/g00798/impl.kindRules"], ifaces := true, apart := false, laid := [("loop.example/g00798/impl.kindRules", laid_loop_example_g00798_impl_kindRules), ("loop.example/g00798/impl.errTooLong", laid_loop_example_g00798_impl_errTooLong), ("loop.example/g00798/impl.errInvalid", laid_loop_example_g00798_impl_errInvalid)], narrowed := true }
def FnExactReadFileUptoSaid : Prop := fnExactReadFileUptoRow.holds Tryz.pinned (OpenSpec.upto fnExactReadFileSpec)

/-- 'laws.FnExactReadLink', WHERE WHAT IT READS IS OF BULK AT MOST 1048576: true; the input reads as it did. -/
def fnExactReadLinkUptoRow : OpenClaim := { program := "ytibekkfbpmloiaagreatdoor", sum := "5b87c8b1aead4e61abf596b4b9d6e9be0077982e4aeca9bb4dc08aca47a973b0", func := "loop.example/g00798/laws.FnExactReadLink", spec := "fnExactReadLink", inPlace := ["internal/abi.NoEscape", "internal/bytealg.MakeNoZero", "internal/reflectlite.TypeOf"], unfollowed := true, recurses := true, named := ["loop.example/g00798/impl.errTooLong", "loop.example/g00798/impl.errInvalid", "loop.example/g00798/impl.kindRules"], ifaces := true, apart := false, laid := [("loop.example/g00798/impl.kindRules", laid_loop_example_g00798_impl_kindRules), ("loop.example/g00798/impl.errTooLong", laid_loop_example_g00798_impl_errTooLong), ("loop.example/g00798/impl.errInvalid", laid_loop_example_g00798_impl_errInvalid)], narrowed := true }
def FnExactReadLinkUptoSaid : Prop := fnExactReadLinkUptoRow.holds Tryz.pinned (OpenSpec.upto fnExactReadLinkSpec)

/-- 'laws.FnExactWalk', WHERE WHAT IT READS IS OF BULK AT MOST 1048576: true; the input reads as it did. -/
def fnExactWalkUptoRow : OpenClaim := { program := "ytibekkfbpmloiaagreatdoor", sum := "5b87c8b1aead4e61abf596b4b9d6e9be0077982e4aeca9bb4dc08aca47a973b0", func := "loop.example/g00798/laws.FnExactWalk", spec := "fnExactWalk", inPlace := ["internal/abi.NoEscape", "internal/bytealg.MakeNoZero", "internal/reflectlite.TypeOf"], unfollowed := true, recurses := true, named := ["loop.example/g00798/impl.errTooLong", "loop.example/g00798/impl.errInvalid", "loop.example/g00798/impl.kindRules"], ifaces := true, apart := false, laid := [("loop.example/g00798/impl.kindRules", laid_loop_example_g00798_impl_kindRules), ("loop.example/g00798/impl.errTooLong", laid_loop_example_g00798_impl_errTooLong), ("loop.example/g00798/impl.errInvalid", laid_loop_example_g00798_impl_errInvalid)], narrowed := true }
def FnExactWalkUptoSaid : Prop := fnExactWalkUptoRow.holds Tryz.pinned (OpenSpec.upto fnExactWalkSpec)

/-- 'laws.FnExactLayerOf', WHERE WHAT IT READS IS OF BULK AT MOST 1048576: true; the input reads as it did. -/
def fnExactLayerOfUptoRow : OpenClaim := { program := "ytibekkfbpmloiaagreatdoor", sum := "5b87c8b1aead4e61abf596b4b9d6e9be0077982e4aeca9bb4dc08aca47a973b0", func := "loop.example/g00798/laws.FnExactLayerOf", spec := "fnExactLayerOf", inPlace := ["internal/abi.NoEscape", "internal/bytealg.MakeNoZero", "internal/reflectlite.TypeOf"], unfollowed := true, recurses := true, named := ["loop.example/g00798/impl.errTooLong", "loop.example/g00798/impl.errInvalid", "loop.example/g00798/impl.kindRules"], ifaces := true, apart := false, laid := [("loop.example/g00798/impl.kindRules", laid_loop_example_g00798_impl_kindRules), ("loop.example/g00798/impl.errTooLong", laid_loop_example_g00798_impl_errTooLong), ("loop.example/g00798/impl.errInvalid", laid_loop_example_g00798_impl_errInvalid)], narrowed := true }
def FnExactLayerOfUptoSaid : Prop := fnExactLayerOfUptoRow.holds Tryz.pinned (OpenSpec.upto fnExactLayerOfSpec)

end Rows
end Go.Proofs.YtibekkfbpmloiaaGreatDoor
