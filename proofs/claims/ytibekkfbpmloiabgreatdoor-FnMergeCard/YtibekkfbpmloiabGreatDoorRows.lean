/-
  NARROWER THAN 'FOR EVERY INPUT', by the rows' own cells (each row's printed sentence says how): FnBetween: ifaces, laid · FnUndo: ifaces, laid · FnOrder: ifaces, laid · FnMerge: ifaces, laid · FnReplaced: ifaces, laid · FnQuery: ifaces, laid.
  DERIVED. THE GIVEN ROWS OF THIS SEAT. 6 by the template 'for every input the law returns true; each argument reads behind the call as it read before'; 0 by the template 'total and deterministic' (their statements: YtibekkfbpmloiabGreatDoorTotals.lean).
  GIVEN WITH THE SEED: the statements are not yours to turn. If you find one false, say at which input.
  Laid BY PROGRAM, IN A SANDBOX (cutbox-rows.mjs): the forced cells as the released guide's own fill.sh prints them over the translation 3faf5fdbd362341d… (all of the seat's roots in one cut). By AI agents, Wed Nov 11 2026. No macro, syntax, notation, axiom, sorry.
-/
import Derived.Test.YtibekkfbpmloiabGreatDoorChecked
import GoSem.Claim
import GoSem.ClaimJoined
import GoSem.ClaimMapViews
import Derived.JoinedTies
import Derived.KernelRfl
namespace Go.Proofs.YtibekkfbpmloiabGreatDoor
/- THE CELL 'sum', in the pinned program and in every row, IS THE sha256 OF THE DUMP (.gsa) THAT YtibekkfbpmloiabGreatDoorProg.lean LOADS. Nothing in Lean hashes anything: it is a label: what it is worth is what the hold of that sum in a sandbox is worth. -/
noncomputable def Tryz.pinned : Pinned := { name := "ytibekkfbpmloiabgreatdoor", sum := "3faf5fdbd362341df687ecc9541a43a674713f3f318a422f269e76198236f6d6", checked := Tryz.checked }
namespace Rows
def none {H : Type} : Left H := { results := [], args := [] }

/- WHAT THE LISTED PACKAGE-LEVEL VARIABLES READ AS WHEN THE CALL BEGINS. Each datum BY PROGRAM (the guide's laid-datum.mjs) off the statement by which the dump's own 'gosem.cut.vars' lays the variable. In a bare row this is a premise. The card (YtibekkfbpmloiabGreatDoorCards.lean) ties it to the program's text. -/
def laid_loop_example_g00798_impl_kindRules {H : Type} : DataW H := .agg [.agg [.lit (.bool false), .lit (.bool false), .lit (.bool false), .lit (.bool false)], .agg [.lit (.bool true), .lit (.bool false), .lit (.bool true), .lit (.bool false)], .agg [.lit (.bool true), .lit (.bool true), .lit (.bool false), .lit (.bool false)], .agg [.lit (.bool false), .lit (.bool false), .lit (.bool true), .lit (.bool true)], .agg [.lit (.bool false), .lit (.bool false), .lit (.bool false), .lit (.bool false)]]
def laid_loop_example_g00798_impl_errTooLong {H : Type} : DataW H := .iface "*errors.errorString" (.ptr (.agg [.lit (.string [97, 110, 32, 97, 114, 103, 117, 109, 101, 110, 116, 32, 105, 115, 32, 116, 111, 111, 32, 108, 111, 110, 103])]))
def laid_loop_example_g00798_impl_errInvalid {H : Type} : DataW H := .iface "*errors.errorString" (.ptr (.agg [.lit (.string [97, 110, 32, 97, 114, 103, 117, 109, 101, 110, 116, 32, 105, 115, 32, 105, 110, 118, 97, 108, 105, 100])]))

/-- 'laws.FnBetween': WHATEVER THE INPUT: true; the input reads as it did. -/
def fnBetweenSpec : ChangeSpec := { name := "fnBetween", vars := ["loop.example/g00798/impl.errTooLong", "loop.example/g00798/impl.errInvalid", "loop.example/g00798/impl.kindRules"], fn := fun _ => fun
  | [d1, d2, g1, g2, g3] => { results := [.lit (.bool true)], args := [d1, d2], vars := [g1, g2, g3] }
  | _ => none }
def fnBetweenRow : OpenClaim := { program := "ytibekkfbpmloiabgreatdoor", sum := "3faf5fdbd362341df687ecc9541a43a674713f3f318a422f269e76198236f6d6", func := "loop.example/g00798/laws.FnBetween", spec := "fnBetween", inPlace := ["slices.overlaps[*loop.example/g00798/impl.branch]", "internal/reflectlite.TypeOf", "internal/abi.NoEscape", "internal/bytealg.MakeNoZero"], unfollowed := true, recurses := true, named := ["loop.example/g00798/impl.errTooLong", "loop.example/g00798/impl.errInvalid", "loop.example/g00798/impl.kindRules"], ifaces := true, apart := false, laid := [("loop.example/g00798/impl.kindRules", laid_loop_example_g00798_impl_kindRules), ("loop.example/g00798/impl.errTooLong", laid_loop_example_g00798_impl_errTooLong), ("loop.example/g00798/impl.errInvalid", laid_loop_example_g00798_impl_errInvalid)] }
def FnBetweenSaid : Prop := fnBetweenRow.holds Tryz.pinned (OpenSpec.ofChange fnBetweenSpec)

/-- ITS FALSE NEIGHBOUR: 'it returns false'. Refute it at one input. -/
def fnBetweenWrong : ChangeSpec := { name := "fnBetween", vars := ["loop.example/g00798/impl.errTooLong", "loop.example/g00798/impl.errInvalid", "loop.example/g00798/impl.kindRules"], fn := fun _ => fun
  | [d1, d2, g1, g2, g3] => { results := [.lit (.bool false)], args := [d1, d2], vars := [g1, g2, g3] }
  | _ => none }
def FnBetweenWrongFalsely : Prop := fnBetweenRow.holds Tryz.pinned (OpenSpec.ofChange fnBetweenWrong)

/-- 'laws.FnUndo': WHATEVER THE INPUT: true; the input reads as it did. -/
def fnUndoSpec : ChangeSpec := { name := "fnUndo", vars := ["loop.example/g00798/impl.errTooLong", "loop.example/g00798/impl.kindRules", "loop.example/g00798/impl.errInvalid"], fn := fun _ => fun
  | [d1, d2, g1, g2, g3] => { results := [.lit (.bool true)], args := [d1, d2], vars := [g1, g2, g3] }
  | _ => none }
def fnUndoRow : OpenClaim := { program := "ytibekkfbpmloiabgreatdoor", sum := "3faf5fdbd362341df687ecc9541a43a674713f3f318a422f269e76198236f6d6", func := "loop.example/g00798/laws.FnUndo", spec := "fnUndo", inPlace := ["internal/abi.NoEscape", "internal/bytealg.MakeNoZero", "slices.overlaps[*loop.example/g00798/impl.branch]", "internal/reflectlite.TypeOf"], unfollowed := true, recurses := true, named := ["loop.example/g00798/impl.errTooLong", "loop.example/g00798/impl.kindRules", "loop.example/g00798/impl.errInvalid"], ifaces := true, apart := false, laid := [("loop.example/g00798/impl.kindRules", laid_loop_example_g00798_impl_kindRules), ("loop.example/g00798/impl.errTooLong", laid_loop_example_g00798_impl_errTooLong), ("loop.example/g00798/impl.errInvalid", laid_loop_example_g00798_impl_errInvalid)] }
def FnUndoSaid : Prop := fnUndoRow.holds Tryz.pinned (OpenSpec.ofChange fnUndoSpec)

/-- ITS FALSE NEIGHBOUR: 'it returns false'. Refute it at one input. -/
def fnUndoWrong : ChangeSpec := { name := "fnUndo", vars := ["loop.example/g00798/impl.errTooLong", "loop.example/g00798/impl.kindRules", "loop.example/g00798/impl.errInvalid"], fn := fun _ => fun
  | [d1, d2, g1, g2, g3] => { results := [.lit (.bool false)], args := [d1, d2], vars := [g1, g2, g3] }
  | _ => none }
def FnUndoWrongFalsely : Prop := fnUndoRow.holds Tryz.pinned (OpenSpec.ofChange fnUndoWrong)

/-- 'laws.FnOrder': WHATEVER THE INPUT: true; the input reads as it did. -/
def fnOrderSpec : ChangeSpec := { name := "fnOrder", vars := ["loop.example/g00798/impl.errTooLong", "loop.example/g00798/impl.errInvalid", "loop.example/g00798/impl.kindRules"], fn := fun _ => fun
  | [d1, d2, g1, g2, g3] => { results := [.lit (.bool true)], args := [d1, d2], vars := [g1, g2, g3] }
  | _ => none }
def fnOrderRow : OpenClaim := { program := "ytibekkfbpmloiabgreatdoor", sum := "3faf5fdbd362341df687ecc9541a43a674713f3f318a422f269e76198236f6d6", func := "loop.example/g00798/laws.FnOrder", spec := "fnOrder", inPlace := ["internal/abi.NoEscape", "internal/bytealg.MakeNoZero", "internal/reflectlite.TypeOf"], unfollowed := true, recurses := true, named := ["loop.example/g00798/impl.errTooLong", "loop.example/g00798/impl.errInvalid", "loop.example/g00798/impl.kindRules"], ifaces := true, apart := false, laid := [("loop.example/g00798/impl.kindRules", laid_loop_example_g00798_impl_kindRules), ("loop.example/g00798/impl.errTooLong", laid_loop_example_g00798_impl_errTooLong), ("loop.example/g00798/impl.errInvalid", laid_loop_example_g00798_impl_errInvalid)] }
def FnOrderSaid : Prop := fnOrderRow.holds Tryz.pinned (OpenSpec.ofChange fnOrderSpec)

/-- ITS FALSE NEIGHBOUR: 'it returns false'. Refute it at one input. -/
def fnOrderWrong : ChangeSpec := { name := "fnOrder", vars := ["loop.example/g00798/impl.errTooLong", "loop.example/g00798/impl.errInvalid", "loop.example/g00798/impl.kindRules"], fn := fun _ => fun
  | [d1, d2, g1, g2, g3] => { results := [.lit (.bool false)], args := [d1, d2], vars := [g1, g2, g3] }
  | _ => none }
def FnOrderWrongFalsely : Prop := fnOrderRow.holds Tryz.pinned (OpenSpec.ofChange fnOrderWrong)

/-- 'laws.FnMerge': WHATEVER THE INPUT: true; the input reads as it did. -/
def fnMergeSpec : ChangeSpec := { name := "fnMerge", vars := ["loop.example/g00798/impl.errTooLong", "loop.example/g00798/impl.errInvalid", "loop.example/g00798/impl.kindRules"], fn := fun _ => fun
  | [d1, d2, g1, g2, g3] => { results := [.lit (.bool true)], args := [d1, d2], vars := [g1, g2, g3] }
  | _ => none }
def fnMergeRow : OpenClaim := { program := "ytibekkfbpmloiabgreatdoor", sum := "3faf5fdbd362341df687ecc9541a43a674713f3f318a422f269e76198236f6d6", func := "loop.example/g00798/laws.FnMerge", spec := "fnMerge", inPlace := ["internal/abi.NoEscape", "internal/bytealg.MakeNoZero", "internal/reflectlite.TypeOf"], unfollowed := true, recurses := true, named := ["loop.example/g00798/impl.errTooLong", "loop.example/g00798/impl.errInvalid", "loop.example/g00798/impl.kindRules"], ifaces := true, apart := false, laid := [("loop.example/g00798/impl.kindRules", laid_loop_example_g00798_impl_kindRules), ("loop.example/g00798/impl.errTooLong", laid_loop_example_g00798_impl_errTooLong), ("loop.example/g00798/impl.errInvalid", laid_loop_example_g00798_impl_errInvalid)] }
def FnMergeSaid : Prop := fnMergeRow.holds Tryz.pinned (OpenSpec.ofChange fnMergeSpec)

/-- ITS FALSE NEIGHBOUR: 'it returns false'. Refute it at one input. -/
def fnMergeWrong : ChangeSpec := { name := "fnMerge", vars := ["loop.example/g00798/impl.errTooLong", "loop.example/g00798/impl.errInvalid", "loop.example/g00798/impl.kindRules"], fn := fun _ => fun
  | [d1, d2, g1, g2, g3] => { results := [.lit (.bool false)], args := [d1, d2], vars := [g1, g2, g3] }
  | _ => none }
def FnMergeWrongFalsely : Prop := fnMergeRow.holds Tryz.pinned (OpenSpec.ofChange fnMergeWrong)

/-- 'laws.FnReplaced': WHATEVER THE INPUT: true; the input reads as it did. -/
def fnReplacedSpec : ChangeSpec := { name := "fnReplaced", vars := ["loop.example/g00798/impl.errTooLong", "loop.example/g00798/impl.errInvalid", "loop.example/g00798/impl.kindRules"], fn := fun _ => fun
  | [d1, d2, g1, g2, g3] => { results := [.lit (.bool true)], args := [d1, d2], vars := [g1, g2, g3] }
  | _ => none }
def fnReplacedRow : OpenClaim := { program := "ytibekkfbpmloiabgreatdoor", sum := "3faf5fdbd362341df687ecc9541a43a674713f3f318a422f269e76198236f6d6", func := "loop.example/g00798/laws.FnReplaced", spec := "fnReplaced", inPlace := ["internal/abi.NoEscape", "internal/bytealg.MakeNoZero", "internal/reflectlite.TypeOf"], unfollowed := true, recurses := true, named := ["loop.example/g00798/impl.errTooLong", "loop.example/g00798/impl.errInvalid", "loop.example/g00798/impl.kindRules"], ifaces := true, apart := false, laid := [("loop.example/g00798/impl.kindRules", laid_loop_example_g00798_impl_kindRules), ("loop.example/g00798/impl.errTooLong", laid_loop_example_g00798_impl_errTooLong), ("loop.example/g00798/impl.errInvalid", laid_loop_example_g00798_impl_errInvalid)] }
def FnReplacedSaid : Prop := fnReplacedRow.holds Tryz.pinned (OpenSpec.ofChange fnReplacedSpec)

/-- ITS FALSE NEIGHBOUR: 'it returns false'. Refute it at one input. -/
def fnReplacedWrong : ChangeSpec := { name := "fnReplaced", vars := ["loop.example/g00798/impl.errTooLong", "loop.example/g00798/impl.errInvalid", "loop.example/g00798/impl.kindRules"], fn := fun _ => fun
  | [d1, d2, g1, g2, g3] => { results := [.lit (.bool false)], args := [d1, d2], vars := [g1, g2, g3] }
  | _ => none }
def FnReplacedWrongFalsely : Prop := fnReplacedRow.holds Tryz.pinned (OpenSpec.ofChange fnReplacedWrong)

/-- 'laws.FnQuery': WHATEVER THE INPUT: true; the input reads as it did. -/
def fnQuerySpec : ChangeSpec := { name := "fnQuery", vars := ["loop.example/g00798/impl.errTooLong", "loop.example/g00798/impl.errInvalid", "loop.example/g00798/impl.kindRules"], fn := fun _ => fun
  | [d1, d2, g1, g2, g3] => { results := [.lit (.bool true)], args := [d1, d2], vars := [g1, g2, g3] }
  | _ => none }
def fnQueryRow : OpenClaim := { program := "ytibekkfbpmloiabgreatdoor", sum := "3faf5fdbd362341df687ecc9541a43a674713f3f318a422f269e76198236f6d6", func := "loop.example/g00798/laws.FnQuery", spec := "fnQuery", inPlace := ["internal/abi.NoEscape", "internal/bytealg.MakeNoZero", "internal/reflectlite.TypeOf"], unfollowed := true, recurses := true, named := ["loop.example/g00798/impl.errTooLong", "loop.example/g00798/impl.errInvalid", "loop.example/g00798/impl.kindRules"], ifaces := true, apart := false, laid := [("loop.example/g00798/impl.kindRules", laid_loop_example_g00798_impl_kindRules), ("loop.example/g00798/impl.errTooLong", laid_loop_example_g00798_impl_errTooLong), ("loop.example/g00798/impl.errInvalid", laid_loop_example_g00798_impl_errInvalid)] }
def FnQuerySaid : Prop := fnQueryRow.holds Tryz.pinned (OpenSpec.ofChange fnQuerySpec)

/-- ITS FALSE NEIGHBOUR: 'it returns false'. Refute it at one input. -/
def fnQueryWrong : ChangeSpec := { name := "fnQuery", vars := ["loop.example/g00798/impl.errTooLong", "loop.example/g00798/impl.errInvalid", "loop.example/g00798/impl.kindRules"], fn := fun _ => fun
  | [d1, d2, g1, g2, g3] => { results := [.lit (.bool false)], args := [d1, d2], vars := [g1, g2, g3] }
  | _ => none }
def FnQueryWrongFalsely : Prop := fnQueryRow.holds Tryz.pinned (OpenSpec.ofChange fnQueryWrong)

/- THE SECOND FORM. 'bulk': how many values and letters a reading holds, each counted each time it is reached (what is shared counts as often as it is met; a slice's spare places count too). A statement '..UptoSaid' is the law's where the arguments, and the package variables that the reading takes, are together of bulk at most 1048576: NARROWER than '..Said'. Prove '..Said' where nothing that the law and all that it calls make is longer than what came in: it says more and counts as full. Else prove '..UptoSaid'. A law counts once. -/
mutual
def uptoBulk {H : Type} : DataW H → Nat
  | .lit (.string bytes) => bytes.length + 1
  | .lit _ => 1
  | .nil => 1
  | .ptr d => uptoBulk d + 1
  | .slice elems spare => uptoBulkAll elems + uptoBulkAll spare + 1
  | .agg parts => uptoBulkAll parts + 1
  | .iface _ d => uptoBulk d + 1
  | .map entries => uptoBulkEntries entries + 1
  | .held _ => 1
def uptoBulkAll {H : Type} : List (DataW H) → Nat
  | [] => 0
  | d :: r => uptoBulk d + uptoBulkAll r
def uptoBulkEntries {H : Type} : List (Lit × DataW H) → Nat
  | [] => 0
  | x :: r => uptoBulkEntry x + uptoBulkEntries r
def uptoBulkEntry {H : Type} : Lit × DataW H → Nat
  | (.string bytes, d) => bytes.length + uptoBulk d + 1
  | (_, d) => uptoBulk d + 1
 end
def uptoSmall : (H : Type) → List (DataW H) → Bool := fun _ ds => decide (uptoBulkAll ds ≤ 1048576)
def OpenSpec.upto (s : _root_.Go.ChangeSpec) : _root_.Go.OpenSpec := { _root_.Go.OpenSpec.ofChange s with cond := some uptoSmall }

/-- 'laws.FnBetween', WHERE WHAT IT READS IS OF BULK AT MOST 1048576: true; the input reads as it did. -/
def fnBetweenUptoRow : OpenClaim := { program := "ytibekkfbpmloiabgreatdoor", sum := "3faf5fdbd362341df687ecc9541a43a674713f3f318a422f269e76198236f6d6", func := "loop.example/g00798/laws.FnBetween", spec := "fnBetween", inPlace := ["slices.overlaps[*loop.example/g00798/impl.branch]", "internal/reflectlite.TypeOf", "internal/abi.NoEscape", "internal/bytealg.MakeNoZero"], unfollowed := true, recurses := true, named := ["loop.example/g00798/impl.errTooLong", "loop.example/g00798/impl.errInvalid", "loop.example/g00798/impl.kindRules"], ifaces := true, apart := false, laid := [("loop.example/g00798/impl.kindRules", laid_loop_example_g00798_impl_kindRules), ("loop.example/g00798/impl.errTooLong", laid_loop_example_g00798_impl_errTooLong), ("loop.example/g00798/impl.errInvalid", laid_loop_example_g00798_impl_errInvalid)], narrowed := true }
def FnBetweenUptoSaid : Prop := fnBetweenUptoRow.holds Tryz.pinned (OpenSpec.upto fnBetweenSpec)

/-- 'laws.FnUndo', WHERE WHAT IT READS IS OF BULK AT MOST 1048576: true; the input reads as it did. -/
def fnUndoUptoRow : OpenClaim := { program := "ytibekkfbpmloiabgreatdoor", sum := "3faf5fdbd362341df687ecc9541a43a674713f3f318a422f269e76198236f6d6", func := "loop.example/g00798/laws.FnUndo", spec := "fnUndo", inPlace := ["internal/abi.NoEscape", "internal/bytealg.MakeNoZero", "slices.overlaps[*loop.example/g00798/impl.branch]", "internal/reflectlite.TypeOf"], unfollowed := true, recurses := true, named := ["loop.example/g00798/impl.errTooLong", "loop.example/g00798/impl.kindRules", "loop.example/g00798/impl.errInvalid"], ifaces := true, apart := false, laid := [("loop.example/g00798/impl.kindRules", laid_loop_example_g00798_impl_kindRules), ("loop.example/g00798/impl.errTooLong", laid_loop_example_g00798_impl_errTooLong), ("loop.example/g00798/impl.errInvalid", laid_loop_example_g00798_impl_errInvalid)], narrowed := true }
def FnUndoUptoSaid : Prop := fnUndoUptoRow.holds Tryz.pinned (OpenSpec.upto fnUndoSpec)

/-- 'laws.FnOrder', WHERE WHAT IT READS IS OF BULK AT MOST 1048576: true; the input reads as it did. -/
def fnOrderUptoRow : OpenClaim := { program := "ytibekkfbpmloiabgreatdoor", sum := "3faf5fdbd362341df687ecc9541a43a674713f3f318a422f269e76198236f6d6", func := "loop.example/g00798/laws.FnOrder", spec := "fnOrder", inPlace := ["internal/abi.NoEscape", "internal/bytealg.MakeNoZero", "internal/reflectlite.TypeOf"], unfollowed := true, recurses := true, named := ["loop.example/g00798/impl.errTooLong", "loop.example/g00798/impl.errInvalid", "loop.example/g00798/impl.kindRules"], ifaces := true, apart := false, laid := [("loop.example/g00798/impl.kindRules", laid_loop_example_g00798_impl_kindRules), ("loop.example/g00798/impl.errTooLong", laid_loop_example_g00798_impl_errTooLong), ("loop.example/g00798/impl.errInvalid", laid_loop_example_g00798_impl_errInvalid)], narrowed := true }
def FnOrderUptoSaid : Prop := fnOrderUptoRow.holds Tryz.pinned (OpenSpec.upto fnOrderSpec)

/-- 'laws.FnMerge', WHERE WHAT IT READS IS OF BULK AT MOST 1048576: true; the input reads as it did. -/
def fnMergeUptoRow : OpenClaim := { program := "ytibekkfbpmloiabgreatdoor", sum := "3faf5fdbd362341df687ecc9541a43a674713f3f318a422f269e76198236f6d6", func := "loop.example/g00798/laws.FnMerge", spec := "fnMerge", inPlace := ["internal/abi.NoEscape", "internal/bytealg.MakeNoZero", "internal/reflectlite.TypeOf"], unfollowed := true, recurses := true, named := ["loop.example/g00798/impl.errTooLong", "loop.example/g00798/impl.errInvalid", "loop.example/g00798/impl.kindRules"], ifaces := true, apart := false, laid := [("loop.example/g00798/impl.kindRules", laid_loop_example_g00798_impl_kindRules), ("loop.example/g00798/impl.errTooLong", laid_loop_example_g00798_impl_errTooLong), ("loop.example/g00798/impl.errInvalid", laid_loop_example_g00798_impl_errInvalid)], narrowed := true }
def FnMergeUptoSaid : Prop := fnMergeUptoRow.holds Tryz.pinned (OpenSpec.upto fnMergeSpec)

/-- 'laws.FnReplaced', WHERE WHAT IT READS IS OF BULK AT MOST 1048576: true; the input reads as it did. -/
def fnReplacedUptoRow : OpenClaim := { program := "ytibekkfbpmloiabgreatdoor", sum := "3faf5fdbd362341df687ecc9541a43a674713f3f318a422f269e76198236f6d6", func := "loop.example/g00798/laws.FnReplaced", spec := "fnReplaced", inPlace := ["internal/abi.NoEscape", "internal/bytealg.MakeNoZero", "internal/reflectlite.TypeOf"], unfollowed := true, recurses := true, named := ["loop.example/g00798/impl.errTooLong", "loop.example/g00798/impl.errInvalid", "loop.example/g00798/impl.kindRules"], ifaces := true, apart := false, laid := [("loop.example/g00798/impl.kindRules", laid_loop_example_g00798_impl_kindRules), ("loop.example/g00798/impl.errTooLong", laid_loop_example_g00798_impl_errTooLong), ("loop.example/g00798/impl.errInvalid", laid_loop_example_g00798_impl_errInvalid)], narrowed := true }
def FnReplacedUptoSaid : Prop := fnReplacedUptoRow.holds Tryz.pinned (OpenSpec.upto fnReplacedSpec)

/-- 'laws.FnQuery', WHERE WHAT IT READS IS OF BULK AT MOST 1048576: true; the input reads as it did. -/
def fnQueryUptoRow : OpenClaim := { program := "ytibekkfbpmloiabgreatdoor", sum := "3faf5fdbd362341df687ecc9541a43a674713f3f318a422f269e76198236f6d6", func := "loop.example/g00798/laws.FnQuery", spec := "fnQuery", inPlace := ["internal/abi.NoEscape", "internal/bytealg.MakeNoZero", "internal/reflectlite.TypeOf"], unfollowed := true, recurses := true, named := ["loop.example/g00798/impl.errTooLong", "loop.example/g00798/impl.errInvalid", "loop.example/g00798/impl.kindRules"], ifaces := true, apart := false, laid := [("loop.example/g00798/impl.kindRules", laid_loop_example_g00798_impl_kindRules), ("loop.example/g00798/impl.errTooLong", laid_loop_example_g00798_impl_errTooLong), ("loop.example/g00798/impl.errInvalid", laid_loop_example_g00798_impl_errInvalid)], narrowed := true }
def FnQueryUptoSaid : Prop := fnQueryUptoRow.holds Tryz.pinned (OpenSpec.upto fnQuerySpec)

end Rows
end Go.Proofs.YtibekkfbpmloiabGreatDoor
