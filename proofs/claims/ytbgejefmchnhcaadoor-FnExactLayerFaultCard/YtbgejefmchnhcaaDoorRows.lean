/-
  NARROWER THAN 'FOR EVERY INPUT', by the rows' own cells (each row's printed sentence says how): FnExactLayerFault: ifaces, laid · FnExactLayerOK: ifaces, laid · FnExactFindRecord: ifaces, laid · FnExactCanonical: ifaces, laid · FnExactIsCanonical: ifaces, laid · FnExactSameLayer: ifaces, laid · FnExactUnderOpaque: ifaces, laid.
  DERIVED. THE GIVEN ROWS OF THIS SEAT. 7 by the template 'for every input the law returns true; each argument reads behind the call as it read before'; 0 by the template 'total and deterministic' (their statements: YtbgejefmchnhcaaDoorTotals.lean).
  GIVEN WITH THE SEED: the statements are not yours to turn. If you find one false, say at which input.
  Laid BY PROGRAM, IN A SANDBOX (cutbox-rows.mjs): the forced cells as the released guide's own fill.sh prints them over the translation 461be58e814443dd… (all of the seat's roots in one cut). By AI agents, Wed Nov 11 2026. No macro, syntax, notation, axiom, sorry.
-/
import Derived.Test.YtbgejefmchnhcaaDoorChecked
import GoSem.Claim
import GoSem.ClaimJoined
import GoSem.ClaimMapViews
import Derived.JoinedTies
import Derived.KernelRfl
namespace Go.Proofs.YtbgejefmchnhcaaDoor
/- THE CELL 'sum', in the pinned program and in every row, IS THE sha256 OF THE DUMP (.gsa) THAT YtbgejefmchnhcaaDoorProg.lean LOADS. Nothing in Lean hashes anything: it is a label: what it is worth is what the hold of that sum in a sandbox is worth. -/
noncomputable def Tryd.pinned : Pinned := { name := "ytbgejefmchnhcaadoor", sum := "461be58e814443ddf8e5ac040a23e613dfdc8b9f147e5787c5ae50f563db9de4", checked := Tryd.checked }
namespace Rows
def none {H : Type} : Left H := { results := [], args := [] }

/- WHAT THE LISTED PACKAGE-LEVEL VARIABLES READ AS WHEN THE CALL BEGINS. Each datum BY PROGRAM (the guide's laid-datum.mjs) off the statement by which the dump's own 'gosem.cut.vars' lays the variable. In a bare row this is a premise. The card (YtbgejefmchnhcaaDoorCards.lean) ties it to the program's text. -/
def laid_errors_errorType {H : Type} : DataW H := .iface "internal/reflectlite.rtype" (.agg [.ptr (.lit (.string [101, 114, 114, 111, 114]))])
def laid_loop_example_g00798_impl_kindRules {H : Type} : DataW H := .agg [.agg [.lit (.bool false), .lit (.bool false), .lit (.bool false), .lit (.bool false)], .agg [.lit (.bool true), .lit (.bool false), .lit (.bool true), .lit (.bool false)], .agg [.lit (.bool true), .lit (.bool true), .lit (.bool false), .lit (.bool false)], .agg [.lit (.bool false), .lit (.bool false), .lit (.bool true), .lit (.bool true)], .agg [.lit (.bool false), .lit (.bool false), .lit (.bool false), .lit (.bool false)]]
def laid_loop_example_g00798_impl_errTooLong {H : Type} : DataW H := .iface "*errors.errorString" (.ptr (.agg [.lit (.string [97, 110, 32, 97, 114, 103, 117, 109, 101, 110, 116, 32, 105, 115, 32, 116, 111, 111, 32, 108, 111, 110, 103])]))
def laid_loop_example_g00798_impl_errInvalid {H : Type} : DataW H := .iface "*errors.errorString" (.ptr (.agg [.lit (.string [97, 110, 32, 97, 114, 103, 117, 109, 101, 110, 116, 32, 105, 115, 32, 105, 110, 118, 97, 108, 105, 100])]))

/-- 'laws.FnExactLayerFault': WHATEVER THE INPUT: true; the input reads as it did. -/
def fnExactLayerFaultSpec : ChangeSpec := { name := "fnExactLayerFault", vars := ["loop.example/g00798/impl.errTooLong", "loop.example/g00798/impl.kindRules", "loop.example/g00798/impl.errInvalid"], fn := fun _ => fun
  | [d, g1, g2, g3] => { results := [.lit (.bool true)], args := [d], vars := [g1, g2, g3] }
  | _ => none }
def fnExactLayerFaultRow : OpenClaim := { program := "ytbgejefmchnhcaadoor", sum := "461be58e814443ddf8e5ac040a23e613dfdc8b9f147e5787c5ae50f563db9de4", func := "loop.example/g00798/laws.FnExactLayerFault", spec := "fnExactLayerFault", inPlace := ["internal/abi.NoEscape", "internal/bytealg.MakeNoZero", "internal/reflectlite.ValueOf", "(internal/reflectlite.Value).Type", "(internal/reflectlite.Value).IsNil", "internal/reflectlite.TypeOf", "(internal/reflectlite.Value).Elem", "(internal/reflectlite.Value).Set"], unfollowed := true, recurses := true, named := ["loop.example/g00798/impl.errTooLong", "loop.example/g00798/impl.kindRules", "errors.errorType", "loop.example/g00798/impl.errInvalid"], ifaces := true, apart := false, laid := [("errors.errorType", laid_errors_errorType), ("loop.example/g00798/impl.kindRules", laid_loop_example_g00798_impl_kindRules), ("loop.example/g00798/impl.errTooLong", laid_loop_example_g00798_impl_errTooLong), ("loop.example/g00798/impl.errInvalid", laid_loop_example_g00798_impl_errInvalid)] }
def FnExactLayerFaultSaid : Prop := fnExactLayerFaultRow.holds Tryd.pinned (OpenSpec.ofChange fnExactLayerFaultSpec)

/-- ITS FALSE NEIGHBOUR: 'it returns false'. Refute it at one input. -/
def fnExactLayerFaultWrong : ChangeSpec := { name := "fnExactLayerFault", vars := ["loop.example/g00798/impl.errTooLong", "loop.example/g00798/impl.kindRules", "loop.example/g00798/impl.errInvalid"], fn := fun _ => fun
  | [d, g1, g2, g3] => { results := [.lit (.bool false)], args := [d], vars := [g1, g2, g3] }
  | _ => none }
def FnExactLayerFaultWrongFalsely : Prop := fnExactLayerFaultRow.holds Tryd.pinned (OpenSpec.ofChange fnExactLayerFaultWrong)

/-- 'laws.FnExactLayerOK': WHATEVER THE INPUT: true; the input reads as it did. -/
def fnExactLayerOKSpec : ChangeSpec := { name := "fnExactLayerOK", vars := ["loop.example/g00798/impl.errTooLong", "loop.example/g00798/impl.kindRules"], fn := fun _ => fun
  | [d, g1, g2] => { results := [.lit (.bool true)], args := [d], vars := [g1, g2] }
  | _ => none }
def fnExactLayerOKRow : OpenClaim := { program := "ytbgejefmchnhcaadoor", sum := "461be58e814443ddf8e5ac040a23e613dfdc8b9f147e5787c5ae50f563db9de4", func := "loop.example/g00798/laws.FnExactLayerOK", spec := "fnExactLayerOK", inPlace := ["internal/abi.NoEscape", "internal/bytealg.MakeNoZero"], unfollowed := true, recurses := true, named := ["loop.example/g00798/impl.errTooLong", "loop.example/g00798/impl.kindRules"], ifaces := true, apart := false, laid := [("loop.example/g00798/impl.kindRules", laid_loop_example_g00798_impl_kindRules), ("loop.example/g00798/impl.errTooLong", laid_loop_example_g00798_impl_errTooLong)] }
def FnExactLayerOKSaid : Prop := fnExactLayerOKRow.holds Tryd.pinned (OpenSpec.ofChange fnExactLayerOKSpec)

/-- ITS FALSE NEIGHBOUR: 'it returns false'. Refute it at one input. -/
def fnExactLayerOKWrong : ChangeSpec := { name := "fnExactLayerOK", vars := ["loop.example/g00798/impl.errTooLong", "loop.example/g00798/impl.kindRules"], fn := fun _ => fun
  | [d, g1, g2] => { results := [.lit (.bool false)], args := [d], vars := [g1, g2] }
  | _ => none }
def FnExactLayerOKWrongFalsely : Prop := fnExactLayerOKRow.holds Tryd.pinned (OpenSpec.ofChange fnExactLayerOKWrong)

/-- 'laws.FnExactFindRecord': WHATEVER THE INPUT: true; the input reads as it did. -/
def fnExactFindRecordSpec : ChangeSpec := { name := "fnExactFindRecord", vars := ["loop.example/g00798/impl.errTooLong", "loop.example/g00798/impl.kindRules", "loop.example/g00798/impl.errInvalid"], fn := fun _ => fun
  | [d1, d2, g1, g2, g3] => { results := [.lit (.bool true)], args := [d1, d2], vars := [g1, g2, g3] }
  | _ => none }
def fnExactFindRecordRow : OpenClaim := { program := "ytbgejefmchnhcaadoor", sum := "461be58e814443ddf8e5ac040a23e613dfdc8b9f147e5787c5ae50f563db9de4", func := "loop.example/g00798/laws.FnExactFindRecord", spec := "fnExactFindRecord", inPlace := ["internal/abi.NoEscape", "internal/bytealg.MakeNoZero", "internal/reflectlite.TypeOf"], unfollowed := true, recurses := true, named := ["loop.example/g00798/impl.errTooLong", "loop.example/g00798/impl.kindRules", "loop.example/g00798/impl.errInvalid"], ifaces := true, apart := false, laid := [("loop.example/g00798/impl.kindRules", laid_loop_example_g00798_impl_kindRules), ("loop.example/g00798/impl.errTooLong", laid_loop_example_g00798_impl_errTooLong), ("loop.example/g00798/impl.errInvalid", laid_loop_example_g00798_impl_errInvalid)] }
def FnExactFindRecordSaid : Prop := fnExactFindRecordRow.holds Tryd.pinned (OpenSpec.ofChange fnExactFindRecordSpec)

/-- ITS FALSE NEIGHBOUR: 'it returns false'. Refute it at one input. -/
def fnExactFindRecordWrong : ChangeSpec := { name := "fnExactFindRecord", vars := ["loop.example/g00798/impl.errTooLong", "loop.example/g00798/impl.kindRules", "loop.example/g00798/impl.errInvalid"], fn := fun _ => fun
  | [d1, d2, g1, g2, g3] => { results := [.lit (.bool false)], args := [d1, d2], vars := [g1, g2, g3] }
  | _ => none }
def FnExactFindRecordWrongFalsely : Prop := fnExactFindRecordRow.holds Tryd.pinned (OpenSpec.ofChange fnExactFindRecordWrong)

/-- 'laws.FnExactCanonical': WHATEVER THE INPUT: true; the input reads as it did. -/
def fnExactCanonicalSpec : ChangeSpec := { name := "fnExactCanonical", vars := ["loop.example/g00798/impl.errTooLong", "loop.example/g00798/impl.kindRules", "loop.example/g00798/impl.errInvalid"], fn := fun _ => fun
  | [d, g1, g2, g3] => { results := [.lit (.bool true)], args := [d], vars := [g1, g2, g3] }
  | _ => none }
def fnExactCanonicalRow : OpenClaim := { program := "ytbgejefmchnhcaadoor", sum := "461be58e814443ddf8e5ac040a23e613dfdc8b9f147e5787c5ae50f563db9de4", func := "loop.example/g00798/laws.FnExactCanonical", spec := "fnExactCanonical", inPlace := ["internal/abi.NoEscape", "internal/bytealg.MakeNoZero", "internal/reflectlite.TypeOf"], unfollowed := true, recurses := true, named := ["loop.example/g00798/impl.errTooLong", "loop.example/g00798/impl.kindRules", "loop.example/g00798/impl.errInvalid"], ifaces := true, apart := false, laid := [("loop.example/g00798/impl.kindRules", laid_loop_example_g00798_impl_kindRules), ("loop.example/g00798/impl.errTooLong", laid_loop_example_g00798_impl_errTooLong), ("loop.example/g00798/impl.errInvalid", laid_loop_example_g00798_impl_errInvalid)] }
def FnExactCanonicalSaid : Prop := fnExactCanonicalRow.holds Tryd.pinned (OpenSpec.ofChange fnExactCanonicalSpec)

/-- ITS FALSE NEIGHBOUR: 'it returns false'. Refute it at one input. -/
def fnExactCanonicalWrong : ChangeSpec := { name := "fnExactCanonical", vars := ["loop.example/g00798/impl.errTooLong", "loop.example/g00798/impl.kindRules", "loop.example/g00798/impl.errInvalid"], fn := fun _ => fun
  | [d, g1, g2, g3] => { results := [.lit (.bool false)], args := [d], vars := [g1, g2, g3] }
  | _ => none }
def FnExactCanonicalWrongFalsely : Prop := fnExactCanonicalRow.holds Tryd.pinned (OpenSpec.ofChange fnExactCanonicalWrong)

/-- 'laws.FnExactIsCanonical': WHATEVER THE INPUT: true; the input reads as it did. -/
def fnExactIsCanonicalSpec : ChangeSpec := { name := "fnExactIsCanonical", vars := ["loop.example/g00798/impl.errTooLong", "loop.example/g00798/impl.kindRules", "loop.example/g00798/impl.errInvalid"], fn := fun _ => fun
  | [d, g1, g2, g3] => { results := [.lit (.bool true)], args := [d], vars := [g1, g2, g3] }
  | _ => none }
def fnExactIsCanonicalRow : OpenClaim := { program := "ytbgejefmchnhcaadoor", sum := "461be58e814443ddf8e5ac040a23e613dfdc8b9f147e5787c5ae50f563db9de4", func := "loop.example/g00798/laws.FnExactIsCanonical", spec := "fnExactIsCanonical", inPlace := ["internal/abi.NoEscape", "internal/bytealg.MakeNoZero", "internal/reflectlite.TypeOf"], unfollowed := true, recurses := true, named := ["loop.example/g00798/impl.errTooLong", "loop.example/g00798/impl.kindRules", "loop.example/g00798/impl.errInvalid"], ifaces := true, apart := false, laid := [("loop.example/g00798/impl.kindRules", laid_loop_example_g00798_impl_kindRules), ("loop.example/g00798/impl.errTooLong", laid_loop_example_g00798_impl_errTooLong), ("loop.example/g00798/impl.errInvalid", laid_loop_example_g00798_impl_errInvalid)] }
def FnExactIsCanonicalSaid : Prop := fnExactIsCanonicalRow.holds Tryd.pinned (OpenSpec.ofChange fnExactIsCanonicalSpec)

/-- ITS FALSE NEIGHBOUR: 'it returns false'. Refute it at one input. -/
def fnExactIsCanonicalWrong : ChangeSpec := { name := "fnExactIsCanonical", vars := ["loop.example/g00798/impl.errTooLong", "loop.example/g00798/impl.kindRules", "loop.example/g00798/impl.errInvalid"], fn := fun _ => fun
  | [d, g1, g2, g3] => { results := [.lit (.bool false)], args := [d], vars := [g1, g2, g3] }
  | _ => none }
def FnExactIsCanonicalWrongFalsely : Prop := fnExactIsCanonicalRow.holds Tryd.pinned (OpenSpec.ofChange fnExactIsCanonicalWrong)

/-- 'laws.FnExactSameLayer': WHATEVER THE INPUT: true; the input reads as it did. -/
def fnExactSameLayerSpec : ChangeSpec := { name := "fnExactSameLayer", vars := ["loop.example/g00798/impl.errTooLong", "loop.example/g00798/impl.kindRules"], fn := fun _ => fun
  | [d1, d2, g1, g2] => { results := [.lit (.bool true)], args := [d1, d2], vars := [g1, g2] }
  | _ => none }
def fnExactSameLayerRow : OpenClaim := { program := "ytbgejefmchnhcaadoor", sum := "461be58e814443ddf8e5ac040a23e613dfdc8b9f147e5787c5ae50f563db9de4", func := "loop.example/g00798/laws.FnExactSameLayer", spec := "fnExactSameLayer", inPlace := ["internal/abi.NoEscape", "internal/bytealg.MakeNoZero"], unfollowed := true, recurses := true, named := ["loop.example/g00798/impl.errTooLong", "loop.example/g00798/impl.kindRules"], ifaces := true, apart := false, laid := [("loop.example/g00798/impl.kindRules", laid_loop_example_g00798_impl_kindRules), ("loop.example/g00798/impl.errTooLong", laid_loop_example_g00798_impl_errTooLong)] }
def FnExactSameLayerSaid : Prop := fnExactSameLayerRow.holds Tryd.pinned (OpenSpec.ofChange fnExactSameLayerSpec)

/-- ITS FALSE NEIGHBOUR: 'it returns false'. Refute it at one input. -/
def fnExactSameLayerWrong : ChangeSpec := { name := "fnExactSameLayer", vars := ["loop.example/g00798/impl.errTooLong", "loop.example/g00798/impl.kindRules"], fn := fun _ => fun
  | [d1, d2, g1, g2] => { results := [.lit (.bool false)], args := [d1, d2], vars := [g1, g2] }
  | _ => none }
def FnExactSameLayerWrongFalsely : Prop := fnExactSameLayerRow.holds Tryd.pinned (OpenSpec.ofChange fnExactSameLayerWrong)

/-- 'laws.FnExactUnderOpaque': WHATEVER THE INPUT: true; the input reads as it did. -/
def fnExactUnderOpaqueSpec : ChangeSpec := { name := "fnExactUnderOpaque", vars := ["loop.example/g00798/impl.errTooLong", "loop.example/g00798/impl.kindRules", "loop.example/g00798/impl.errInvalid"], fn := fun _ => fun
  | [d1, d2, g1, g2, g3] => { results := [.lit (.bool true)], args := [d1, d2], vars := [g1, g2, g3] }
  | _ => none }
def fnExactUnderOpaqueRow : OpenClaim := { program := "ytbgejefmchnhcaadoor", sum := "461be58e814443ddf8e5ac040a23e613dfdc8b9f147e5787c5ae50f563db9de4", func := "loop.example/g00798/laws.FnExactUnderOpaque", spec := "fnExactUnderOpaque", inPlace := ["internal/abi.NoEscape", "internal/bytealg.MakeNoZero", "internal/reflectlite.TypeOf"], unfollowed := true, recurses := true, named := ["loop.example/g00798/impl.errTooLong", "loop.example/g00798/impl.kindRules", "loop.example/g00798/impl.errInvalid"], ifaces := true, apart := false, laid := [("loop.example/g00798/impl.kindRules", laid_loop_example_g00798_impl_kindRules), ("loop.example/g00798/impl.errTooLong", laid_loop_example_g00798_impl_errTooLong), ("loop.example/g00798/impl.errInvalid", laid_loop_example_g00798_impl_errInvalid)] }
def FnExactUnderOpaqueSaid : Prop := fnExactUnderOpaqueRow.holds Tryd.pinned (OpenSpec.ofChange fnExactUnderOpaqueSpec)

/-- ITS FALSE NEIGHBOUR: 'it returns false'. Refute it at one input. -/
def fnExactUnderOpaqueWrong : ChangeSpec := { name := "fnExactUnderOpaque", vars := ["loop.example/g00798/impl.errTooLong", "loop.example/g00798/impl.kindRules", "loop.example/g00798/impl.errInvalid"], fn := fun _ => fun
  | [d1, d2, g1, g2, g3] => { results := [.lit (.bool false)], args := [d1, d2], vars := [g1, g2, g3] }
  | _ => none }
def FnExactUnderOpaqueWrongFalsely : Prop := fnExactUnderOpaqueRow.holds Tryd.pinned (OpenSpec.ofChange fnExactUnderOpaqueWrong)

/- THE SECOND FORM. 'bulk': how many values and letters a reading holds, each counted each time it is reached (what is shared counts as often as it is met; a slice's spare places count too). A statement '..UptoSaid' is the law's where the arguments, and the package variables that the reading takes, are together of bulk at most 1048576: NARROWER than '..Said'. Prove '..Said' where nothing that the law and all that it calls make is longer than what came in: it says more and counts as full. Else prove '..UptoSaid'. A law counts once. -/
mutual
def uptoBulk {H : Type} : DataW H → Nat
  | .lit (.string bytes) => bytes.length + 1
  | .lit _ => 1
  | .nil => 1
  | .ptr d => uptoBulk d + 1
  | .slice elems spare => uptoBulkAll elems + uptoBulkAll spare + 1
  | .agg parts => uptoBulkAll parts + 1
  | .iface _ d => uptoBulk d + 1
  | .map entries => uptoBulkEntries entries + 1
  | .held _ => 1
def uptoBulkAll {H : Type} : List (DataW H) → Nat
  | [] => 0
  | d :: r => uptoBulk d + uptoBulkAll r
def uptoBulkEntries {H : Type} : List (Lit × DataW H) → Nat
  | [] => 0
  | x :: r => uptoBulkEntry x + uptoBulkEntries r
def uptoBulkEntry {H : Type} : Lit × DataW H → Nat
  | (.string bytes, d) => bytes.length + uptoBulk d + 1
  | (_, d) => uptoBulk d + 1
 end
def uptoSmall : (H : Type) → List (DataW H) → Bool := fun _ ds => decide (uptoBulkAll ds ≤ 1048576)
def OpenSpec.upto (s : _root_.Go.ChangeSpec) : _root_.Go.OpenSpec := { _root_.Go.OpenSpec.ofChange s with cond := some uptoSmall }

/-- 'laws.FnExactLayerFault', WHERE WHAT IT READS IS OF BULK AT MOST 1048576: true; the input reads as it did. -/
def fnExactLayerFaultUptoRow : OpenClaim := { program := "ytbgejefmchnhcaadoor", sum := "461be58e814443ddf8e5ac040a23e613dfdc8b9f147e5787c5ae50f563db9de4", func := "loop.example/g00798/laws.FnExactLayerFault", spec := "fnExactLayerFault", inPlace := ["internal/abi.NoEscape", "internal/bytealg.MakeNoZero", "internal/reflectlite.ValueOf", "(internal/reflectlite.Value).Type", "(internal/reflectlite.Value).IsNil", "internal/reflectlite.TypeOf", "(internal/reflectlite.Value).Elem", "(internal/reflectlite.Value).Set"], unfollowed := true, recurses := true, named := ["loop.example/g00798/impl.errTooLong", "loop.example/g00798/impl.kindRules", "errors.errorType", "loop.example/g00798/impl.errInvalid"], ifaces := true, apart := false, laid := [("errors.errorType", laid_errors_errorType), ("loop.example/g00798/impl.kindRules", laid_loop_example_g00798_impl_kindRules), ("loop.example/g00798/impl.errTooLong", laid_loop_example_g00798_impl_errTooLong), ("loop.example/g00798/impl.errInvalid", laid_loop_example_g00798_impl_errInvalid)], narrowed := true }
def FnExactLayerFaultUptoSaid : Prop := fnExactLayerFaultUptoRow.holds Tryd.pinned (OpenSpec.upto fnExactLayerFaultSpec)

/-- 'laws.FnExactLayerOK', WHERE WHAT IT READS IS OF BULK AT MOST 1048576: true; the input reads as it did. -/
def fnExactLayerOKUptoRow : OpenClaim := { program := "ytbgejefmchnhcaadoor", sum := "461be58e814443ddf8e5ac040a23e613dfdc8b9f147e5787c5ae50f563db9de4", func := "loop.example/g00798/laws.FnExactLayerOK", spec := "fnExactLayerOK", inPlace := ["internal/abi.NoEscape", "internal/bytealg.MakeNoZero"], unfollowed := true, recurses := true, named := ["loop.example/g00798/impl.errTooLong", "loop.example/g00798/impl.kindRules"], ifaces := true, apart := false, laid := [("loop.example/g00798/impl.kindRules", laid_loop_example_g00798_impl_kindRules), ("loop.example/g00798/impl.errTooLong", laid_loop_example_g00798_impl_errTooLong)], narrowed := true }
def FnExactLayerOKUptoSaid : Prop := fnExactLayerOKUptoRow.holds Tryd.pinned (OpenSpec.upto fnExactLayerOKSpec)

/-- 'laws.FnExactFindRecord', WHERE WHAT IT READS IS OF BULK AT MOST 1048576: true; the input reads as it did. -/
def fnExactFindRecordUptoRow : OpenClaim := { program := "ytbgejefmchnhcaadoor", sum := "461be58e814443ddf8e5ac040a23e613dfdc8b9f147e5787c5ae50f563db9de4", func := "loop.example/g00798/laws.FnExactFindRecord", spec := "fnExactFindRecord", inPlace := ["internal/abi.NoEscape", "internal/bytealg.MakeNoZero", "internal/reflectlite.TypeOf"], unfollowed := true, recurses := true, named := ["loop.example/g00798/impl.errTooLong", "loop.example/g00798/impl.kindRules", "loop.example/g00798/impl.errInvalid"], ifaces := true, apart := false, laid := [("loop.example/g00798/impl.kindRules", laid_loop_example_g00798_impl_kindRules), ("loop.example/g00798/impl.errTooLong", laid_loop_example_g00798_impl_errTooLong), ("loop.example/g00798/impl.errInvalid", laid_loop_example_g00798_impl_errInvalid)], narrowed := true }
def FnExactFindRecordUptoSaid : Prop := fnExactFindRecordUptoRow.holds Tryd.pinned (OpenSpec.upto fnExactFindRecordSpec)

/-- 'laws.FnExactCanonical', WHERE WHAT IT READS IS OF BULK AT MOST 1048576: true; the input reads as it did. -/
def fnExactCanonicalUptoRow : OpenClaim := { program := "ytbgejefmchnhcaadoor", sum := "461be58e814443ddf8e5ac040a23e613dfdc8b9f147e5787c5ae50f563db9de4", func := "loop.example/g00798/laws.FnExactCanonical", spec := "fnExactCanonical", inPlace := ["internal/abi.NoEscape", "internal/bytealg.MakeNoZero", "internal/reflectlite.TypeOf"], unfollowed := true, recurses := true, named := ["loop.example/g00798/impl.errTooLong", "loop.example/g00798/impl.kindRules", "loop.example/g00798/impl.errInvalid"], ifaces := true, apart := false, laid := [("loop.example/g00798/impl.kindRules", laid_loop_example_g00798_impl_kindRules), ("loop.example/g00798/impl.errTooLong", laid_loop_example_g00798_impl_errTooLong), ("loop.example/g00798/impl.errInvalid", laid_loop_example_g00798_impl_errInvalid)], narrowed := true }
def FnExactCanonicalUptoSaid : Prop := fnExactCanonicalUptoRow.holds Tryd.pinned (OpenSpec.upto fnExactCanonicalSpec)

/-- 'laws.FnExactIsCanonical', WHERE WHAT IT READS IS OF BULK AT MOST 1048576: true; the input reads as it did. -/
def fnExactIsCanonicalUptoRow : OpenClaim := { program := "ytbgejefmchnhcaadoor", sum := "461be58e814443ddf8e5ac040a23e613dfdc8b9f147e5787c5ae50f563db9de4", func := "loop.example/g00798/laws.FnExactIsCanonical", spec := "fnExactIsCanonical", inPlace := ["internal/abi.NoEscape", "internal/bytealg.MakeNoZero", "internal/reflectlite.TypeOf"], unfollowed := true, recurses := true, named := ["loop.example/g00798/impl.errTooLong", "loop.example/g00798/impl.kindRules", "loop.example/g00798/impl.errInvalid"], ifaces := true, apart := false, laid := [("loop.example/g00798/impl.kindRules", laid_loop_example_g00798_impl_kindRules), ("loop.example/g00798/impl.errTooLong", laid_loop_example_g00798_impl_errTooLong), ("loop.example/g00798/impl.errInvalid", laid_loop_example_g00798_impl_errInvalid)], narrowed := true }
def FnExactIsCanonicalUptoSaid : Prop := fnExactIsCanonicalUptoRow.holds Tryd.pinned (OpenSpec.upto fnExactIsCanonicalSpec)

/-- 'laws.FnExactSameLayer', WHERE WHAT IT READS IS OF BULK AT MOST 1048576: true; the input reads as it did. -/
def fnExactSameLayerUptoRow : OpenClaim := { program := "ytbgejefmchnhcaadoor", sum := "461be58e814443ddf8e5ac040a23e613dfdc8b9f147e5787c5ae50f563db9de4", func := "loop.example/g00798/laws.FnExactSameLayer", spec := "fnExactSameLayer", inPlace := ["internal/abi.NoEscape", "internal/bytealg.MakeNoZero"], unfollowed := true, recurses := true, named := ["loop.example/g00798/impl.errTooLong", "loop.example/g00798/impl.kindRules"], ifaces := true, apart := false, laid := [("loop.example/g00798/impl.kindRules", laid_loop_example_g00798_impl_kindRules), ("loop.example/g00798/impl.errTooLong", laid_loop_example_g00798_impl_errTooLong)], narrowed := true }
def FnExactSameLayerUptoSaid : Prop := fnExactSameLayerUptoRow.holds Tryd.pinned (OpenSpec.upto fnExactSameLayerSpec)

/-- 'laws.FnExactUnderOpaque', WHERE WHAT IT READS IS OF BULK AT MOST 1048576: true; the input reads as it did. -/
def fnExactUnderOpaqueUptoRow : OpenClaim := { program := "ytbgejefmchnhcaadoor", sum := "461be58e814443ddf8e5ac040a23e613dfdc8b9f147e5787c5ae50f563db9de4", func := "loop.example/g00798/laws.FnExactUnderOpaque", spec := "fnExactUnderOpaque", inPlace := ["internal/abi.NoEscape", "internal/bytealg.MakeNoZero", "internal/reflectlite.TypeOf"], unfollowed := true, recurses := true, named := ["loop.example/g00798/impl.errTooLong", "loop.example/g00798/impl.kindRules", "loop.example/g00798/impl.errInvalid"], ifaces := true, apart := false, laid := [("loop.example/g00798/impl.kindRules", laid_loop_example_g00798_impl_kindRules), ("loop.example/g00798/impl.errTooLong", laid_loop_example_g00798_impl_errTooLong), ("loop.example/g00798/impl.errInvalid", laid_loop_example_g00798_impl_errInvalid)], narrowed := true }
def FnExactUnderOpaqueUptoSaid : Prop := fnExactUnderOpaqueUptoRow.holds Tryd.pinned (OpenSpec.upto fnExactUnderOpaqueSpec)

end Rows
end Go.Proofs.YtbgejefmchnhcaaDoor
