/-
  NARROWER THAN 'FOR EVERY INPUT', by the rows' own cells (each row's printed sentence says how): FnTrees: ifaces, laid · FnApply: ifaces, laid · FnExactApply: ifaces, laid · FnExactApplyAll: ifaces, laid · FnExactViewOf: ifaces, laid · FnExactWitness: ifaces, laid · FnExactChanges: ifaces, laid.
  DERIVED. THE GIVEN ROWS OF THIS SEAT. 7 by the template 'for every input the law returns true; each argument reads behind the call as it read before'; 0 by the template 'total and deterministic' (their statements: YtjiljnfiofmpaaaGreatDoorTotals.lean).
  GIVEN WITH THE SEED: the statements are not yours to turn. If you find one false, say at which input.
  Laid BY PROGRAM, IN A SANDBOX (cutbox-rows.mjs): the forced cells as the released guide's own fill.sh prints them over the translation 327ed1e7d9b6600c… (all of the seat's roots in one cut). By AI agents, Wed Nov 11 2026. No macro, syntax, notation, axiom, sorry.
-/
import Derived.Test.YtjiljnfiofmpaaaGreatDoorChecked
import GoSem.Claim
import GoSem.ClaimJoined
import GoSem.ClaimMapViews
import Derived.JoinedTies
import Derived.KernelRfl
namespace Go.Proofs.YtjiljnfiofmpaaaGreatDoor
/- THE CELL 'sum', in the pinned program and in every row, IS THE sha256 OF THE DUMP (.gsa) THAT YtjiljnfiofmpaaaGreatDoorProg.lean LOADS. Nothing in Lean hashes anything: it is a label: what it is worth is what the hold of that sum in a sandbox is worth. -/
noncomputable def Tryz.pinned : Pinned := { name := "ytjiljnfiofmpaaagreatdoor", sum := "327ed1e7d9b6600c491fa1d354724923ff3db8c5e38cd185562296aab5577597", checked := Tryz.checked }
namespace Rows
def none {H : Type} : Left H := { results := [], args := [] }

/- WHAT THE LISTED PACKAGE-LEVEL VARIABLES READ AS WHEN THE CALL BEGINS. Each datum BY PROGRAM (the guide's laid-datum.mjs) off the statement by which the dump's own 'gosem.cut.vars' lays the variable. In a bare row this is a premise. The card (YtjiljnfiofmpaaaGreatDoorCards.lean) ties it to the program's text. -/
def laid_loop_example_g00798_impl_kindRules {H : Type} : DataW H := .agg [.agg [.lit (.bool false), .lit (.bool false), .lit (.bool false), .lit (.bool false)], .agg [.lit (.bool true), .lit (.bool false), .lit (.bool true), .lit (.bool false)], .agg [.lit (.bool true), .lit (.bool true), .lit (.bool false), .lit (.bool false)], .agg [.lit (.bool false), .lit (.bool false), .lit (.bool true), .lit (.bool true)], .agg [.lit (.bool false), .lit (.bool false), .lit (.bool false), .lit (.bool false)]]
def laid_loop_example_g00798_impl_errTooLong {H : Type} : DataW H := .iface "*errors.errorString" (.ptr (.agg [.lit (.string [97, 110, 32, 97, 114, 103, 117, 109, 101, 110, 116, 32, 105, 115, 32, 116, 111, 111, 32, 108, 111, 110, 103])]))
def laid_loop_example_g00798_impl_errInvalid {H : Type} : DataW H := .iface "*errors.errorString" (.ptr (.agg [.lit (.string [97, 110, 32, 97, 114, 103, 117, 109, 101, 110, 116, 32, 105, 115, 32, 105, 110, 118, 97, 108, 105, 100])]))
def laid_math_bits_deBruijn32tab {H : Type} : DataW H := .agg [.lit (.int .u8 0), .lit (.int .u8 1), .lit (.int .u8 28), .lit (.int .u8 2), .lit (.int .u8 29), .lit (.int .u8 14), .lit (.int .u8 24), .lit (.int .u8 3), .lit (.int .u8 30), .lit (.int .u8 22), .lit (.int .u8 20), .lit (.int .u8 15), .lit (.int .u8 25), .lit (.int .u8 17), .lit (.int .u8 4), .lit (.int .u8 8), .lit (.int .u8 31), .lit (.int .u8 27), .lit (.int .u8 13), .lit (.int .u8 23), .lit (.int .u8 21), .lit (.int .u8 19), .lit (.int .u8 16), .lit (.int .u8 7), .lit (.int .u8 26), .lit (.int .u8 12), .lit (.int .u8 18), .lit (.int .u8 6), .lit (.int .u8 11), .lit (.int .u8 5), .lit (.int .u8 10), .lit (.int .u8 9)]
def laid_math_bits_deBruijn64tab {H : Type} : DataW H := .agg [.lit (.int .u8 0), .lit (.int .u8 1), .lit (.int .u8 56), .lit (.int .u8 2), .lit (.int .u8 57), .lit (.int .u8 49), .lit (.int .u8 28), .lit (.int .u8 3), .lit (.int .u8 61), .lit (.int .u8 58), .lit (.int .u8 42), .lit (.int .u8 50), .lit (.int .u8 38), .lit (.int .u8 29), .lit (.int .u8 17), .lit (.int .u8 4), .lit (.int .u8 62), .lit (.int .u8 47), .lit (.int .u8 59), .lit (.int .u8 36), .lit (.int .u8 45), .lit (.int .u8 43), .lit (.int .u8 51), .lit (.int .u8 22), .lit (.int .u8 53), .lit (.int .u8 39), .lit (.int .u8 33), .lit (.int .u8 30), .lit (.int .u8 24), .lit (.int .u8 18), .lit (.int .u8 12), .lit (.int .u8 5), .lit (.int .u8 63), .lit (.int .u8 55), .lit (.int .u8 48), .lit (.int .u8 27), .lit (.int .u8 60), .lit (.int .u8 41), .lit (.int .u8 37), .lit (.int .u8 16), .lit (.int .u8 46), .lit (.int .u8 35), .lit (.int .u8 44), .lit (.int .u8 21), .lit (.int .u8 52), .lit (.int .u8 32), .lit (.int .u8 23), .lit (.int .u8 11), .lit (.int .u8 54), .lit (.int .u8 26), .lit (.int .u8 40), .lit (.int .u8 15), .lit (.int .u8 34), .lit (.int .u8 20), .lit (.int .u8 31), .lit (.int .u8 10), .lit (.int .u8 25), .lit (.int .u8 14), .lit (.int .u8 19), .lit (.int .u8 9), .lit (.int .u8 13), .lit (.int .u8 8), .lit (.int .u8 7), .lit (.int .u8 6)]
def laid_internal_strconv_uint64pow10 {H : Type} : DataW H := .agg [.lit (.int .u64 1), .lit (.int .u64 10), .lit (.int .u64 100), .lit (.int .u64 1000), .lit (.int .u64 10000), .lit (.int .u64 100000), .lit (.int .u64 1000000), .lit (.int .u64 10000000), .lit (.int .u64 100000000), .lit (.int .u64 1000000000), .lit (.int .u64 10000000000), .lit (.int .u64 100000000000), .lit (.int .u64 1000000000000), .lit (.int .u64 10000000000000), .lit (.int .u64 100000000000000), .lit (.int .u64 1000000000000000), .lit (.int .u64 10000000000000000), .lit (.int .u64 100000000000000000), .lit (.int .u64 1000000000000000000), .lit (.int .u64 10000000000000000000)]

/-- 'laws.FnTrees': WHATEVER THE INPUT: true; the input reads as it did. -/
def fnTreesSpec : ChangeSpec := { name := "fnTrees", vars := ["loop.example/g00798/impl.errTooLong", "loop.example/g00798/impl.errInvalid", "loop.example/g00798/impl.kindRules"], fn := fun _ => fun
  | [d1, d2, g1, g2, g3] => { results := [.lit (.bool true)], args := [d1, d2], vars := [g1, g2, g3] }
  | _ => none }
def fnTreesRow : OpenClaim := { program := "ytjiljnfiofmpaaagreatdoor", sum := "327ed1e7d9b6600c491fa1d354724923ff3db8c5e38cd185562296aab5577597", func := "loop.example/g00798/laws.FnTrees", spec := "fnTrees", inPlace := ["slices.overlaps[*loop.example/g00798/impl.branch]", "internal/reflectlite.TypeOf", "internal/abi.NoEscape", "internal/bytealg.MakeNoZero"], unfollowed := true, recurses := true, named := ["loop.example/g00798/impl.errTooLong", "loop.example/g00798/impl.errInvalid", "loop.example/g00798/impl.kindRules"], ifaces := true, apart := false, laid := [("loop.example/g00798/impl.kindRules", laid_loop_example_g00798_impl_kindRules), ("loop.example/g00798/impl.errTooLong", laid_loop_example_g00798_impl_errTooLong), ("loop.example/g00798/impl.errInvalid", laid_loop_example_g00798_impl_errInvalid)] }
def FnTreesSaid : Prop := fnTreesRow.holds Tryz.pinned (OpenSpec.ofChange fnTreesSpec)

/-- ITS FALSE NEIGHBOUR: 'it returns false'. Refute it at one input. -/
def fnTreesWrong : ChangeSpec := { name := "fnTrees", vars := ["loop.example/g00798/impl.errTooLong", "loop.example/g00798/impl.errInvalid", "loop.example/g00798/impl.kindRules"], fn := fun _ => fun
  | [d1, d2, g1, g2, g3] => { results := [.lit (.bool false)], args := [d1, d2], vars := [g1, g2, g3] }
  | _ => none }
def FnTreesWrongFalsely : Prop := fnTreesRow.holds Tryz.pinned (OpenSpec.ofChange fnTreesWrong)

/-- 'laws.FnApply': WHATEVER THE INPUT: true; the input reads as it did. -/
def fnApplySpec : ChangeSpec := { name := "fnApply", vars := ["loop.example/g00798/impl.errTooLong", "loop.example/g00798/impl.kindRules", "loop.example/g00798/impl.errInvalid"], fn := fun _ => fun
  | [d1, d2, g1, g2, g3] => { results := [.lit (.bool true)], args := [d1, d2], vars := [g1, g2, g3] }
  | _ => none }
def fnApplyRow : OpenClaim := { program := "ytjiljnfiofmpaaagreatdoor", sum := "327ed1e7d9b6600c491fa1d354724923ff3db8c5e38cd185562296aab5577597", func := "loop.example/g00798/laws.FnApply", spec := "fnApply", inPlace := ["internal/abi.NoEscape", "internal/bytealg.MakeNoZero", "slices.overlaps[*loop.example/g00798/impl.branch]", "internal/reflectlite.TypeOf"], unfollowed := true, recurses := true, named := ["loop.example/g00798/impl.errTooLong", "loop.example/g00798/impl.kindRules", "loop.example/g00798/impl.errInvalid"], ifaces := true, apart := false, laid := [("loop.example/g00798/impl.kindRules", laid_loop_example_g00798_impl_kindRules), ("loop.example/g00798/impl.errTooLong", laid_loop_example_g00798_impl_errTooLong), ("loop.example/g00798/impl.errInvalid", laid_loop_example_g00798_impl_errInvalid)] }
def FnApplySaid : Prop := fnApplyRow.holds Tryz.pinned (OpenSpec.ofChange fnApplySpec)

/-- ITS FALSE NEIGHBOUR: 'it returns false'. Refute it at one input. -/
def fnApplyWrong : ChangeSpec := { name := "fnApply", vars := ["loop.example/g00798/impl.errTooLong", "loop.example/g00798/impl.kindRules", "loop.example/g00798/impl.errInvalid"], fn := fun _ => fun
  | [d1, d2, g1, g2, g3] => { results := [.lit (.bool false)], args := [d1, d2], vars := [g1, g2, g3] }
  | _ => none }
def FnApplyWrongFalsely : Prop := fnApplyRow.holds Tryz.pinned (OpenSpec.ofChange fnApplyWrong)

/-- 'laws.FnExactApply': WHATEVER THE INPUT: true; the input reads as it did. -/
def fnExactApplySpec : ChangeSpec := { name := "fnExactApply", vars := ["loop.example/g00798/impl.errTooLong", "loop.example/g00798/impl.kindRules", "loop.example/g00798/impl.errInvalid"], fn := fun _ => fun
  | [d1, d2, g1, g2, g3] => { results := [.lit (.bool true)], args := [d1, d2], vars := [g1, g2, g3] }
  | _ => none }
def fnExactApplyRow : OpenClaim := { program := "ytjiljnfiofmpaaagreatdoor", sum := "327ed1e7d9b6600c491fa1d354724923ff3db8c5e38cd185562296aab5577597", func := "loop.example/g00798/laws.FnExactApply", spec := "fnExactApply", inPlace := ["internal/abi.NoEscape", "internal/bytealg.MakeNoZero", "slices.overlaps[*loop.example/g00798/impl.branch]", "internal/reflectlite.TypeOf"], unfollowed := true, recurses := true, named := ["loop.example/g00798/impl.errTooLong", "loop.example/g00798/impl.kindRules", "loop.example/g00798/impl.errInvalid"], ifaces := true, apart := false, laid := [("loop.example/g00798/impl.kindRules", laid_loop_example_g00798_impl_kindRules), ("loop.example/g00798/impl.errTooLong", laid_loop_example_g00798_impl_errTooLong), ("loop.example/g00798/impl.errInvalid", laid_loop_example_g00798_impl_errInvalid)] }
def FnExactApplySaid : Prop := fnExactApplyRow.holds Tryz.pinned (OpenSpec.ofChange fnExactApplySpec)

/-- ITS FALSE NEIGHBOUR: 'it returns false'. Refute it at one input. -/
def fnExactApplyWrong : ChangeSpec := { name := "fnExactApply", vars := ["loop.example/g00798/impl.errTooLong", "loop.example/g00798/impl.kindRules", "loop.example/g00798/impl.errInvalid"], fn := fun _ => fun
  | [d1, d2, g1, g2, g3] => { results := [.lit (.bool false)], args := [d1, d2], vars := [g1, g2, g3] }
  | _ => none }
def FnExactApplyWrongFalsely : Prop := fnExactApplyRow.holds Tryz.pinned (OpenSpec.ofChange fnExactApplyWrong)

/-- 'laws.FnExactApplyAll': WHATEVER THE INPUT: true; the input reads as it did. -/
def fnExactApplyAllSpec : ChangeSpec := { name := "fnExactApplyAll", vars := ["loop.example/g00798/impl.errTooLong", "loop.example/g00798/impl.errInvalid", "loop.example/g00798/impl.kindRules"], fn := fun _ => fun
  | [d1, d2, g1, g2, g3] => { results := [.lit (.bool true)], args := [d1, d2], vars := [g1, g2, g3] }
  | _ => none }
def fnExactApplyAllRow : OpenClaim := { program := "ytjiljnfiofmpaaagreatdoor", sum := "327ed1e7d9b6600c491fa1d354724923ff3db8c5e38cd185562296aab5577597", func := "loop.example/g00798/laws.FnExactApplyAll", spec := "fnExactApplyAll", inPlace := ["internal/abi.NoEscape", "internal/bytealg.MakeNoZero", "slices.overlaps[*loop.example/g00798/impl.branch]", "internal/reflectlite.TypeOf"], unfollowed := true, recurses := true, named := ["loop.example/g00798/impl.errTooLong", "loop.example/g00798/impl.errInvalid", "loop.example/g00798/impl.kindRules"], ifaces := true, apart := false, laid := [("loop.example/g00798/impl.kindRules", laid_loop_example_g00798_impl_kindRules), ("loop.example/g00798/impl.errTooLong", laid_loop_example_g00798_impl_errTooLong), ("loop.example/g00798/impl.errInvalid", laid_loop_example_g00798_impl_errInvalid)] }
def FnExactApplyAllSaid : Prop := fnExactApplyAllRow.holds Tryz.pinned (OpenSpec.ofChange fnExactApplyAllSpec)

/-- ITS FALSE NEIGHBOUR: 'it returns false'. Refute it at one input. -/
def fnExactApplyAllWrong : ChangeSpec := { name := "fnExactApplyAll", vars := ["loop.example/g00798/impl.errTooLong", "loop.example/g00798/impl.errInvalid", "loop.example/g00798/impl.kindRules"], fn := fun _ => fun
  | [d1, d2, g1, g2, g3] => { results := [.lit (.bool false)], args := [d1, d2], vars := [g1, g2, g3] }
  | _ => none }
def FnExactApplyAllWrongFalsely : Prop := fnExactApplyAllRow.holds Tryz.pinned (OpenSpec.ofChange fnExactApplyAllWrong)

/-- 'laws.FnExactViewOf': WHATEVER THE INPUT: true; the input reads as it did. -/
def fnExactViewOfSpec : ChangeSpec := { name := "fnExactViewOf", vars := ["loop.example/g00798/impl.errTooLong", "loop.example/g00798/impl.errInvalid", "loop.example/g00798/impl.kindRules"], fn := fun _ => fun
  | [d, g1, g2, g3] => { results := [.lit (.bool true)], args := [d], vars := [g1, g2, g3] }
  | _ => none }
def fnExactViewOfRow : OpenClaim := { program := "ytjiljnfiofmpaaagreatdoor", sum := "327ed1e7d9b6600c491fa1d354724923ff3db8c5e38cd185562296aab5577597", func := "loop.example/g00798/laws.FnExactViewOf", spec := "fnExactViewOf", inPlace := ["internal/abi.NoEscape", "internal/bytealg.MakeNoZero", "internal/reflectlite.TypeOf"], unfollowed := true, recurses := true, named := ["loop.example/g00798/impl.errTooLong", "loop.example/g00798/impl.errInvalid", "loop.example/g00798/impl.kindRules"], ifaces := true, apart := false, laid := [("loop.example/g00798/impl.kindRules", laid_loop_example_g00798_impl_kindRules), ("loop.example/g00798/impl.errTooLong", laid_loop_example_g00798_impl_errTooLong), ("loop.example/g00798/impl.errInvalid", laid_loop_example_g00798_impl_errInvalid)] }
def FnExactViewOfSaid : Prop := fnExactViewOfRow.holds Tryz.pinned (OpenSpec.ofChange fnExactViewOfSpec)

/-- ITS FALSE NEIGHBOUR: 'it returns false'. Refute it at one input. -/
def fnExactViewOfWrong : ChangeSpec := { name := "fnExactViewOf", vars := ["loop.example/g00798/impl.errTooLong", "loop.example/g00798/impl.errInvalid", "loop.example/g00798/impl.kindRules"], fn := fun _ => fun
  | [d, g1, g2, g3] => { results := [.lit (.bool false)], args := [d], vars := [g1, g2, g3] }
  | _ => none }
def FnExactViewOfWrongFalsely : Prop := fnExactViewOfRow.holds Tryz.pinned (OpenSpec.ofChange fnExactViewOfWrong)

/-- 'laws.FnExactWitness': WHATEVER THE INPUT: true; the input reads as it did. -/
def fnExactWitnessSpec : ChangeSpec := { name := "fnExactWitness", vars := ["loop.example/g00798/impl.errTooLong", "loop.example/g00798/impl.kindRules", "loop.example/g00798/impl.errInvalid"], fn := fun _ => fun
  | [d1, d2, g1, g2, g3] => { results := [.lit (.bool true)], args := [d1, d2], vars := [g1, g2, g3] }
  | _ => none }
def fnExactWitnessRow : OpenClaim := { program := "ytjiljnfiofmpaaagreatdoor", sum := "327ed1e7d9b6600c491fa1d354724923ff3db8c5e38cd185562296aab5577597", func := "loop.example/g00798/laws.FnExactWitness", spec := "fnExactWitness", inPlace := ["internal/abi.NoEscape", "internal/bytealg.MakeNoZero", "internal/reflectlite.TypeOf"], unfollowed := true, recurses := true, named := ["loop.example/g00798/impl.errTooLong", "loop.example/g00798/impl.kindRules", "loop.example/g00798/impl.errInvalid", "internal/strconv.uint64pow10", "math/bits.deBruijn32tab", "math/bits.deBruijn64tab"], ifaces := true, apart := false, laid := [("math/bits.deBruijn32tab", laid_math_bits_deBruijn32tab), ("math/bits.deBruijn64tab", laid_math_bits_deBruijn64tab), ("internal/strconv.uint64pow10", laid_internal_strconv_uint64pow10), ("loop.example/g00798/impl.kindRules", laid_loop_example_g00798_impl_kindRules), ("loop.example/g00798/impl.errTooLong", laid_loop_example_g00798_impl_errTooLong), ("loop.example/g00798/impl.errInvalid", laid_loop_example_g00798_impl_errInvalid)] }
def FnExactWitnessSaid : Prop := fnExactWitnessRow.holds Tryz.pinned (OpenSpec.ofChange fnExactWitnessSpec)

/-- ITS FALSE NEIGHBOUR: 'it returns false'. Refute it at one input. -/
def fnExactWitnessWrong : ChangeSpec := { name := "fnExactWitness", vars := ["loop.example/g00798/impl.errTooLong", "loop.example/g00798/impl.kindRules", "loop.example/g00798/impl.errInvalid"], fn := fun _ => fun
  | [d1, d2, g1, g2, g3] => { results := [.lit (.bool false)], args := [d1, d2], vars := [g1, g2, g3] }
  | _ => none }
def FnExactWitnessWrongFalsely : Prop := fnExactWitnessRow.holds Tryz.pinned (OpenSpec.ofChange fnExactWitnessWrong)

/-- 'laws.FnExactChanges': WHATEVER THE INPUT: true; the input reads as it did. -/
def fnExactChangesSpec : ChangeSpec := { name := "fnExactChanges", vars := ["loop.example/g00798/impl.errTooLong", "loop.example/g00798/impl.kindRules", "loop.example/g00798/impl.errInvalid"], fn := fun _ => fun
  | [d1, d2, g1, g2, g3] => { results := [.lit (.bool true)], args := [d1, d2], vars := [g1, g2, g3] }
  | _ => none }
def fnExactChangesRow : OpenClaim := { program := "ytjiljnfiofmpaaagreatdoor", sum := "327ed1e7d9b6600c491fa1d354724923ff3db8c5e38cd185562296aab5577597", func := "loop.example/g00798/laws.FnExactChanges", spec := "fnExactChanges", inPlace := ["internal/abi.NoEscape", "internal/bytealg.MakeNoZero", "slices.overlaps[*loop.example/g00798/impl.branch]", "internal/reflectlite.TypeOf"], unfollowed := true, recurses := true, named := ["loop.example/g00798/impl.errTooLong", "loop.example/g00798/impl.kindRules", "loop.example/g00798/impl.errInvalid"], ifaces := true, apart := false, laid := [("loop.example/g00798/impl.kindRules", laid_loop_example_g00798_impl_kindRules), ("loop.example/g00798/impl.errTooLong", laid_loop_example_g00798_impl_errTooLong), ("loop.example/g00798/impl.errInvalid", laid_loop_example_g00798_impl_errInvalid)] }
def FnExactChangesSaid : Prop := fnExactChangesRow.holds Tryz.pinned (OpenSpec.ofChange fnExactChangesSpec)

/-- ITS FALSE NEIGHBOUR: 'it returns false'. Refute it at one input. -/
def fnExactChangesWrong : ChangeSpec := { name := "fnExactChanges", vars := ["loop.example/g00798/impl.errTooLong", "loop.example/g00798/impl.kindRules", "loop.example/g00798/impl.errInvalid"], fn := fun _ => fun
  | [d1, d2, g1, g2, g3] => { results := [.lit (.bool false)], args := [d1, d2], vars := [g1, g2, g3] }
  | _ => none }
def FnExactChangesWrongFalsely : Prop := fnExactChangesRow.holds Tryz.pinned (OpenSpec.ofChange fnExactChangesWrong)

/- THE SECOND FORM. 'bulk': how many values and letters a reading holds, each counted each time it is reached (what is shared counts as often as it is met; a slice's spare places count too). A statement '..UptoSaid' is the law's where the arguments, and the package variables that the reading takes, are together of bulk at most 1048576: NARROWER than '..Said'. Prove '..Said' where nothing that the law and all that it calls make is longer than what came in: it says more and counts as full. Else prove '..UptoSaid'. A law counts once. -/
mutual
def uptoBulk {H : Type} : DataW H → Nat
  | .lit (.string bytes) => bytes.length + 1
  | .lit _ => 1
  | .nil => 1
  | .ptr d => uptoBulk d + 1
  | .slice elems spare => uptoBulkAll elems + uptoBulkAll spare + 1
  | .agg parts => uptoBulkAll parts + 1
  | .iface _ d => uptoBulk d + 1
  | .map entries => uptoBulkEntries entries + 1
  | .held _ => 1
def uptoBulkAll {H : Type} : List (DataW H) → Nat
  | [] => 0
  | d :: r => uptoBulk d + uptoBulkAll r
def uptoBulkEntries {H : Type} : List (Lit × DataW H) → Nat
  | [] => 0
  | x :: r => uptoBulkEntry x + uptoBulkEntries r
def uptoBulkEntry {H : Type} : Lit × DataW H → Nat
  | (.string bytes, d) => bytes.length + uptoBulk d + 1
  | (_, d) => uptoBulk d + 1
 end
def uptoSmall : (H : Type) → List (DataW H) → Bool := fun _ ds => decide (uptoBulkAll ds ≤ 1048576)
def OpenSpec.upto (s : _root_.Go.ChangeSpec) : _root_.Go.OpenSpec := { _root_.Go.OpenSpec.ofChange s with cond := some uptoSmall }

/-- 'laws.FnTrees', WHERE WHAT IT READS IS OF BULK AT MOST 1048576: true; the input reads as it did. -/
def fnTreesUptoRow : OpenClaim := { program := "ytjiljnfiofmpaaagreatdoor", sum := "327ed1e7d9b6600c491fa1d354724923ff3db8c5e38cd185562296aab5577597", func := "loop.example/g00798/laws.FnTrees", spec := "fnTrees", inPlace := ["slices.overlaps[*loop.example/g00798/impl.branch]", "internal/reflectlite.TypeOf", "internal/abi.NoEscape", "internal/bytealg.MakeNoZero"], unfollowed := true, recurses := true, named := ["loop.example/g00798/impl.errTooLong", "loop.example/g00798/impl.errInvalid", "loop.example/g00798/impl.kindRules"], ifaces := true, apart := false, laid := [("loop.example/g00798/impl.kindRules", laid_loop_example_g00798_impl_kindRules), ("loop.example/g00798/impl.errTooLong", laid_loop_example_g00798_impl_errTooLong), ("loop.example/g00798/impl.errInvalid", laid_loop_example_g00798_impl_errInvalid)], narrowed := true }
def FnTreesUptoSaid : Prop := fnTreesUptoRow.holds Tryz.pinned (OpenSpec.upto fnTreesSpec)

/-- 'laws.FnApply', WHERE WHAT IT READS IS OF BULK AT MOST 1048576: true; the input reads as it did. -/
def fnApplyUptoRow : OpenClaim := { program := "ytjiljnfiofmpaaagreatdoor", sum := "327ed1e7d9b6600c491fa1d354724923ff3db8c5e38cd185562296aab5577597", func := "loop.example/g00798/laws.FnApply", spec := "fnApply", inPlace := ["internal/abi.NoEscape", "internal/bytealg.MakeNoZero", "slices.overlaps[*loop.example/g00798/impl.branch]", "internal/reflectlite.TypeOf"], unfollowed := true, recurses := true, named := ["loop.example/g00798/impl.errTooLong", "loop.example/g00798/impl.kindRules", "loop.example/g00798/impl.errInvalid"], ifaces := true, apart := false, laid := [("loop.example/g00798/impl.kindRules", laid_loop_example_g00798_impl_kindRules), ("loop.example/g00798/impl.errTooLong", laid_loop_example_g00798_impl_errTooLong), ("loop.example/g00798/impl.errInvalid", laid_loop_example_g00798_impl_errInvalid)], narrowed := true }
def FnApplyUptoSaid : Prop := fnApplyUptoRow.holds Tryz.pinned (OpenSpec.upto fnApplySpec)

/-- 'laws.FnExactApply', WHERE WHAT IT READS IS OF BULK AT MOST 1048576: true; the input reads as it did. -/
def fnExactApplyUptoRow : OpenClaim := { program := "ytjiljnfiofmpaaagreatdoor", sum := "327ed1e7d9b6600c491fa1d354724923ff3db8c5e38cd185562296aab5577597", func := "loop.example/g00798/laws.FnExactApply", spec := "fnExactApply", inPlace := ["internal/abi.NoEscape", "internal/bytealg.MakeNoZero", "slices.overlaps[*loop.example/g00798/impl.branch]", "internal/reflectlite.TypeOf"], unfollowed := true, recurses := true, named := ["loop.example/g00798/impl.errTooLong", "loop.example/g00798/impl.kindRules", "loop.example/g00798/impl.errInvalid"], ifaces := true, apart := false, laid := [("loop.example/g00798/impl.kindRules", laid_loop_example_g00798_impl_kindRules), ("loop.example/g00798/impl.errTooLong", laid_loop_example_g00798_impl_errTooLong), ("loop.example/g00798/impl.errInvalid", laid_loop_example_g00798_impl_errInvalid)], narrowed := true }
def FnExactApplyUptoSaid : Prop := fnExactApplyUptoRow.holds Tryz.pinned (OpenSpec.upto fnExactApplySpec)

/-- 'laws.FnExactApplyAll', WHERE WHAT IT READS IS OF BULK AT MOST 1048576: true; the input reads as it did. -/
def fnExactApplyAllUptoRow : OpenClaim := { program := "ytjiljnfiofmpaaagreatdoor", sum := "327ed1e7d9b6600c491fa1d354724923ff3db8c5e38cd185562296aab5577597", func := "loop.example/g00798/laws.FnExactApplyAll", spec := "fnExactApplyAll", inPlace := ["internal/abi.NoEscape", "internal/bytealg.MakeNoZero", "slices.overlaps[*loop.example/g00798/impl.branch]", "internal/reflectlite.TypeOf"], unfollowed := true, recurses := true, named := ["loop.example/g00798/impl.errTooLong", "loop.example/g00798/impl.errInvalid", "loop.example/g00798/impl.kindRules"], ifaces := true, apart := false, laid := [("loop.example/g00798/impl.kindRules", laid_loop_example_g00798_impl_kindRules), ("loop.example/g00798/impl.errTooLong", laid_loop_example_g00798_impl_errTooLong), ("loop.example/g00798/impl.errInvalid", laid_loop_example_g00798_impl_errInvalid)], narrowed := true }
def FnExactApplyAllUptoSaid : Prop := fnExactApplyAllUptoRow.holds Tryz.pinned (OpenSpec.upto fnExactApplyAllSpec)

/-- 'laws.FnExactViewOf', WHERE WHAT IT READS IS OF BULK AT MOST 1048576: true; the input reads as it did. -/
def fnExactViewOfUptoRow : OpenClaim := { program := "ytjiljnfiofmpaaagreatdoor", sum := "327ed1e7d9b6600c491fa1d354724923ff3db8c5e38cd185562296aab5577597", func := "loop.example/g00798/laws.FnExactViewOf", spec := "fnExactViewOf", inPlace := ["internal/abi.NoEscape", "internal/bytealg.MakeNoZero", "internal/reflectlite.TypeOf"], unfollowed := true, recurses := true, named := ["loop.example/g00798/impl.errTooLong", "loop.example/g00798/impl.errInvalid", "loop.example/g00798/impl.kindRules"], ifaces := true, apart := false, laid := [("loop.example/g00798/impl.kindRules", laid_loop_example_g00798_impl_kindRules), ("loop.example/g00798/impl.errTooLong", laid_loop_example_g00798_impl_errTooLong), ("loop.example/g00798/impl.errInvalid", laid_loop_example_g00798_impl_errInvalid)], narrowed := true }
def FnExactViewOfUptoSaid : Prop := fnExactViewOfUptoRow.holds Tryz.pinned (OpenSpec.upto fnExactViewOfSpec)

/-- 'laws.FnExactWitness', WHERE WHAT IT READS IS OF BULK AT MOST 1048576: true; the input reads as it did. -/
def fnExactWitnessUptoRow : OpenClaim := { program := "ytjiljnfiofmpaaagreatdoor", sum := "327ed1e7d9b6600c491fa1d354724923ff3db8c5e38cd185562296aab5577597", func := "loop.example/g00798/laws.FnExactWitness", spec := "fnExactWitness", inPlace := ["internal/abi.NoEscape", "internal/bytealg.MakeNoZero", "internal/reflectlite.TypeOf"], unfollowed := true, recurses := true, named := ["loop.example/g00798/impl.errTooLong", "loop.example/g00798/impl.kindRules", "loop.example/g00798/impl.errInvalid", "internal/strconv.uint64pow10", "math/bits.deBruijn32tab", "math/bits.deBruijn64tab"], ifaces := true, apart := false, laid := [("math/bits.deBruijn32tab", laid_math_bits_deBruijn32tab), ("math/bits.deBruijn64tab", laid_math_bits_deBruijn64tab), ("internal/strconv.uint64pow10", laid_internal_strconv_uint64pow10), ("loop.example/g00798/impl.kindRules", laid_loop_example_g00798_impl_kindRules), ("loop.example/g00798/impl.errTooLong", laid_loop_example_g00798_impl_errTooLong), ("loop.example/g00798/impl.errInvalid", laid_loop_example_g00798_impl_errInvalid)], narrowed := true }
def FnExactWitnessUptoSaid : Prop := fnExactWitnessUptoRow.holds Tryz.pinned (OpenSpec.upto fnExactWitnessSpec)

/-- 'laws.FnExactChanges', WHERE WHAT IT READS IS OF BULK AT MOST 1048576: true; the input reads as it did. -/
def fnExactChangesUptoRow : OpenClaim := { program := "ytjiljnfiofmpaaagreatdoor", sum := "327ed1e7d9b6600c491fa1d354724923ff3db8c5e38cd185562296aab5577597", func := "loop.example/g00798/laws.FnExactChanges", spec := "fnExactChanges", inPlace := ["internal/abi.NoEscape", "internal/bytealg.MakeNoZero", "slices.overlaps[*loop.example/g00798/impl.branch]", "internal/reflectlite.TypeOf"], unfollowed := true, recurses := true, named := ["loop.example/g00798/impl.errTooLong", "loop.example/g00798/impl.kindRules", "loop.example/g00798/impl.errInvalid"], ifaces := true, apart := false, laid := [("loop.example/g00798/impl.kindRules", laid_loop_example_g00798_impl_kindRules), ("loop.example/g00798/impl.errTooLong", laid_loop_example_g00798_impl_errTooLong), ("loop.example/g00798/impl.errInvalid", laid_loop_example_g00798_impl_errInvalid)], narrowed := true }
def FnExactChangesUptoSaid : Prop := fnExactChangesUptoRow.holds Tryz.pinned (OpenSpec.upto fnExactChangesSpec)

end Rows
end Go.Proofs.YtjiljnfiofmpaaaGreatDoor
