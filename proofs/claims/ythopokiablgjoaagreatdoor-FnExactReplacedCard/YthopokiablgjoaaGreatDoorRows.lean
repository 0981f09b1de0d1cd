/-
  NARROWER THAN 'FOR EVERY INPUT', by the rows' own cells (each row's printed sentence says how): FnWitness: ifaces, laid · FnOrder: ifaces, laid · FnMerge: ifaces, laid · FnReplaced: ifaces, laid · FnExactWitness: ifaces, laid · FnExactReplaced: ifaces, laid.
  DERIVED. THE GIVEN ROWS OF THIS SEAT. 6 by the template 'for every input the law returns true; each argument reads behind the call as it read before'; 0 by the template 'total and deterministic' (their statements: YthopokiablgjoaaGreatDoorTotals.lean).
  GIVEN WITH THE SEED: the statements are not yours to turn. If you find one false, say at which input.
  Laid BY PROGRAM, IN A SANDBOX (cutbox-rows.mjs): the forced cells as the released guide's own fill.sh prints them over the translation 61822004fdf41935… (all of the seat's roots in one cut). By AI agents, Wed Nov 11 2026. No macro, syntax, notation, axiom, sorry.
-/
import Derived.Test.YthopokiablgjoaaGreatDoorChecked
import GoSem.Claim
import GoSem.ClaimJoined
import GoSem.ClaimMapViews
import Derived.JoinedTies
import Derived.KernelRfl
namespace Go.Proofs.YthopokiablgjoaaGreatDoor
/- THE CELL 'sum', in the pinned program and in every row, IS THE sha256 OF THE DUMP (.gsa) THAT YthopokiablgjoaaGreatDoorProg.lean LOADS. Nothing in Lean hashes anything: it is a label: what it is worth is what the hold of that sum in a sandbox is worth. -/
noncomputable def Tryz.pinned : Pinned := { name := "ythopokiablgjoaagreatdoor", sum := "61822004fdf41935d5e2204e63000c1f198b83ca93d3de5252d49e866b4bfe5c", checked := Tryz.checked }
namespace Rows
def none {H : Type} : Left H := { results := [], args := [] }

/- WHAT THE LISTED PACKAGE-LEVEL VARIABLES READ AS WHEN THE CALL BEGINS. Each datum BY PROGRAM (the guide's laid-datum.mjs) off the statement by which the dump's own 'gosem.cut.vars' lays the variable. In a bare row this is a premise. The card (YthopokiablgjoaaGreatDoorCards.lean) ties it to the program's text. -/
def laid_math_bits_deBruijn32tab {H : Type} : DataW H := .agg [.lit (.int .u8 0), .lit (.int .u8 1), .lit (.int .u8 28), .lit (.int .u8 2), .lit (.int .u8 29), .lit (.int .u8 14), .lit (.int .u8 24), .lit (.int .u8 3), .lit (.int .u8 30), .lit (.int .u8 22), .lit (.int .u8 20), .lit (.int .u8 15), .lit (.int .u8 25), .lit (.int .u8 17), .lit (.int .u8 4), .lit (.int .u8 8), .lit (.int .u8 31), .lit (.int .u8 27), .lit (.int .u8 13), .lit (.int .u8 23), .lit (.int .u8 21), .lit (.int .u8 19), .lit (.int .u8 16), .lit (.int .u8 7), .lit (.int .u8 26), .lit (.int .u8 12), .lit (.int .u8 18), .lit (.int .u8 6), .lit (.int .u8 11), .lit (.int .u8 5), .lit (.int .u8 10), .lit (.int .u8 9)]
def laid_math_bits_deBruijn64tab {H : Type} : DataW H := .agg [.lit (.int .u8 0), .lit (.int .u8 1), .lit (.int .u8 56), .lit (.int .u8 2), .lit (.int .u8 57), .lit (.int .u8 49), .lit (.int .u8 28), .lit (.int .u8 3), .lit (.int .u8 61), .lit (.int .u8 58), .lit (.int .u8 42), .lit (.int .u8 50), .lit (.int .u8 38), .lit (.int .u8 29), .lit (.int .u8 17), .lit (.int .u8 4), .lit (.int .u8 62), .lit (.int .u8 47), .lit (.int .u8 59), .lit (.int .u8 36), .lit (.int .u8 45), .lit (.int .u8 43), .lit (.int .u8 51), .lit (.int .u8 22), .lit (.int .u8 53), .lit (.int .u8 39), .lit (.int .u8 33), .lit (.int .u8 30), .lit (.int .u8 24), .lit (.int .u8 18), .lit (.int .u8 12), .lit (.int .u8 5), .lit (.int .u8 63), .lit (.int .u8 55), .lit (.int .u8 48), .lit (.int .u8 27), .lit (.int .u8 60), .lit (.int .u8 41), .lit (.int .u8 37), .lit (.int .u8 16), .lit (.int .u8 46), .lit (.int .u8 35), .lit (.int .u8 44), .lit (.int .u8 21), .lit (.int .u8 52), .lit (.int .u8 32), .lit (.int .u8 23), .lit (.int .u8 11), .lit (.int .u8 54), .lit (.int .u8 26), .lit (.int .u8 40), .lit (.int .u8 15), .lit (.int .u8 34), .lit (.int .u8 20), .lit (.int .u8 31), .lit (.int .u8 10), .lit (.int .u8 25), .lit (.int .u8 14), .lit (.int .u8 19), .lit (.int .u8 9), .lit (.int .u8 13), .lit (.int .u8 8), .lit (.int .u8 7), .lit (.int .u8 6)]
def laid_internal_strconv_uint64pow10 {H : Type} : DataW H := .agg [.lit (.int .u64 1), .lit (.int .u64 10), .lit (.int .u64 100), .lit (.int .u64 1000), .lit (.int .u64 10000), .lit (.int .u64 100000), .lit (.int .u64 1000000), .lit (.int .u64 10000000), .lit (.int .u64 100000000), .lit (.int .u64 1000000000), .lit (.int .u64 10000000000), .lit (.int .u64 100000000000), .lit (.int .u64 1000000000000), .lit (.int .u64 10000000000000), .lit (.int .u64 100000000000000), .lit (.int .u64 1000000000000000), .lit (.int .u64 10000000000000000), .lit (.int .u64 100000000000000000), .lit (.int .u64 1000000000000000000), .lit (.int .u64 10000000000000000000)]
def laid_loop_example_g00798_impl_kindRules {H : Type} : DataW H := .agg [.agg [.lit (.bool false), .lit (.bool false), .lit (.bool false), .lit (.bool false)], .agg [.lit (.bool true), .lit (.bool false), .lit (.bool true), .lit (.bool false)], .agg [.lit (.bool true), .lit (.bool true), .lit (.bool false), .lit (.bool false)], .agg [.lit (.bool false), .lit (.bool false), .lit (.bool true), .lit (.bool true)], .agg [.lit (.bool false), .lit (.bool false), .lit (.bool false), .lit (.bool false)]]
def laid_loop_example_g00798_impl_errTooLong {H : Type} : DataW H := .iface "*errors.errorString" (.ptr (.agg [.lit (.string [97, 110, 32, 97, 114, 103, 117, 109, 101, 110, 116, 32, 105, 115, 32, 116, 111, 111, 32, 108, 111, 110, 103])]))
def laid_loop_example_g00798_impl_errInvalid {H : Type} : DataW H := .iface "*errors.errorString" (.ptr (.agg [.lit (.string [97, 110, 32, 97, 114, 103, 117, 109, 101, 110, 116, 32, 105, 115, 32, 105, 110, 118, 97, 108, 105, 100])]))

/-- 'laws.FnWitness': WHATEVER THE INPUT: true; the input reads as it did. -/
def fnWitnessSpec : ChangeSpec := { name := "fnWitness", vars := ["loop.example/g00798/impl.errTooLong", "loop.example/g00798/impl.kindRules", "loop.example/g00798/impl.errInvalid"], fn := fun _ => fun
  | [d1, d2, g1, g2, g3] => { results := [.lit (.bool true)], args := [d1, d2], vars := [g1, g2, g3] }
  | _ => none }
def fnWitnessRow : OpenClaim := { program := "ythopokiablgjoaagreatdoor", sum := "61822004fdf41935d5e2204e63000c1f198b83ca93d3de5252d49e866b4bfe5c", func := "loop.example/g00798/laws.FnWitness", spec := "fnWitness", inPlace := ["internal/abi.NoEscape", "internal/bytealg.MakeNoZero", "internal/reflectlite.TypeOf", "slices.overlaps[*loop.example/g00798/impl.branch]"], unfollowed := true, recurses := true, named := ["loop.example/g00798/impl.errTooLong", "loop.example/g00798/impl.kindRules", "loop.example/g00798/impl.errInvalid", "internal/strconv.uint64pow10", "math/bits.deBruijn32tab", "math/bits.deBruijn64tab"], ifaces := true, apart := false, laid := [("math/bits.deBruijn32tab", laid_math_bits_deBruijn32tab), ("math/bits.deBruijn64tab", laid_math_bits_deBruijn64tab), ("internal/strconv.uint64pow10", laid_internal_strconv_uint64pow10), ("loop.example/g00798/impl.kindRules", laid_loop_example_g00798_impl_kindRules), ("loop.example/g00798/impl.errTooLong", laid_loop_example_g00798_impl_errTooLong), ("loop.example/g00798/impl.errInvalid", laid_loop_example_g00798_impl_errInvalid)] }
def FnWitnessSaid : Prop := fnWitnessRow.holds Tryz.pinned (OpenSpec.ofChange fnWitnessSpec)

/-- ITS FALSE NEIGHBOUR: 'it returns false'. Refute it at one input. -/
def fnWitnessWrong : ChangeSpec := { name := "fnWitness", vars := ["loop.example/g00798/impl.errTooLong", "loop.example/g00798/impl.kindRules", "loop.example/g00798/impl.errInvalid"], fn := fun _ => fun
  | [d1, d2, g1, g2, g3] => { results := [.lit (.bool false)], args := [d1, d2], vars := [g1, g2, g3] }
  | _ => none }
def FnWitnessWrongFalsely : Prop := fnWitnessRow.holds Tryz.pinned (OpenSpec.ofChange fnWitnessWrong)

/-- 'laws.FnOrder': WHATEVER THE INPUT: true; the input reads as it did. -/
def fnOrderSpec : ChangeSpec := { name := "fnOrder", vars := ["loop.example/g00798/impl.errTooLong", "loop.example/g00798/impl.errInvalid", "loop.example/g00798/impl.kindRules"], fn := fun _ => fun
  | [d1, d2, g1, g2, g3] => { results := [.lit (.bool true)], args := [d1, d2], vars := [g1, g2, g3] }
  | _ => none }
def fnOrderRow : OpenClaim := { program := "ythopokiablgjoaagreatdoor", sum := "61822004fdf41935d5e2204e63000c1f198b83ca93d3de5252d49e866b4bfe5c", func := "loop.example/g00798/laws.FnOrder", spec := "fnOrder", inPlace := ["internal/abi.NoEscape", "internal/bytealg.MakeNoZero", "internal/reflectlite.TypeOf"], unfollowed := true, recurses := true, named := ["loop.example/g00798/impl.errTooLong", "loop.example/g00798/impl.errInvalid", "loop.example/g00798/impl.kindRules"], ifaces := true, apart := false, laid := [("loop.example/g00798/impl.kindRules", laid_loop_example_g00798_impl_kindRules), ("loop.example/g00798/impl.errTooLong", laid_loop_example_g00798_impl_errTooLong), ("loop.example/g00798/impl.errInvalid", laid_loop_example_g00798_impl_errInvalid)] }
def FnOrderSaid : Prop := fnOrderRow.holds Tryz.pinned (OpenSpec.ofChange fnOrderSpec)

/-- ITS FALSE NEIGHBOUR: 'it returns false'. Refute it at one input. -/
def fnOrderWrong : ChangeSpec := { name := "fnOrder", vars := ["loop.example/g00798/impl.errTooLong", "loop.example/g00798/impl.errInvalid", "loop.example/g00798/impl.kindRules"], fn := fun _ => fun
  | [d1, d2, g1, g2, g3] => { results := [.lit (.bool false)], args := [d1, d2], vars := [g1, g2, g3] }
  | _ => none }
def FnOrderWrongFalsely : Prop := fnOrderRow.holds Tryz.pinned (OpenSpec.ofChange fnOrderWrong)

/-- 'laws.FnMerge': WHATEVER THE INPUT: true; the input reads as it did. -/
def fnMergeSpec : ChangeSpec := { name := "fnMerge", vars := ["loop.example/g00798/impl.errTooLong", "loop.example/g00798/impl.errInvalid", "loop.example/g00798/impl.kindRules"], fn := fun _ => fun
  | [d1, d2, g1, g2, g3] => { results := [.lit (.bool true)], args := [d1, d2], vars := [g1, g2, g3] }
  | _ => none }
def fnMergeRow : OpenClaim := { program := "ythopokiablgjoaagreatdoor", sum := "61822004fdf41935d5e2204e63000c1f198b83ca93d3de5252d49e866b4bfe5c", func := "loop.example/g00798/laws.FnMerge", spec := "fnMerge", inPlace := ["internal/abi.NoEscape", "internal/bytealg.MakeNoZero", "internal/reflectlite.TypeOf"], unfollowed := true, recurses := true, named := ["loop.example/g00798/impl.errTooLong", "loop.example/g00798/impl.errInvalid", "loop.example/g00798/impl.kindRules"], ifaces := true, apart := false, laid := [("loop.example/g00798/impl.kindRules", laid_loop_example_g00798_impl_kindRules), ("loop.example/g00798/impl.errTooLong", laid_loop_example_g00798_impl_errTooLong), ("loop.example/g00798/impl.errInvalid", laid_loop_example_g00798_impl_errInvalid)] }
def FnMergeSaid : Prop := fnMergeRow.holds Tryz.pinned (OpenSpec.ofChange fnMergeSpec)

/-- ITS FALSE NEIGHBOUR: 'it returns false'. Refute it at one input. -/
def fnMergeWrong : ChangeSpec := { name := "fnMerge", vars := ["loop.example/g00798/impl.errTooLong", "loop.example/g00798/impl.errInvalid", "loop.example/g00798/impl.kindRules"], fn := fun _ => fun
  | [d1, d2, g1, g2, g3] => { results := [.lit (.bool false)], args := [d1, d2], vars := [g1, g2, g3] }
  | _ => none }
def FnMergeWrongFalsely : Prop := fnMergeRow.holds Tryz.pinned (OpenSpec.ofChange fnMergeWrong)

/-- 'laws.FnReplaced': WHATEVER THE INPUT: true; the input reads as it did. -/
def fnReplacedSpec : ChangeSpec := { name := "fnReplaced", vars := ["loop.example/g00798/impl.errTooLong", "loop.example/g00798/impl.errInvalid", "loop.example/g00798/impl.kindRules"], fn := fun _ => fun
  | [d1, d2, g1, g2, g3] => { results := [.lit (.bool true)], args := [d1, d2], vars := [g1, g2, g3] }
  | _ => none }
def fnReplacedRow : OpenClaim := { program := "ythopokiablgjoaagreatdoor", sum := "61822004fdf41935d5e2204e63000c1f198b83ca93d3de5252d49e866b4bfe5c", func := "loop.example/g00798/laws.FnReplaced", spec := "fnReplaced", inPlace := ["internal/abi.NoEscape", "internal/bytealg.MakeNoZero", "internal/reflectlite.TypeOf"], unfollowed := true, recurses := true, named := ["loop.example/g00798/impl.errTooLong", "loop.example/g00798/impl.errInvalid", "loop.example/g00798/impl.kindRules"], ifaces := true, apart := false, laid := [("loop.example/g00798/impl.kindRules", laid_loop_example_g00798_impl_kindRules), ("loop.example/g00798/impl.errTooLong", laid_loop_example_g00798_impl_errTooLong), ("loop.example/g00798/impl.errInvalid", laid_loop_example_g00798_impl_errInvalid)] }
def FnReplacedSaid : Prop := fnReplacedRow.holds Tryz.pinned (OpenSpec.ofChange fnReplacedSpec)

/-- ITS FALSE NEIGHBOUR: 'it returns false'. Refute it at one input. -/
def fnReplacedWrong : ChangeSpec := { name := "fnReplaced", vars := ["loop.example/g00798/impl.errTooLong", "loop.example/g00798/impl.errInvalid", "loop.example/g00798/impl.kindRules"], fn := fun _ => fun
  | [d1, d2, g1, g2, g3] => { results := [.lit (.bool false)], args := [d1, d2], vars := [g1, g2, g3] }
  | _ => none }
def FnReplacedWrongFalsely : Prop := fnReplacedRow.holds Tryz.pinned (OpenSpec.ofChange fnReplacedWrong)

/-- 'laws.FnExactWitness': WHATEVER THE INPUT: true; the input reads as it did. -/
def fnExactWitnessSpec : ChangeSpec := { name := "fnExactWitness", vars := ["loop.example/g00798/impl.errTooLong", "loop.example/g00798/impl.kindRules", "loop.example/g00798/impl.errInvalid"], fn := fun _ => fun
  | [d1, d2, g1, g2, g3] => { results := [.lit (.bool true)], args := [d1, d2], vars := [g1, g2, g3] }
  | _ => none }
def fnExactWitnessRow : OpenClaim := { program := "ythopokiablgjoaagreatdoor", sum := "61822004fdf41935d5e2204e63000c1f198b83ca93d3de5252d49e866b4bfe5c", func := "loop.example/g00798/laws.FnExactWitness", spec := "fnExactWitness", inPlace := ["internal/abi.NoEscape", "internal/bytealg.MakeNoZero", "internal/reflectlite.TypeOf"], unfollowed := true, recurses := true, named := ["loop.example/g00798/impl.errTooLong", "loop.example/g00798/impl.kindRules", "loop.example/g00798/impl.errInvalid", "internal/strconv.uint64pow10", "math/bits.deBruijn32tab", "math/bits.deBruijn64tab"], ifaces := true, apart := false, laid := [("math/bits.deBruijn32tab", laid_math_bits_deBruijn32tab), ("math/bits.deBruijn64tab", laid_math_bits_deBruijn64tab), ("internal/strconv.uint64pow10", laid_internal_strconv_uint64pow10), ("loop.example/g00798/impl.kindRules", laid_loop_example_g00798_impl_kindRules), ("loop.example/g00798/impl.errTooLong", laid_loop_example_g00798_impl_errTooLong), ("loop.example/g00798/impl.errInvalid", laid_loop_example_g00798_impl_errInvalid)] }
def FnExactWitnessSaid : Prop := fnExactWitnessRow.holds Tryz.pinned (OpenSpec.ofChange fnExactWitnessSpec)

/-- ITS FALSE NEIGHBOUR: 'it returns false'. Refute it at one input. -/
def fnExactWitnessWrong : ChangeSpec := { name := "fnExactWitness", vars := ["loop.example/g00798/impl.errTooLong", "loop.example/g00798/impl.kindRules", "loop.example/g00798/impl.errInvalid"], fn := fun _ => fun
  | [d1, d2, g1, g2, g3] => { results := [.lit (.bool false)], args := [d1, d2], vars := [g1, g2, g3] }
  | _ => none }
def FnExactWitnessWrongFalsely : Prop := fnExactWitnessRow.holds Tryz.pinned (OpenSpec.ofChange fnExactWitnessWrong)

/-- 'laws.FnExactReplaced': WHATEVER THE INPUT: true; the input reads as it did. -/
def fnExactReplacedSpec : ChangeSpec := { name := "fnExactReplaced", vars := ["loop.example/g00798/impl.errTooLong", "loop.example/g00798/impl.errInvalid", "loop.example/g00798/impl.kindRules"], fn := fun _ => fun
  | [d1, d2, d3, g1, g2, g3] => { results := [.lit (.bool true)], args := [d1, d2, d3], vars := [g1, g2, g3] }
  | _ => none }
def fnExactReplacedRow : OpenClaim := { program := "ythopokiablgjoaagreatdoor", sum := "61822004fdf41935d5e2204e63000c1f198b83ca93d3de5252d49e866b4bfe5c", func := "loop.example/g00798/laws.FnExactReplaced", spec := "fnExactReplaced", inPlace := ["internal/abi.NoEscape", "internal/bytealg.MakeNoZero", "internal/reflectlite.TypeOf"], unfollowed := true, recurses := true, named := ["loop.example/g00798/impl.errTooLong", "loop.example/g00798/impl.errInvalid", "loop.example/g00798/impl.kindRules"], ifaces := true, apart := false, laid := [("loop.example/g00798/impl.kindRules", laid_loop_example_g00798_impl_kindRules), ("loop.example/g00798/impl.errTooLong", laid_loop_example_g00798_impl_errTooLong), ("loop.example/g00798/impl.errInvalid", laid_loop_example_g00798_impl_errInvalid)] }
def FnExactReplacedSaid : Prop := fnExactReplacedRow.holds Tryz.pinned (OpenSpec.ofChange fnExactReplacedSpec)

/-- ITS FALSE NEIGHBOUR: 'it returns false'. Refute it at one input. -/
def fnExactReplacedWrong : ChangeSpec := { name := "fnExactReplaced", vars := ["loop.example/g00798/impl.errTooLong", "loop.example/g00798/impl.errInvalid", "loop.example/g00798/impl.kindRules"], fn := fun _ => fun
  | [d1, d2, d3, g1, g2, g3] => { results := [.lit (.bool false)], args := [d1, d2, d3], vars := [g1, g2, g3] }
  | _ => none }
def FnExactReplacedWrongFalsely : Prop := fnExactReplacedRow.holds Tryz.pinned (OpenSpec.ofChange fnExactReplacedWrong)

/- THE SECOND FORM. 'bulk': how many values and letters a reading holds, each counted each time it is reached (what is shared counts as often as it is met; a slice's spare places count too). A statement '..UptoSaid' is the law's where the arguments, and the package variables that the reading takes, are together of bulk at most 1048576: NARROWER than '..Said'. Prove '..Said' where nothing that the law and all that it calls make is longer than what came in: it says more and counts as full. Else prove '..UptoSaid'. A law counts once. -/
mutual
def uptoBulk {H : Type} : DataW H → Nat
  | .lit (.string bytes) => bytes.length + 1
  | .lit _ => 1
  | .nil => 1
  | .ptr d => uptoBulk d + 1
  | .slice elems spare => uptoBulkAll elems + uptoBulkAll spare + 1
  | .agg parts => uptoBulkAll parts + 1
  | .iface _ d => uptoBulk d + 1
  | .map entries => uptoBulkEntries entries + 1
  | .held _ => 1
def uptoBulkAll {H : Type} : List (DataW H) → Nat
  | [] => 0
  | d :: r => uptoBulk d + uptoBulkAll r
def uptoBulkEntries {H : Type} : List (Lit × DataW H) → Nat
  | [] => 0
  | x :: r => uptoBulkEntry x + uptoBulkEntries r
def uptoBulkEntry {H : Type} : Lit × DataW H → Nat
  | (.string bytes, d) => bytes.length + uptoBulk d + 1
  | (_, d) => uptoBulk d + 1
 end
def uptoSmall : (H : Type) → List (DataW H) → Bool := fun _ ds => decide (uptoBulkAll ds ≤ 1048576)
def OpenSpec.upto (s : _root_.Go.ChangeSpec) : _root_.Go.OpenSpec := { _root_.Go.OpenSpec.ofChange s with cond := some uptoSmall }

/-- 'laws.FnWitness', WHERE WHAT IT READS IS OF BULK AT MOST 1048576: true; the input reads as it did. -/
def fnWitnessUptoRow : OpenClaim := { program := "ythopokiablgjoaagreatdoor", sum := "61822004fdf41935d5e2204e63000c1f198b83ca93d3de5252d49e866b4bfe5c", func := "loop.example/g00798/laws.FnWitness", spec := "fnWitness", inPlace := ["internal/abi.NoEscape", "internal/bytealg.MakeNoZero", "internal/reflectlite.TypeOf", "slices.overlaps[*loop.example/g00798/impl.branch]"], unfollowed := true, recurses := true, named := ["loop.example/g00798/impl.errTooLong", "loop.example/g00798/impl.kindRules", "loop.example/g00798/impl.errInvalid", "internal/strconv.uint64pow10", "math/bits.deBruijn32tab", "math/bits.deBruijn64tab"], ifaces := true, apart := false, laid := [("math/bits.deBruijn32tab", laid_math_bits_deBruijn32tab), ("math/bits.deBruijn64tab", laid_math_bits_deBruijn64tab), ("internal/strconv.uint64pow10", laid_internal_strconv_uint64pow10), ("loop.example/g00798/impl.kindRules", laid_loop_example_g00798_impl_kindRules), ("loop.example/g00798/impl.errTooLong", laid_loop_example_g00798_impl_errTooLong), ("loop.example/g00798/impl.errInvalid", laid_loop_example_g00798_impl_errInvalid)], narrowed := true }
def FnWitnessUptoSaid : Prop := fnWitnessUptoRow.holds Tryz.pinned (OpenSpec.upto fnWitnessSpec)

/-- 'laws.FnOrder', WHERE WHAT IT READS IS OF BULK AT MOST 1048576: true; the input reads as it did. -/
def fnOrderUptoRow : OpenClaim := { program := "ythopokiablgjoaagreatdoor", sum := "61822004fdf41935d5e2204e63000c1f198b83ca93d3de5252d49e866b4bfe5c", func := "loop.example/g00798/laws.FnOrder", spec := "fnOrder", inPlace := ["internal/abi.NoEscape", "internal/bytealg.MakeNoZero", "internal/reflectlite.TypeOf"], unfollowed := true, recurses := true, named := ["loop.example/g00798/impl.errTooLong", "loop.example/g00798/impl.errInvalid", "loop.example/g00798/impl.kindRules"], ifaces := true, apart := false, laid := [("loop.example/g00798/impl.kindRules", laid_loop_example_g00798_impl_kindRules), ("loop.example/g00798/impl.errTooLong", laid_loop_example_g00798_impl_errTooLong), ("loop.example/g00798/impl.errInvalid", laid_loop_example_g00798_impl_errInvalid)], narrowed := true }
def FnOrderUptoSaid : Prop := fnOrderUptoRow.holds Tryz.pinned (OpenSpec.upto fnOrderSpec)

/-- 'laws.FnMerge', WHERE WHAT IT READS IS OF BULK AT MOST 1048576: true; the input reads as it did. -/
def fnMergeUptoRow : OpenClaim := { program := "ythopokiablgjoaagreatdoor", sum := "61822004fdf41935d5e2204e63000c1f198b83ca93d3de5252d49e866b4bfe5c", func := "loop.example/g00798/laws.FnMerge", spec := "fnMerge", inPlace := ["internal/abi.NoEscape", "internal/bytealg.MakeNoZero", "internal/reflectlite.TypeOf"], unfollowed := true, recurses := true, named := ["loop.example/g00798/impl.errTooLong", "loop.example/g00798/impl.errInvalid", "loop.example/g00798/impl.kindRules"], ifaces := true, apart := false, laid := [("loop.example/g00798/impl.kindRules", laid_loop_example_g00798_impl_kindRules), ("loop.example/g00798/impl.errTooLong", laid_loop_example_g00798_impl_errTooLong), ("loop.example/g00798/impl.errInvalid", laid_loop_example_g00798_impl_errInvalid)], narrowed := true }
def FnMergeUptoSaid : Prop := fnMergeUptoRow.holds Tryz.pinned (OpenSpec.upto fnMergeSpec)

/-- 'laws.FnReplaced', WHERE WHAT IT READS IS OF BULK AT MOST 1048576: true; the input reads as it did. -/
def fnReplacedUptoRow : OpenClaim := { program := "ythopokiablgjoaagreatdoor", sum := "61822004fdf41935d5e2204e63000c1f198b83ca93d3de5252d49e866b4bfe5c", func := "loop.example/g00798/laws.FnReplaced", spec := "fnReplaced", inPlace := ["internal/abi.NoEscape", "internal/bytealg.MakeNoZero", "internal/reflectlite.TypeOf"], unfollowed := true, recurses := true, named := ["loop.example/g00798/impl.errTooLong", "loop.example/g00798/impl.errInvalid", "loop.example/g00798/impl.kindRules"], ifaces := true, apart := false, laid := [("loop.example/g00798/impl.kindRules", laid_loop_example_g00798_impl_kindRules), ("loop.example/g00798/impl.errTooLong", laid_loop_example_g00798_impl_errTooLong), ("loop.example/g00798/impl.errInvalid", laid_loop_example_g00798_impl_errInvalid)], narrowed := true }
def FnReplacedUptoSaid : Prop := fnReplacedUptoRow.holds Tryz.pinned (OpenSpec.upto fnReplacedSpec)

/-- 'laws.FnExactWitness', WHERE WHAT IT READS IS OF BULK AT MOST 1048576: true; the input reads as it did. -/
def fnExactWitnessUptoRow : OpenClaim := { program := "ythopokiablgjoaagreatdoor", sum := "61822004fdf41935d5e2204e63000c1f198b83ca93d3de5252d49e866b4bfe5c", func := "loop.example/g00798/laws.FnExactWitness", spec := "fnExactWitness", inPlace := ["internal/abi.NoEscape", "internal/bytealg.MakeNoZero", "internal/reflectlite.TypeOf"], unfollowed := true, recurses := true, named := ["loop.example/g00798/impl.errTooLong", "loop.example/g00798/impl.kindRules", "loop.example/g00798/impl.errInvalid", "internal/strconv.uint64pow10", "math/bits.deBruijn32tab", "math/bits.deBruijn64tab"], ifaces := true, apart := false, laid := [("math/bits.deBruijn32tab", laid_math_bits_deBruijn32tab), ("math/bits.deBruijn64tab", laid_math_bits_deBruijn64tab), ("internal/strconv.uint64pow10", laid_internal_strconv_uint64pow10), ("loop.example/g00798/impl.kindRules", laid_loop_example_g00798_impl_kindRules), ("loop.example/g00798/impl.errTooLong", laid_loop_example_g00798_impl_errTooLong), ("loop.example/g00798/impl.errInvalid", laid_loop_example_g00798_impl_errInvalid)], narrowed := true }
def FnExactWitnessUptoSaid : Prop := fnExactWitnessUptoRow.holds Tryz.pinned (OpenSpec.upto fnExactWitnessSpec)

/-- 'laws.FnExactReplaced', WHERE WHAT IT READS IS OF BULK AT MOST 1048576: true; the input reads as it did. -/
def fnExactReplacedUptoRow : OpenClaim := { program := "ythopokiablgjoaagreatdoor", sum := "61822004fdf41935d5e2204e63000c1f198b83ca93d3de5252d49e866b4bfe5c", func := "loop.example/g00798/laws.FnExactReplaced", spec := "fnExactReplaced", inPlace := ["internal/abi.NoEscape", "internal/bytealg.MakeNoZero", "internal/reflectlite.TypeOf"], unfollowed := true, recurses := true, named := ["loop.example/g00798/impl.errTooLong", "loop.example/g00798/impl.errInvalid", "loop.example/g00798/impl.kindRules"], ifaces := true, apart := false, laid := [("loop.example/g00798/impl.kindRules", laid_loop_example_g00798_impl_kindRules), ("loop.example/g00798/impl.errTooLong", laid_loop_example_g00798_impl_errTooLong), ("loop.example/g00798/impl.errInvalid", laid_loop_example_g00798_impl_errInvalid)], narrowed := true }
def FnExactReplacedUptoSaid : Prop := fnExactReplacedUptoRow.holds Tryz.pinned (OpenSpec.upto fnExactReplacedSpec)

end Rows
end Go.Proofs.YthopokiablgjoaaGreatDoor
