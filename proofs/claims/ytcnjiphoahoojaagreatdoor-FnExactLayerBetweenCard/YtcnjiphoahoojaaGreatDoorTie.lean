/-
  DERIVED. GIVEN WITH THE SEED: THE PROGRAM's TIES (one call each: nine closed facts by the kernel) AND EACH ROW's TIE, after the 31st guide's Derived/Test/Toyas{Tie, Card}.lean. No idea stands in it: it is a product of the set-up. Laid BY PROGRAM, IN A SANDBOX (cutbox-door.mjs). By AI agents, Wed Nov 11 2026. No macro, syntax, notation, axiom, sorry.
-/
import Derived.Test.YtcnjiphoahoojaaGreatDoorRows
import Derived.LaidByTextLater
import Derived.SevenTiedAt
import Derived.LaidSub
import Derived.LaidOnce
namespace Go.Proofs.YtcnjiphoahoojaaGreatDoor
open Go
set_option maxRecDepth 100000
theorem seatTie1 : Tryz.prog.laidByTextLater [("loop.example/g00798/impl.kindRules", Rows.laid_loop_example_g00798_impl_kindRules), ("loop.example/g00798/impl.errTooLong", Rows.laid_loop_example_g00798_impl_errTooLong), ("loop.example/g00798/impl.errInvalid", Rows.laid_loop_example_g00798_impl_errInvalid)] [.data, .sentinel, .sentinel] true :=
  Program.laidByTextLater_by_one 56 8 21 (by kernel_rfl) (by kernel_rfl) (by kernel_rfl) (by kernel_rfl) (by kernel_rfl) (by kernel_rfl) (fun _ _ => by kernel_rfl)
theorem noOwnUnsafe : Tryz.pinned.checked.prog.headLifts.contains "ownunsafe" = false := by kernel_rfl
theorem tie : Tryz.prog.laidByTextLater [("loop.example/g00798/impl.kindRules", Rows.laid_loop_example_g00798_impl_kindRules), ("loop.example/g00798/impl.errTooLong", Rows.laid_loop_example_g00798_impl_errTooLong), ("loop.example/g00798/impl.errInvalid", Rows.laid_loop_example_g00798_impl_errInvalid)] [.data, .sentinel, .sentinel] true :=
  Program.laidByTextLater.sub seatTie1 ["loop.example/g00798/impl.kindRules", "loop.example/g00798/impl.errTooLong", "loop.example/g00798/impl.errInvalid"] (by kernel_rfl) (by kernel_rfl)
theorem fnExactMergeTrace_row_tie : Rows.fnExactMergeTraceRow.laidByTextAt .later Tryz.pinned [.data, .sentinel, .sentinel] true :=
  OpenClaim.laidByTextAt_later rfl rfl tie noOwnUnsafe
theorem fnExactMergeMany_row_tie : Rows.fnExactMergeManyRow.laidByTextAt .later Tryz.pinned [.data, .sentinel, .sentinel] true :=
  OpenClaim.laidByTextAt_later rfl rfl tie noOwnUnsafe
theorem fnExactLayerBetween_row_tie : Rows.fnExactLayerBetweenRow.laidByTextAt .later Tryz.pinned [.data, .sentinel, .sentinel] true :=
  OpenClaim.laidByTextAt_later rfl rfl tie noOwnUnsafe
theorem fnExactMergeTraceUpto_row_tie : Rows.fnExactMergeTraceUptoRow.laidByTextAt .later Tryz.pinned [.data, .sentinel, .sentinel] true :=
  OpenClaim.laidByTextAt_later rfl rfl tie noOwnUnsafe
theorem fnExactMergeManyUpto_row_tie : Rows.fnExactMergeManyUptoRow.laidByTextAt .later Tryz.pinned [.data, .sentinel, .sentinel] true :=
  OpenClaim.laidByTextAt_later rfl rfl tie noOwnUnsafe
theorem fnExactLayerBetweenUpto_row_tie : Rows.fnExactLayerBetweenUptoRow.laidByTextAt .later Tryz.pinned [.data, .sentinel, .sentinel] true :=
  OpenClaim.laidByTextAt_later rfl rfl tie noOwnUnsafe
end Go.Proofs.YtcnjiphoahoojaaGreatDoor
