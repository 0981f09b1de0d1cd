/- What the list of LayerFault's row gives: the table of kinds, the two sentinels, the handle of the type error. -/
import Derived.Test.YtbgejefmchnhcaaDoorLaid
import Derived.Test.YtbgejefmchnhcaaDoorErrs2
namespace Go.Proofs.YtbgejefmchnhcaaDoor.Recs
set_option maxRecDepth 100000
open Go.RowKit Paths Errs

theorem gType : Tryd.prog.globalNamed "errors.errorType" = some 1 := by kernel_rfl
theorem rtypeIs : (Tryd.prog.cutTypes.find? (·.1 == "internal/reflectlite.rtype")).map (·.2) = some 88 := by kernel_rfl
theorem onlyError : ((List.range Tryd.prog.types.size).all fun t => !Tryd.prog.rowNamed t [101, 114, 114, 111, 114] || t == 47) = true := by kernel_rfl
theorem handleIs : typeHandle Tryd.prog 47 = hnd 47 := by kernel_rfl
theorem laid4 {W : World} (h : laidMetH Tryd.prog [("errors.errorType", Rows.laid_errors_errorType), ("loop.example/g00798/impl.kindRules", Rows.laid_loop_example_g00798_impl_kindRules), ("loop.example/g00798/impl.errTooLong", Rows.laid_loop_example_g00798_impl_errTooLong), ("loop.example/g00798/impl.errInvalid", Rows.laid_loop_example_g00798_impl_errInvalid)] W) :
    (∃ x y, Three W x y) ∧ W.cell? ⟨1, 0, none⟩ = some (rty 47) := by
  have h2 : laidMet Tryd.prog [("loop.example/g00798/impl.kindRules", Rows.laid_loop_example_g00798_impl_kindRules), ("loop.example/g00798/impl.errTooLong", Rows.laid_loop_example_g00798_impl_errTooLong), ("loop.example/g00798/impl.errInvalid", Rows.laid_loop_example_g00798_impl_errInvalid)] W ∧ handlesMet Tryd.prog [("errors.errorType", Rows.laid_errors_errorType)] W := h
  refine ⟨three_of h2.1, ?_⟩
  have h3 := h2.2 ("errors.errorType", Rows.laid_errors_errorType) (List.mem_singleton.2 rfl)
  obtain ⟨name, u, ty, hn, hu, hty, hrow, hv⟩ := (show ∃ name u ty, (Rows.laid_errors_errorType (H := Unit)).handleName? = some name ∧ (Tryd.prog.cutTypes.find? (·.1 == "internal/reflectlite.rtype")).map (·.2) = some u ∧ ty < Tryd.prog.types.size ∧ Tryd.prog.rowNamed ty name = true ∧ W.var? Tryd.prog "errors.errorType" = some #[.iface u (.agg #[typeHandle Tryd.prog ty])] from h3)
  obtain rfl := Option.some.inj (rtypeIs.symm.trans hu)
  have hn' : (Rows.laid_errors_errorType (H := Unit)).handleName? = some [101, 114, 114, 111, 114] := by kernel_rfl
  obtain rfl := Option.some.inj (hn'.symm.trans hn)
  have ht : ty = 47 := by
    have := List.all_eq_true.1 onlyError ty (List.mem_range.2 hty)
    rw [hrow] at this
    simpa using this
  subst ht
  rw [handleIs] at hv
  rw [World.var?_cell gType hv 0]
  rfl
end Go.Proofs.YtbgejefmchnhcaaDoor.Recs
