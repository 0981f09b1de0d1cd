/- Errors: errors.As with a target of the program's own error. Conditions: as each states. -/
import Derived.Test.YtbgejefmchnhcaaDoorErrs2
namespace Go.Proofs.YtbgejefmchnhcaaDoor.Errs
set_option maxRecDepth 100000
open Go.RowKit Go.Extern

theorem cSet (fb rb : Nat) (i c : Int) (w : World) (h0 : w.cell? ⟨rb, 0, none⟩ = some (.int .i64 i)) (h1 : w.cell? ⟨rb, 1, none⟩ = some (.int .i64 c))
    (k0 : (w.cell? ⟨fb, 0, none⟩).isSome = true) (k1 : (w.cell? ⟨fb, 1, none⟩).isSome = true) (f0 : w.frozen? ⟨fb, 0, none⟩ = false) (f1 : w.frozen? ⟨fb, 1, none⟩ = false) :
    (callFunc 73 #[.agg #[hnd 50, .pointer (some ⟨fb, 0, none⟩), .int .u64 409], .agg #[hnd 50, .pointer (some ⟨rb, 0, none⟩), .int .u64 153]]).run Tryd.prog w = .ok (.value (.tuple #[])) ((w.setCell ⟨fb, 0, none⟩ (.int .i64 i)).setCell ⟨fb, 1, none⟩ (.int .i64 c)) := by
  rw [@run_callFunc_extern Tryd.prog 73 _ Extern.ReflectliteValue.set Tryd.func73 (by kernel_rfl) (by kernel_rfl) (by kernel_rfl) (by kernel_rfl)]
  have hsz : (Tryd.prog.info? 50).map (·.size) = some 2 := by kernel_rfl
  obtain ⟨j, hj, hjs⟩ := Option.map_eq_some_iff.1 hsz
  have hl := loadRec rb i c w h0 h1
  have hq : (Extern.ReflectliteValue.set #[.agg #[hnd 50, .pointer (some ⟨fb, 0, none⟩), .int .u64 409], .agg #[hnd 50, .pointer (some ⟨rb, 0, none⟩), .int .u64 153]]).run Tryd.prog w =
      (do let val ← loadVar 50 ⟨rb, 0, none⟩; storeVar 50 ⟨fb, 0, none⟩ val; pure (Value.tuple #[]) : Sem Value).run Tryd.prog w := by kernel_rfl
  rw [hq]
  obtain ⟨v0, e0⟩ := Option.isSome_iff_exists.1 k0
  obtain ⟨v1, e1⟩ := Option.isSome_iff_exists.1 k1
  have e2 : (w.setCell ⟨fb, 0, none⟩ (.int .i64 i)).cell? ⟨fb, 1, none⟩ = some v1 := by rw [World.cell?_setCell_other (h := by simp)]; exact e1
  simp [hl, storeVar, sizeOf, typeInfo, hj, hjs, Value.cells, storeCells, Addr.add]
  simp [go_sem, stored, e0, e2, f0, f1]
theorem noAsE (v : Value) (xT : TypeId) (w : World) : (Instr.typeAssert (.iface 130 v) xT 93 true).run Tryd.prog w = .ok (.tuple #[.nilIface, .bool false]) w := run_typeAssert_lacksB Tryd.underlying93 (by kernel_rfl) (by kernel_rfl) v xT w

theorem as_nil (a : Addr) (w : World) :
    Calls Tryd.prog 34 #[.nilIface, .iface 52 (.pointer (some a))] w fun e w' => e = .returned (.bool false) ∧ w' = w := by
  go_enter Tryd.func34, Tryd.ntmps34
  go_wp2
  go_ret
  exact ⟨rfl, rfl⟩

set_option maxHeartbeats 800000 in
theorem as_long (x a : Addr) (w : World) (hE : w.cell? ⟨1, 0, none⟩ = some (rty 47)) :
    Calls Tryd.prog 34 #[errV x, .iface 52 (.pointer (some a))] w fun e w' => e = .returned (.bool false) ∧ Below w.heap.size w w' := by
  unfold errV
  have hc0 : (w.alloc (.cells #[.pointer (some a)] 52)).cell? ⟨w.heap.size, 0, none⟩ = some (.pointer (some a)) := by go_simp
  have hE2 : ((w.alloc (.cells #[.pointer (some a)] 52)).alloc (.cells #[hnd 52, .pointer (some ⟨w.heap.size, 0, none⟩), .int .u64 150] 67)).cell? ⟨1, 0, none⟩ = some (rty 47) := cell?_alloc_old _ (cell?_alloc_old _ hE)
  have q1 := cValueOf a w
  have q2 := cType
  have q3 := mKind
  have q4 := cKindP
  have q5 := cIsNil w.heap.size a
  have q6 := mElem
  have q7 := cElem
  have q8 := cKindR
  have q9 := mImplements
  have q10 := cImplements
  have q11 := cTypeOfE
  have q12 := mAssignable
  have q13 := cAssignE
  have q14 := noAsE
  have q15 := noUnwrapE
  have q16 := noUnwrapsE
  go_enter Tryd.func34, Tryd.ntmps34
  go_wp2
  refine wp_loop_rounds 1 ?_
  rw [rounds_succ]
  go_wp2
  go_ret
  exact ⟨rfl, (((Below.refl _ _).alloc (Nat.le_refl _) _).alloc (by simp) _).alloc (by simp; omega) _⟩
end Go.Proofs.YtbgejefmchnhcaaDoor.Errs
