/- Errors: errors.As with a target of the program's own error, at nil, at a sentinel, at the error that names a record. Conditions: as each states. -/
import Derived.Test.YtbgejefmchnhcaaDoorErrs
namespace Go.Proofs.YtbgejefmchnhcaaDoor.Errs
set_option maxRecDepth 100000
open Go.RowKit Go.Extern

/-- A type's handle. -/
abbrev hnd (t : Nat) : Value := .pointer (some ⟨5, t, none⟩)
/-- A reflected type. -/
abbrev rty (t : Nat) : Value := .iface 88 (.agg #[hnd t])

theorem cValueOf (a : Addr) (w : World) : (callFunc 53 #[.iface 52 (.pointer (some a))]).run Tryd.prog w = .ok (.value (.agg #[hnd 52, .pointer (some ⟨w.heap.size, 0, none⟩), .int .u64 150])) (w.alloc (.cells #[.pointer (some a)] 52)) := by
  rw [@run_callFunc_extern Tryd.prog 53 _ (fun args => Extern.ReflectliteValue.unpack (args.getD 0 (.tuple #[]))) Tryd.func53 (by kernel_rfl) (by kernel_rfl) (by kernel_rfl) (by kernel_rfl)]
  kernel_rfl
theorem cType (a : Addr) (w : World) : (callFunc 54 #[.agg #[hnd 52, .pointer (some a), .int .u64 150]]).run Tryd.prog w = .ok (.value (rty 52)) w := by
  rw [@run_callFunc_extern Tryd.prog 54 _ (Extern.ReflectliteValue.methodAny (Extern.ReflectliteValue.valueError "reflectlite.Value.Type" 0) fun t _ _ _ => ReflectliteType.toType t) Tryd.func54 (by kernel_rfl) (by kernel_rfl) (by kernel_rfl) (by kernel_rfl)]
  kernel_rfl
theorem cKindP (w : World) : (callFunc 109 #[hnd 52]).run Tryd.prog w = .ok (.value (.int .u8 22)) w := by
  rw [@run_callFunc_extern Tryd.prog 109 _ (ReflectliteType.abiMethod fun t => do pure (.int .u8 (← Rtype.kind t))) Tryd.func109 (by kernel_rfl) (by kernel_rfl) (by kernel_rfl) (by kernel_rfl)]
  kernel_rfl
theorem cKindR (w : World) : (callFunc 109 #[hnd 50]).run Tryd.prog w = .ok (.value (.int .u8 25)) w := by
  rw [@run_callFunc_extern Tryd.prog 109 _ (ReflectliteType.abiMethod fun t => do pure (.int .u8 (← Rtype.kind t))) Tryd.func109 (by kernel_rfl) (by kernel_rfl) (by kernel_rfl) (by kernel_rfl)]
  kernel_rfl
theorem mKind (n t : Nat) (w : World) : (Go.method (n + 1) 88 (.agg #[hnd t]) "Kind").run Tryd.prog w = .ok (109, hnd t) w := by kernel_rfl
theorem mElem (n : Nat) (v : Value) (w : World) : (Go.method (n + 1) 88 v "Elem").run Tryd.prog w = .ok (120, v) w := by kernel_rfl
theorem mImplements (n : Nat) (v : Value) (w : World) : (Go.method (n + 1) 88 v "Implements").run Tryd.prog w = .ok (121, v) w := by kernel_rfl
theorem mAssignable (n : Nat) (v : Value) (w : World) : (Go.method (n + 1) 88 v "AssignableTo").run Tryd.prog w = .ok (118, v) w := by kernel_rfl
theorem cElem (w : World) : (callFunc 120 #[.agg #[hnd 52]]).run Tryd.prog w = .ok (.value (rty 50)) w := by
  rw [@run_callFunc_extern Tryd.prog 120 _ (ReflectliteType.method ReflectliteType.elem) Tryd.func120 (by kernel_rfl) (by kernel_rfl) (by kernel_rfl) (by kernel_rfl)]
  kernel_rfl
/-! ### Values that point: what the entries do with them -/
theorem loadPtr (b : Nat) (a : Addr) (w : World) (h : w.cell? ⟨b, 0, none⟩ = some (.pointer (some a))) : (loadVar 52 ⟨b, 0, none⟩).run Tryd.prog w = .ok (.pointer (some a)) w := by
  simp [loadVar, isAgg, run_underlying Tryd.underlying52, h]
theorem mkF (a : Addr) (w : World) : (Extern.ReflectliteValue.mk 50 a Extern.ReflectliteValue.flagAddr).run Tryd.prog w = .ok (.agg #[hnd 50, .pointer (some a), .int .u64 409]) w := by kernel_rfl
theorem elemP (w : World) : (Extern.Rtype.elem? 52).run Tryd.prog w = .ok (some 50) w := by kernel_rfl
theorem cIsNil (b : Nat) (a : Addr) (w : World) (h : w.cell? ⟨b, 0, none⟩ = some (.pointer (some a))) : (callFunc 55 #[.agg #[hnd 52, .pointer (some ⟨b, 0, none⟩), .int .u64 150]]).run Tryd.prog w = .ok (.value (.bool false)) w := by
  rw [@run_callFunc_extern Tryd.prog 55 _ (Extern.ReflectliteValue.method (Extern.ReflectliteValue.valueError "reflectlite.Value.IsNil" 0) Extern.ReflectliteValue.isNil) Tryd.func55 (by kernel_rfl) (by kernel_rfl) (by kernel_rfl) (by kernel_rfl)]
  have hl := loadPtr b a w h
  have hq : ((Extern.ReflectliteValue.method (Extern.ReflectliteValue.valueError "reflectlite.Value.IsNil" 0) Extern.ReflectliteValue.isNil) #[.agg #[hnd 52, .pointer (some ⟨b, 0, none⟩), .int .u64 150]]).run Tryd.prog w = (Extern.ReflectliteValue.isNil 52 ⟨b, 0, none⟩ 150 22).run Tryd.prog w := by kernel_rfl
  rw [hq]
  simp [Extern.ReflectliteValue.isNil, hl]
theorem cElemV (b : Nat) (a : Addr) (w : World) (h : w.cell? ⟨b, 0, none⟩ = some (.pointer (some a))) : (callFunc 72 #[.agg #[hnd 52, .pointer (some ⟨b, 0, none⟩), .int .u64 150]]).run Tryd.prog w = .ok (.value (.agg #[hnd 50, .pointer (some a), .int .u64 409])) w := by
  rw [@run_callFunc_extern Tryd.prog 72 _ (Extern.ReflectliteValue.method (Extern.ReflectliteValue.valueError "reflectlite.Value.Elem" 0) Extern.ReflectliteValue.elem) Tryd.func72 (by kernel_rfl) (by kernel_rfl) (by kernel_rfl) (by kernel_rfl)]
  have hl := loadPtr b a w h
  have he := elemP w
  have hm := mkF a w
  have hq : ((Extern.ReflectliteValue.method (Extern.ReflectliteValue.valueError "reflectlite.Value.Elem" 0) Extern.ReflectliteValue.elem) #[.agg #[hnd 52, .pointer (some ⟨b, 0, none⟩), .int .u64 150]]).run Tryd.prog w = (Extern.ReflectliteValue.elem 52 ⟨b, 0, none⟩ 150 22).run Tryd.prog w := by kernel_rfl
  rw [hq]
  simp [Extern.ReflectliteValue.elem, hl, he, hm]
theorem loadRec (b : Nat) (i c : Int) (w : World) (h0 : w.cell? ⟨b, 0, none⟩ = some (.int .i64 i)) (h1 : w.cell? ⟨b, 1, none⟩ = some (.int .i64 c)) : (loadVar 50 ⟨b, 0, none⟩).run Tryd.prog w = .ok (.agg #[.int .i64 i, .int .i64 c]) w := by
  have hsz : (Tryd.prog.info? 50).map (·.size) = some 2 := by kernel_rfl
  obtain ⟨j, hj, hjs⟩ := Option.map_eq_some_iff.1 hsz
  simp [loadVar, isAgg, run_underlying Tryd.underlying50, sizeOf, typeInfo, hj, hjs, loadCells, loadCellsFrom, h0, h1, Addr.add]
theorem cImplements (w : World) : (callFunc 121 #[.agg #[hnd 50], rty 47]).run Tryd.prog w = .ok (.value (.bool true)) w := by
  rw [@run_callFunc_extern Tryd.prog 121 _ (ReflectliteType.relation "Implements" ReflectliteType.implements_) Tryd.func121 (by kernel_rfl) (by kernel_rfl) (by kernel_rfl) (by kernel_rfl)]
  kernel_rfl
theorem cTypeOfE (v : Value) (w : World) : (callFunc 71 #[.iface 130 v]).run Tryd.prog w = .ok (.value (rty 130)) w := by
  rw [@run_callFunc_extern Tryd.prog 71 _ Extern.ReflectliteType.typeOf Tryd.func71 (by kernel_rfl) (by kernel_rfl) (by kernel_rfl) (by kernel_rfl)]
  kernel_rfl
theorem cTypeOfR (v : Value) (w : World) : (callFunc 71 #[.iface 50 v]).run Tryd.prog w = .ok (.value (rty 50)) w := by
  rw [@run_callFunc_extern Tryd.prog 71 _ Extern.ReflectliteType.typeOf Tryd.func71 (by kernel_rfl) (by kernel_rfl) (by kernel_rfl) (by kernel_rfl)]
  kernel_rfl
theorem cAssignR (w : World) : (callFunc 118 #[.agg #[hnd 50], rty 50]).run Tryd.prog w = .ok (.value (.bool true)) w := by
  rw [@run_callFunc_extern Tryd.prog 118 _ (ReflectliteType.relation "AssignableTo" ReflectliteType.assignableTo) Tryd.func118 (by kernel_rfl) (by kernel_rfl) (by kernel_rfl) (by kernel_rfl)]
  kernel_rfl
theorem cAssignE (w : World) : (callFunc 118 #[.agg #[hnd 130], rty 50]).run Tryd.prog w = .ok (.value (.bool false)) w := by
  rw [@run_callFunc_extern Tryd.prog 118 _ (ReflectliteType.relation "AssignableTo" ReflectliteType.assignableTo) Tryd.func118 (by kernel_rfl) (by kernel_rfl) (by kernel_rfl) (by kernel_rfl)]
  kernel_rfl
theorem cValueOfR (i c : Int) (w : World) : (callFunc 53 #[.iface 50 (.agg #[.int .i64 i, .int .i64 c])]).run Tryd.prog w = .ok (.value (.agg #[hnd 50, .pointer (some ⟨w.heap.size, 0, none⟩), .int .u64 153])) (w.alloc (.cells #[.int .i64 i, .int .i64 c] 50)) := by
  rw [@run_callFunc_extern Tryd.prog 53 _ (fun args => Extern.ReflectliteValue.unpack (args.getD 0 (.tuple #[]))) Tryd.func53 (by kernel_rfl) (by kernel_rfl) (by kernel_rfl) (by kernel_rfl)]
  kernel_rfl
end Go.Proofs.YtbgejefmchnhcaaDoor.Errs
