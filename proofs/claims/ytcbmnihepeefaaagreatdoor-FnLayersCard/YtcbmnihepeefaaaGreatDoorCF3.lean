/- Parts of several texts of mine in one file (each begins with its own remark). -/
import Derived.Test.YtcbmnihepeefaaaGreatDoorCA1
import Derived.Test.YtcbmnihepeefaaaGreatDoorCA10
import Derived.Test.YtcbmnihepeefaaaGreatDoorCA2
import Derived.Test.YtcbmnihepeefaaaGreatDoorCA3
import Derived.Test.YtcbmnihepeefaaaGreatDoorCA4
import Derived.Test.YtcbmnihepeefaaaGreatDoorCA6
import Derived.Test.YtcbmnihepeefaaaGreatDoorCA8
import Derived.Test.YtcbmnihepeefaaaGreatDoorCA9
import Derived.Test.YtcbmnihepeefaaaGreatDoorCD2
import Derived.Test.YtcbmnihepeefaaaGreatDoorProg
import Derived.Test.YtcbmnihepeefaaaGreatDoorChecked
import Derived.Test.YtcbmnihepeefaaaGreatDoorShelf
import Derived.Test.YtcbmnihepeefaaaGreatDoorRows
import Derived.WalkKit
import Derived.LaidEql
import Derived.Stop.Asserts
import Derived.Below
import Derived.Stop.LaidErr
import Derived.Stop.LaidTwo
import Derived.StillTailTactics
import Derived.Laws.OwnMore
import Derived.BigQuiet
import Derived.BigRegion
import Derived.Deep.QuietTactic
import Derived.Deep.RegionHeld3
import Derived.Deep.Slices
import Derived.OpenShut
import Derived.ShutString
import Derived.ChangeArms
import Derived.WideShapes
import Derived.Lib.LaidTab
import Derived.Deep.Draws
import Derived.Deep.LoopGhost
import Derived.WalkSpells
import Derived.WalkSmall
import Derived.Lib.OthersKept
import Derived.Lib.Hide
import Derived.Lib.Strings
import Derived.Lib.Join
import Derived.Laws.BytesArg
import Derived.WalkLawsBesides
import Derived.ChangeVars
import Derived.Deep.DeepHandedRow
/- Errors: errors.As with a target of the program's own error, at nil, at a sentinel, at the error that names a record. Conditions: as each states. -/
namespace Go.Proofs.YtcbmnihepeefaaaGreatDoor.Errs
set_option maxRecDepth 100000
open Go.RowKit Go.Extern

/-- A type's handle. -/
abbrev hnd (t : Nat) : Value := .pointer (some ⟨8, t, none⟩)
/-- A reflected type. -/
abbrev rty (t : Nat) : Value := .iface 216 (.agg #[hnd t])

theorem cValueOf (a : Addr) (w : World) : (callFunc 188 #[.iface 126 (.pointer (some a))]).run Tryz.prog w = .ok (.value (.agg #[hnd 126, .pointer (some ⟨w.heap.size, 0, none⟩), .int .u64 150])) (w.alloc (.cells #[.pointer (some a)] 126)) := by
  rw [@run_callFunc_extern Tryz.prog 188 _ (fun args => Extern.ReflectliteValue.unpack (args.getD 0 (.tuple #[]))) Tryz.func188 (by kernel_rfl) (by kernel_rfl) (by kernel_rfl) (by kernel_rfl)]
  kernel_rfl
theorem cType (a : Addr) (w : World) : (callFunc 189 #[.agg #[hnd 126, .pointer (some a), .int .u64 150]]).run Tryz.prog w = .ok (.value (rty 126)) w := by
  rw [@run_callFunc_extern Tryz.prog 189 _ (Extern.ReflectliteValue.methodAny (Extern.ReflectliteValue.valueError "reflectlite.Value.Type" 0) fun t _ _ _ => ReflectliteType.toType t) Tryz.func189 (by kernel_rfl) (by kernel_rfl) (by kernel_rfl) (by kernel_rfl)]
  kernel_rfl
theorem cKindP (w : World) : (callFunc 296 #[hnd 126]).run Tryz.prog w = .ok (.value (.int .u8 22)) w := by
  rw [@run_callFunc_extern Tryz.prog 296 _ (ReflectliteType.abiMethod fun t => do pure (.int .u8 (← Rtype.kind t))) Tryz.func296 (by kernel_rfl) (by kernel_rfl) (by kernel_rfl) (by kernel_rfl)]
  kernel_rfl
theorem cKindR (w : World) : (callFunc 296 #[hnd 124]).run Tryz.prog w = .ok (.value (.int .u8 25)) w := by
  rw [@run_callFunc_extern Tryz.prog 296 _ (ReflectliteType.abiMethod fun t => do pure (.int .u8 (← Rtype.kind t))) Tryz.func296 (by kernel_rfl) (by kernel_rfl) (by kernel_rfl) (by kernel_rfl)]
  kernel_rfl
theorem mKind (n t : Nat) (w : World) : (Go.method (n + 1) 216 (.agg #[hnd t]) "Kind").run Tryz.prog w = .ok (296, hnd t) w := by kernel_rfl
theorem mElem (n : Nat) (v : Value) (w : World) : (Go.method (n + 1) 216 v "Elem").run Tryz.prog w = .ok (308, v) w := by kernel_rfl
theorem mImplements (n : Nat) (v : Value) (w : World) : (Go.method (n + 1) 216 v "Implements").run Tryz.prog w = .ok (309, v) w := by kernel_rfl
theorem mAssignable (n : Nat) (v : Value) (w : World) : (Go.method (n + 1) 216 v "AssignableTo").run Tryz.prog w = .ok (306, v) w := by kernel_rfl
theorem cElem (w : World) : (callFunc 308 #[.agg #[hnd 126]]).run Tryz.prog w = .ok (.value (rty 124)) w := by
  rw [@run_callFunc_extern Tryz.prog 308 _ (ReflectliteType.method ReflectliteType.elem) Tryz.func308 (by kernel_rfl) (by kernel_rfl) (by kernel_rfl) (by kernel_rfl)]
  kernel_rfl
/-! ### Values that point: what the entries do with them -/
theorem loadPtr (b : Nat) (a : Addr) (w : World) (h : w.cell? ⟨b, 0, none⟩ = some (.pointer (some a))) : (loadVar 126 ⟨b, 0, none⟩).run Tryz.prog w = .ok (.pointer (some a)) w := by
  simp [loadVar, isAgg, run_underlying Tryz.underlying126, h]
theorem mkF (a : Addr) (w : World) : (Extern.ReflectliteValue.mk 124 a Extern.ReflectliteValue.flagAddr).run Tryz.prog w = .ok (.agg #[hnd 124, .pointer (some a), .int .u64 409]) w := by kernel_rfl
theorem elemP (w : World) : (Extern.Rtype.elem? 126).run Tryz.prog w = .ok (some 124) w := by kernel_rfl
theorem cIsNil (b : Nat) (a : Addr) (w : World) (h : w.cell? ⟨b, 0, none⟩ = some (.pointer (some a))) : (callFunc 190 #[.agg #[hnd 126, .pointer (some ⟨b, 0, none⟩), .int .u64 150]]).run Tryz.prog w = .ok (.value (.bool false)) w := by
  rw [@run_callFunc_extern Tryz.prog 190 _ (Extern.ReflectliteValue.method (Extern.ReflectliteValue.valueError "reflectlite.Value.IsNil" 0) Extern.ReflectliteValue.isNil) Tryz.func190 (by kernel_rfl) (by kernel_rfl) (by kernel_rfl) (by kernel_rfl)]
  have hl := loadPtr b a w h
  have hq : ((Extern.ReflectliteValue.method (Extern.ReflectliteValue.valueError "reflectlite.Value.IsNil" 0) Extern.ReflectliteValue.isNil) #[.agg #[hnd 126, .pointer (some ⟨b, 0, none⟩), .int .u64 150]]).run Tryz.prog w = (Extern.ReflectliteValue.isNil 126 ⟨b, 0, none⟩ 150 22).run Tryz.prog w := by kernel_rfl
  rw [hq]
  simp [Extern.ReflectliteValue.isNil, hl]
theorem cElemV (b : Nat) (a : Addr) (w : World) (h : w.cell? ⟨b, 0, none⟩ = some (.pointer (some a))) : (callFunc 226 #[.agg #[hnd 126, .pointer (some ⟨b, 0, none⟩), .int .u64 150]]).run Tryz.prog w = .ok (.value (.agg #[hnd 124, .pointer (some a), .int .u64 409])) w := by
  rw [@run_callFunc_extern Tryz.prog 226 _ (Extern.ReflectliteValue.method (Extern.ReflectliteValue.valueError "reflectlite.Value.Elem" 0) Extern.ReflectliteValue.elem) Tryz.func226 (by kernel_rfl) (by kernel_rfl) (by kernel_rfl) (by kernel_rfl)]
  have hl := loadPtr b a w h
  have he := elemP w
  have hm := mkF a w
  have hq : ((Extern.ReflectliteValue.method (Extern.ReflectliteValue.valueError "reflectlite.Value.Elem" 0) Extern.ReflectliteValue.elem) #[.agg #[hnd 126, .pointer (some ⟨b, 0, none⟩), .int .u64 150]]).run Tryz.prog w = (Extern.ReflectliteValue.elem 126 ⟨b, 0, none⟩ 150 22).run Tryz.prog w := by kernel_rfl
  rw [hq]
  simp [Extern.ReflectliteValue.elem, hl, he, hm]
theorem loadRec (b : Nat) (i c : Int) (w : World) (h0 : w.cell? ⟨b, 0, none⟩ = some (.int .i64 i)) (h1 : w.cell? ⟨b, 1, none⟩ = some (.int .i64 c)) : (loadVar 124 ⟨b, 0, none⟩).run Tryz.prog w = .ok (.agg #[.int .i64 i, .int .i64 c]) w := by
  have hsz : (Tryz.prog.info? 124).map (·.size) = some 2 := by kernel_rfl
  obtain ⟨j, hj, hjs⟩ := Option.map_eq_some_iff.1 hsz
  simp [loadVar, isAgg, run_underlying Tryz.underlying124, sizeOf, typeInfo, hj, hjs, loadCells, loadCellsFrom, h0, h1, Addr.add]
theorem cImplements (w : World) : (callFunc 309 #[.agg #[hnd 124], rty 96]).run Tryz.prog w = .ok (.value (.bool true)) w := by
  rw [@run_callFunc_extern Tryz.prog 309 _ (ReflectliteType.relation "Implements" ReflectliteType.implements_) Tryz.func309 (by kernel_rfl) (by kernel_rfl) (by kernel_rfl) (by kernel_rfl)]
  kernel_rfl
theorem cTypeOfE (v : Value) (w : World) : (callFunc 211 #[.iface 286 v]).run Tryz.prog w = .ok (.value (rty 286)) w := by
  rw [@run_callFunc_extern Tryz.prog 211 _ Extern.ReflectliteType.typeOf Tryz.func211 (by kernel_rfl) (by kernel_rfl) (by kernel_rfl) (by kernel_rfl)]
  kernel_rfl
theorem cTypeOfR (v : Value) (w : World) : (callFunc 211 #[.iface 124 v]).run Tryz.prog w = .ok (.value (rty 124)) w := by
  rw [@run_callFunc_extern Tryz.prog 211 _ Extern.ReflectliteType.typeOf Tryz.func211 (by kernel_rfl) (by kernel_rfl) (by kernel_rfl) (by kernel_rfl)]
  kernel_rfl
theorem cAssignR (w : World) : (callFunc 306 #[.agg #[hnd 124], rty 124]).run Tryz.prog w = .ok (.value (.bool true)) w := by
  rw [@run_callFunc_extern Tryz.prog 306 _ (ReflectliteType.relation "AssignableTo" ReflectliteType.assignableTo) Tryz.func306 (by kernel_rfl) (by kernel_rfl) (by kernel_rfl) (by kernel_rfl)]
  kernel_rfl
theorem cAssignE (w : World) : (callFunc 306 #[.agg #[hnd 286], rty 124]).run Tryz.prog w = .ok (.value (.bool false)) w := by
  rw [@run_callFunc_extern Tryz.prog 306 _ (ReflectliteType.relation "AssignableTo" ReflectliteType.assignableTo) Tryz.func306 (by kernel_rfl) (by kernel_rfl) (by kernel_rfl) (by kernel_rfl)]
  kernel_rfl
theorem cValueOfR (i c : Int) (w : World) : (callFunc 188 #[.iface 124 (.agg #[.int .i64 i, .int .i64 c])]).run Tryz.prog w = .ok (.value (.agg #[hnd 124, .pointer (some ⟨w.heap.size, 0, none⟩), .int .u64 153])) (w.alloc (.cells #[.int .i64 i, .int .i64 c] 124)) := by
  rw [@run_callFunc_extern Tryz.prog 188 _ (fun args => Extern.ReflectliteValue.unpack (args.getD 0 (.tuple #[]))) Tryz.func188 (by kernel_rfl) (by kernel_rfl) (by kernel_rfl) (by kernel_rfl)]
  kernel_rfl
end Go.Proofs.YtcbmnihepeefaaaGreatDoor.Errs

/- Errors: errors.As with a target of the program's own error. Conditions: as each states. -/
namespace Go.Proofs.YtcbmnihepeefaaaGreatDoor.Errs
set_option maxRecDepth 100000
open Go.RowKit Go.Extern

theorem cSet (fb rb : Nat) (i c : Int) (w : World) (h0 : w.cell? ⟨rb, 0, none⟩ = some (.int .i64 i)) (h1 : w.cell? ⟨rb, 1, none⟩ = some (.int .i64 c))
    (k0 : (w.cell? ⟨fb, 0, none⟩).isSome = true) (k1 : (w.cell? ⟨fb, 1, none⟩).isSome = true) (f0 : w.frozen? ⟨fb, 0, none⟩ = false) (f1 : w.frozen? ⟨fb, 1, none⟩ = false) :
    (callFunc 227 #[.agg #[hnd 124, .pointer (some ⟨fb, 0, none⟩), .int .u64 409], .agg #[hnd 124, .pointer (some ⟨rb, 0, none⟩), .int .u64 153]]).run Tryz.prog w = .ok (.value (.tuple #[])) ((w.setCell ⟨fb, 0, none⟩ (.int .i64 i)).setCell ⟨fb, 1, none⟩ (.int .i64 c)) := by
  rw [@run_callFunc_extern Tryz.prog 227 _ Extern.ReflectliteValue.set Tryz.func227 (by kernel_rfl) (by kernel_rfl) (by kernel_rfl) (by kernel_rfl)]
  have hsz : (Tryz.prog.info? 124).map (·.size) = some 2 := by kernel_rfl
  obtain ⟨j, hj, hjs⟩ := Option.map_eq_some_iff.1 hsz
  have hl := loadRec rb i c w h0 h1
  have hq : (Extern.ReflectliteValue.set #[.agg #[hnd 124, .pointer (some ⟨fb, 0, none⟩), .int .u64 409], .agg #[hnd 124, .pointer (some ⟨rb, 0, none⟩), .int .u64 153]]).run Tryz.prog w =
      (do let val ← loadVar 124 ⟨rb, 0, none⟩; storeVar 124 ⟨fb, 0, none⟩ val; pure (Value.tuple #[]) : Sem Value).run Tryz.prog w := by kernel_rfl
  rw [hq]
  obtain ⟨v0, e0⟩ := Option.isSome_iff_exists.1 k0
  obtain ⟨v1, e1⟩ := Option.isSome_iff_exists.1 k1
  have e2 : (w.setCell ⟨fb, 0, none⟩ (.int .i64 i)).cell? ⟨fb, 1, none⟩ = some v1 := by rw [World.cell?_setCell_other (h := by simp)]; exact e1
  simp [hl, storeVar, sizeOf, typeInfo, hj, hjs, Value.cells, storeCells, Addr.add]
  simp [go_sem, stored, e0, e2, f0, f1]
theorem noAsE (v : Value) (xT : TypeId) (w : World) : (Instr.typeAssert (.iface 286 v) xT 220 true).run Tryz.prog w = .ok (.tuple #[.nilIface, .bool false]) w := run_typeAssert_lacksB Tryz.underlying220 (by kernel_rfl) (by kernel_rfl) v xT w

theorem as_nil (a : Addr) (w : World) :
    Calls Tryz.prog 121 #[.nilIface, .iface 126 (.pointer (some a))] w fun e w' => e = .returned (.bool false) ∧ w' = w := by
  go_enter Tryz.func121, Tryz.ntmps121
  go_wp2
  go_ret
  exact ⟨rfl, rfl⟩

set_option maxHeartbeats 800000 in
theorem as_long (x a : Addr) (w : World) (hE : w.cell? ⟨2, 0, none⟩ = some (rty 96)) :
    Calls Tryz.prog 121 #[errV x, .iface 126 (.pointer (some a))] w fun e w' => e = .returned (.bool false) ∧ Below w.heap.size w w' := by
  unfold errV
  have hc0 : (w.alloc (.cells #[.pointer (some a)] 126)).cell? ⟨w.heap.size, 0, none⟩ = some (.pointer (some a)) := by go_simp
  have hE2 : ((w.alloc (.cells #[.pointer (some a)] 126)).alloc (.cells #[hnd 126, .pointer (some ⟨w.heap.size, 0, none⟩), .int .u64 150] 181)).cell? ⟨2, 0, none⟩ = some (rty 96) := cell?_alloc_old _ (cell?_alloc_old _ hE)
  have q1 := cValueOf a w
  have q2 := cType
  have q3 := mKind
  have q4 := cKindP
  have q5 := cIsNil w.heap.size a
  have q6 := mElem
  have q7 := cElem
  have q8 := cKindR
  have q9 := mImplements
  have q10 := cImplements
  have q11 := cTypeOfE
  have q12 := mAssignable
  have q13 := cAssignE
  have q14 := noAsE
  have q15 := noUnwrapE
  have q16 := noUnwrapsE
  go_enter Tryz.func121, Tryz.ntmps121
  go_wp2
  refine wp_loop_rounds 1 ?_
  rw [rounds_succ]
  go_wp2
  go_ret
  exact ⟨rfl, (((Below.refl _ _).alloc (Nat.le_refl _) _).alloc (by simp) _).alloc (by simp; omega) _⟩
end Go.Proofs.YtcbmnihepeefaaaGreatDoor.Errs

/- Errors: errors.As at the program's own error: the target is written. Conditions: as it states. -/
namespace Go.Proofs.YtcbmnihepeefaaaGreatDoor.Errs
set_option maxRecDepth 100000
open Go.RowKit Go.Extern

theorem new0 (w : World) (a b : Value) (t : TypeId) : (w.alloc (.cells #[a, b] t)).cell? ⟨w.heap.size, 0, none⟩ = some a := by go_simp
theorem new1 (w : World) (a b : Value) (t : TypeId) : (w.alloc (.cells #[a, b] t)).cell? ⟨w.heap.size, 1, none⟩ = some b := by go_simp
set_option maxHeartbeats 800000 in
theorem as_rec (i c : Int) (fb : Nat) (u0 u1 : Value) (w : World) (hE : w.cell? ⟨2, 0, none⟩ = some (rty 96))
    (k0 : w.cell? ⟨fb, 0, none⟩ = some u0) (k1 : w.cell? ⟨fb, 1, none⟩ = some u1) (f0 : w.frozen? ⟨fb, 0, none⟩ = false) (f1 : w.frozen? ⟨fb, 1, none⟩ = false) :
    Calls Tryz.prog 121 #[recV i c, .iface 126 (.pointer (some ⟨fb, 0, none⟩))] w fun e w' => e = .returned (.bool true) ∧
      ∃ W, w' = (W.setCell ⟨fb, 0, none⟩ (.int .i64 i)).setCell ⟨fb, 1, none⟩ (.int .i64 c) ∧ Below w.heap.size w W := by
  unfold recV
  have hlt : fb < w.heap.size := World.block_lt_of_cell? w _ k0
  have hc0 : (w.alloc (.cells #[.pointer (some ⟨fb, 0, none⟩)] 126)).cell? ⟨w.heap.size, 0, none⟩ = some (.pointer (some ⟨fb, 0, none⟩)) := by go_simp
  have hE2 : ((w.alloc (.cells #[.pointer (some ⟨fb, 0, none⟩)] 126)).alloc (.cells #[hnd 126, .pointer (some ⟨w.heap.size, 0, none⟩), .int .u64 150] 181)).cell? ⟨2, 0, none⟩ = some (rty 96) := cell?_alloc_old _ (cell?_alloc_old _ hE)
  have q1 := cValueOf ⟨fb, 0, none⟩ w
  have q2 := cType
  have q3 := mKind
  have q4 := cKindP
  have q5 := cIsNil w.heap.size ⟨fb, 0, none⟩
  have q6 := mElem
  have q7 := cElem
  have q8 := cKindR
  have q9 := mImplements
  have q10 := cImplements
  have q11 := cTypeOfR
  have q12 := mAssignable
  have q13 := cAssignR
  have hc3 : (((w.alloc (.cells #[.pointer (some ⟨fb, 0, none⟩)] 126)).alloc (.cells #[hnd 126, .pointer (some ⟨w.heap.size, 0, none⟩), .int .u64 150] 181)).alloc (.cells #[hnd 126, .pointer (some ⟨w.heap.size, 0, none⟩), .int .u64 150] 181)).cell? ⟨w.heap.size, 0, none⟩ = some (.pointer (some ⟨fb, 0, none⟩)) := cell?_alloc_old _ (cell?_alloc_old _ hc0)
  have hsz3 : (((w.alloc (.cells #[.pointer (some ⟨fb, 0, none⟩)] 126)).alloc (.cells #[hnd 126, .pointer (some ⟨w.heap.size, 0, none⟩), .int .u64 150] 181)).alloc (.cells #[hnd 126, .pointer (some ⟨w.heap.size, 0, none⟩), .int .u64 150] 181)).heap.size = w.heap.size + 1 + 1 + 1 := by simp
  have q14 := cElemV w.heap.size ⟨fb, 0, none⟩ (((w.alloc (.cells #[.pointer (some ⟨fb, 0, none⟩)] 126)).alloc (.cells #[hnd 126, .pointer (some ⟨w.heap.size, 0, none⟩), .int .u64 150] 181)).alloc (.cells #[hnd 126, .pointer (some ⟨w.heap.size, 0, none⟩), .int .u64 150] 181)) hc3
  have q15 := cValueOfR i c (((w.alloc (.cells #[.pointer (some ⟨fb, 0, none⟩)] 126)).alloc (.cells #[hnd 126, .pointer (some ⟨w.heap.size, 0, none⟩), .int .u64 150] 181)).alloc (.cells #[hnd 126, .pointer (some ⟨w.heap.size, 0, none⟩), .int .u64 150] 181))
  have hb3 : Below w.heap.size w (((w.alloc (.cells #[.pointer (some ⟨fb, 0, none⟩)] 126)).alloc (.cells #[hnd 126, .pointer (some ⟨w.heap.size, 0, none⟩), .int .u64 150] 181)).alloc (.cells #[hnd 126, .pointer (some ⟨w.heap.size, 0, none⟩), .int .u64 150] 181)) := (((Below.refl _ _).alloc (Nat.le_refl _) _).alloc (by simp) _).alloc (by simp; omega) _
  have hb4 : Below w.heap.size w ((((w.alloc (.cells #[.pointer (some ⟨fb, 0, none⟩)] 126)).alloc (.cells #[hnd 126, .pointer (some ⟨w.heap.size, 0, none⟩), .int .u64 150] 181)).alloc (.cells #[hnd 126, .pointer (some ⟨w.heap.size, 0, none⟩), .int .u64 150] 181)).alloc (.cells #[.int .i64 i, .int .i64 c] 124)) := hb3.alloc hb3.size _
  have m0 : ((((w.alloc (.cells #[.pointer (some ⟨fb, 0, none⟩)] 126)).alloc (.cells #[hnd 126, .pointer (some ⟨w.heap.size, 0, none⟩), .int .u64 150] 181)).alloc (.cells #[hnd 126, .pointer (some ⟨w.heap.size, 0, none⟩), .int .u64 150] 181)).alloc (.cells #[.int .i64 i, .int .i64 c] 124)).cell? ⟨(((w.alloc (.cells #[.pointer (some ⟨fb, 0, none⟩)] 126)).alloc (.cells #[hnd 126, .pointer (some ⟨w.heap.size, 0, none⟩), .int .u64 150] 181)).alloc (.cells #[hnd 126, .pointer (some ⟨w.heap.size, 0, none⟩), .int .u64 150] 181)).heap.size, 0, none⟩ = some (.int .i64 i) := new0 _ _ _ _
  have m1 : ((((w.alloc (.cells #[.pointer (some ⟨fb, 0, none⟩)] 126)).alloc (.cells #[hnd 126, .pointer (some ⟨w.heap.size, 0, none⟩), .int .u64 150] 181)).alloc (.cells #[hnd 126, .pointer (some ⟨w.heap.size, 0, none⟩), .int .u64 150] 181)).alloc (.cells #[.int .i64 i, .int .i64 c] 124)).cell? ⟨(((w.alloc (.cells #[.pointer (some ⟨fb, 0, none⟩)] 126)).alloc (.cells #[hnd 126, .pointer (some ⟨w.heap.size, 0, none⟩), .int .u64 150] 181)).alloc (.cells #[hnd 126, .pointer (some ⟨w.heap.size, 0, none⟩), .int .u64 150] 181)).heap.size, 1, none⟩ = some (.int .i64 c) := new1 _ _ _ _
  have q16 := cSet fb (((w.alloc (.cells #[.pointer (some ⟨fb, 0, none⟩)] 126)).alloc (.cells #[hnd 126, .pointer (some ⟨w.heap.size, 0, none⟩), .int .u64 150] 181)).alloc (.cells #[hnd 126, .pointer (some ⟨w.heap.size, 0, none⟩), .int .u64 150] 181)).heap.size i c ((((w.alloc (.cells #[.pointer (some ⟨fb, 0, none⟩)] 126)).alloc (.cells #[hnd 126, .pointer (some ⟨w.heap.size, 0, none⟩), .int .u64 150] 181)).alloc (.cells #[hnd 126, .pointer (some ⟨w.heap.size, 0, none⟩), .int .u64 150] 181)).alloc (.cells #[.int .i64 i, .int .i64 c] 124)) m0 m1 (by rw [hb4.cell (p := ⟨fb, 0, none⟩) hlt, k0]; rfl) (by rw [hb4.cell (p := ⟨fb, 1, none⟩) hlt, k1]; rfl) (by rw [hb4.frozen (p := ⟨fb, 0, none⟩) hlt]; exact f0) (by rw [hb4.frozen (p := ⟨fb, 1, none⟩) hlt]; exact f1)
  rw [hsz3] at q15 q16
  go_enter Tryz.func121, Tryz.ntmps121
  go_wp2
  refine wp_loop_rounds 1 ?_
  rw [rounds_succ]
  go_wp2
  go_ret
  exact ⟨rfl, _, rfl, hb4⟩
end Go.Proofs.YtcbmnihepeefaaaGreatDoor.Errs

/- Layers: LayerFault of the program. Conditions: the table of kinds, the two sentinels, the handle of the type error. -/
namespace Go.Proofs.YtcbmnihepeefaaaGreatDoor.Recs
set_option maxRecDepth 100000
open Go.RowKit Paths Errs

theorem fault_zero (l : List R) : ∀ (n i : Nat), l.length - i = n → (faultFrom l i).2 = 0 → faultFrom l i = (0, 0) := by
  intro n
  induction n with
  | zero => intro i hi _; exact faultFrom_end (by omega)
  | succ n ih =>
    intro i hi h0
    have hlt : i < l.length := by omega
    by_cases hc : codeAt l i l[i] = 0
    · rw [faultFrom_good hlt hc] at h0 ⊢
      exact ih (i + 1) (by omega) h0
    · rw [faultFrom_bad hlt hc] at h0
      exact absurd h0 hc
def faultV (l : List R) : Value := if 4096 < l.length then .tuple #[.int .i64 0, .int .i64 2] else .tuple #[.int .i64 (layerFaultL l).1, .int .i64 (layerFaultL l).2]
theorem fault_fine {l : List R} (h : checkK l = .fine) : faultV l = .tuple #[.int .i64 0, .int .i64 0] := by
  unfold checkK at h
  unfold faultV
  split at h
  · cases h
  · rename_i h4
    rw [if_neg h4]
    split at h
    · cases h
    · rename_i h0
      have e := fault_zero l _ 0 rfl (show (layerFaultL l).2 = 0 by simpa using h0)
      have e2 : layerFaultL l = (0, 0) := e
      rw [e2]
theorem fault_long {l : List R} (h : checkK l = .long) : faultV l = .tuple #[.int .i64 0, .int .i64 2] := by
  unfold checkK at h
  unfold faultV
  split at h
  · rw [if_pos (by assumption)]
  · split at h <;> cases h
theorem fault_bad {l : List R} {i c : Int} (h : checkK l = .bad i c) : faultV l = .tuple #[.int .i64 i, .int .i64 c] := by
  unfold checkK at h
  unfold faultV
  split at h
  · cases h
  · rename_i h4
    rw [if_neg h4]
    split at h
    · cases h; rfl
    · cases h

set_option maxHeartbeats 1600000 in
theorem layerFault_impl (v : Value) (l : List R) (x y : Addr) (w : World) (h : RecSl w v l) (hl : l.length ≤ 1048576) (hr : ∀ r ∈ l, r.p.size ≤ maxLen) (hT : Three w x y) (hE : w.cell? ⟨2, 0, none⟩ = some (rty 96)) :
    Calls Tryz.prog 33 #[v] w fun e w' => e = .returned (faultV l) ∧ Below w.heap.size w w' := by
  have HC := checkLayer_any v l x _ h hl hr hT.tab hT.long
  rw [← checkK_val] at HC
  have hel := World.block_lt_of_cell? w _ hE
  obtain ⟨A, cap, rfl, hcap, h⟩ := h
  cases hk : checkK l with
  | fine =>
    have HF := Lib.hid (fault_fine hk)
    rw [hk] at HC
    unfold EK.val at HC
    go_enter Tryz.func33, Tryz.ntmps33
    go_wp2_with fail
    refine HC.mono ?_
    rintro e w1 ⟨rfl, hb1⟩
    have hE1 : (w1.alloc (.cells #[.int .i64 0, .int .i64 0] 124)).cell? ⟨2, 0, none⟩ = some (rty 96) := cell?_alloc_old _ ((hb1.cell (p := ⟨2, 0, none⟩) hel).trans hE)
    have hbA : Below w.heap.size w (w1.alloc (.cells #[.int .i64 0, .int .i64 0] 124)) := hb1.alloc hb1.size _
    have HN := as_nil ⟨w1.heap.size, 0, none⟩ (w1.alloc (.cells #[.int .i64 0, .int .i64 0] 124))
    have HA := arg1_any .fine x y _ (hT.below hbA (Nat.le_refl _))
    have hsz : (w1.alloc (.cells #[.int .i64 0, .int .i64 0] 124)).heap.size = w1.heap.size + 1 := by simp
    rw [hsz] at HA
    unfold EK.val at HA
    go_wp2_with fail
    refine HN.mono ?_
    rintro e w2 ⟨rfl, rfl⟩
    go_wp2_with fail
    refine HA.mono ?_
    rintro e w3 ⟨rfl, hb3⟩
    have hcode : argFrom [.fine] 0 = 0 := rfl
    rw [hcode]
    go_wp2_with fail
    go_ret2
    exact ⟨ret_eq HF.out.symm, hbA.trans (hb3.mono (by have := hb1.size; omega))⟩
  | long =>
    have HF := Lib.hid (fault_long hk)
    rw [hk] at HC
    unfold EK.val errV at HC
    go_enter Tryz.func33, Tryz.ntmps33
    go_wp2_with fail
    refine HC.mono ?_
    rintro e w1 ⟨rfl, hb1⟩
    have hE1 : (w1.alloc (.cells #[.int .i64 0, .int .i64 0] 124)).cell? ⟨2, 0, none⟩ = some (rty 96) := cell?_alloc_old _ ((hb1.cell (p := ⟨2, 0, none⟩) hel).trans hE)
    have hbA : Below w.heap.size w (w1.alloc (.cells #[.int .i64 0, .int .i64 0] 124)) := hb1.alloc hb1.size _
    have HN := as_long x ⟨w1.heap.size, 0, none⟩ (w1.alloc (.cells #[.int .i64 0, .int .i64 0] 124)) hE1
    unfold errV at HN
    go_wp2_with fail
    refine HN.mono ?_
    rintro e w2 ⟨rfl, hb2⟩
    have c2 := hbA.trans (hb2.mono hbA.size)
    have HA := arg1_any .long x y _ (hT.below c2 (Nat.le_refl _))
    unfold EK.val errV at HA
    go_wp2_with fail
    refine HA.mono ?_
    rintro e w3 ⟨rfl, hb3⟩
    have hcode : argFrom [.long] 0 = 2 := rfl
    rw [hcode]
    go_wp2_with fail
    go_ret2
    exact ⟨ret_eq HF.out.symm, c2.trans (hb3.mono c2.size)⟩
  | bad i c =>
    have HF := Lib.hid (fault_bad hk)
    rw [hk] at HC
    unfold EK.val recV at HC
    go_enter Tryz.func33, Tryz.ntmps33
    go_wp2_with fail
    refine HC.mono ?_
    rintro e w1 ⟨rfl, hb1⟩
    have hE1 : (w1.alloc (.cells #[.int .i64 0, .int .i64 0] 124)).cell? ⟨2, 0, none⟩ = some (rty 96) := cell?_alloc_old _ ((hb1.cell (p := ⟨2, 0, none⟩) hel).trans hE)
    have HN := as_rec i c w1.heap.size (.int .i64 0) (.int .i64 0) (w1.alloc (.cells #[.int .i64 0, .int .i64 0] 124)) hE1 (new0 _ _ _ _) (new1 _ _ _ _) (by go_simp) (by go_simp)
    unfold recV at HN
    go_wp2_with fail
    refine HN.mono ?_
    rintro e w2 ⟨rfl, W, rfl, hbW⟩
    have n0 : W.cell? ⟨w1.heap.size, 0, none⟩ = some (.int .i64 0) := (hbW.cell (p := ⟨w1.heap.size, 0, none⟩) (by simp)).trans (new0 _ _ _ _)
    have n1 : W.cell? ⟨w1.heap.size, 1, none⟩ = some (.int .i64 0) := (hbW.cell (p := ⟨w1.heap.size, 1, none⟩) (by simp)).trans (new1 _ _ _ _)
    have hbA : Below w.heap.size w (w1.alloc (.cells #[.int .i64 0, .int .i64 0] 124)) := hb1.alloc hb1.size _
    have c2 := hbA.trans (hbW.mono hbA.size)
    have r0 : ((W.setCell ⟨w1.heap.size, 0, none⟩ (.int .i64 i)).setCell ⟨w1.heap.size, 1, none⟩ (.int .i64 c)).cell? ⟨w1.heap.size, 0, none⟩ = some (.int .i64 i) := by
      rw [World.cell?_setCell_other (h := by simp)]
      exact World.cell?_setCell_same _ _ _ n0
    have n1' : (W.setCell ⟨w1.heap.size, 0, none⟩ (.int .i64 i)).cell? ⟨w1.heap.size, 1, none⟩ = some (.int .i64 0) := by
      rw [World.cell?_setCell_other (h := by simp)]
      exact n1
    have r1 : ((W.setCell ⟨w1.heap.size, 0, none⟩ (.int .i64 i)).setCell ⟨w1.heap.size, 1, none⟩ (.int .i64 c)).cell? ⟨w1.heap.size, 1, none⟩ = some (.int .i64 c) := World.cell?_setCell_same _ _ _ n1'
    have cW : Below w.heap.size w ((W.setCell ⟨w1.heap.size, 0, none⟩ (.int .i64 i)).setCell ⟨w1.heap.size, 1, none⟩ (.int .i64 c)) := (c2.setCell hb1.size _).setCell hb1.size _
    generalize (W.setCell ⟨w1.heap.size, 0, none⟩ (.int .i64 i)).setCell ⟨w1.heap.size, 1, none⟩ (.int .i64 c) = W2 at *
    go_wp2_with fail
    go_quiet (fail)
    go_wp2_with fail
    go_ret2
    exact ⟨ret_eq HF.out.symm, below_drewN cW _⟩
end Go.Proofs.YtcbmnihepeefaaaGreatDoor.Recs

/- What the list of LayerFault's row gives: the table of kinds, the two sentinels, the handle of the type error. -/
namespace Go.Proofs.YtcbmnihepeefaaaGreatDoor.Recs
set_option maxRecDepth 100000
open Go.RowKit Paths Errs

theorem gType : Tryz.prog.globalNamed "errors.errorType" = some 2 := by kernel_rfl
theorem rtypeIs : (Tryz.prog.cutTypes.find? (·.1 == "internal/reflectlite.rtype")).map (·.2) = some 216 := by kernel_rfl
theorem onlyError : ((List.range Tryz.prog.types.size).all fun t => !Tryz.prog.rowNamed t [101, 114, 114, 111, 114] || t == 96) = true := by kernel_rfl
theorem handleIs : typeHandle Tryz.prog 96 = hnd 96 := by kernel_rfl
theorem laid4 {W : World} (h : laidMetH Tryz.prog [("errors.errorType", Rows.laid_errors_errorType), ("loop.example/g00798/impl.kindRules", Rows.laid_loop_example_g00798_impl_kindRules), ("loop.example/g00798/impl.errTooLong", Rows.laid_loop_example_g00798_impl_errTooLong), ("loop.example/g00798/impl.errInvalid", Rows.laid_loop_example_g00798_impl_errInvalid)] W) :
    (∃ x y, Three W x y) ∧ W.cell? ⟨2, 0, none⟩ = some (rty 96) := by
  have h2 : laidMet Tryz.prog [("loop.example/g00798/impl.kindRules", Rows.laid_loop_example_g00798_impl_kindRules), ("loop.example/g00798/impl.errTooLong", Rows.laid_loop_example_g00798_impl_errTooLong), ("loop.example/g00798/impl.errInvalid", Rows.laid_loop_example_g00798_impl_errInvalid)] W ∧ handlesMet Tryz.prog [("errors.errorType", Rows.laid_errors_errorType)] W := h
  refine ⟨three_of h2.1, ?_⟩
  have h3 := h2.2 ("errors.errorType", Rows.laid_errors_errorType) (List.mem_singleton.2 rfl)
  obtain ⟨name, u, ty, hn, hu, hty, hrow, hv⟩ := (show ∃ name u ty, (Rows.laid_errors_errorType (H := Unit)).handleName? = some name ∧ (Tryz.prog.cutTypes.find? (·.1 == "internal/reflectlite.rtype")).map (·.2) = some u ∧ ty < Tryz.prog.types.size ∧ Tryz.prog.rowNamed ty name = true ∧ W.var? Tryz.prog "errors.errorType" = some #[.iface u (.agg #[typeHandle Tryz.prog ty])] from h3)
  obtain rfl := Option.some.inj (rtypeIs.symm.trans hu)
  have hn' : (Rows.laid_errors_errorType (H := Unit)).handleName? = some [101, 114, 114, 111, 114] := by kernel_rfl
  obtain rfl := Option.some.inj (hn'.symm.trans hn)
  have ht : ty = 96 := by
    have := List.all_eq_true.1 onlyError ty (List.mem_range.2 hty)
    rw [hrow] at this
    simpa using this
  subst ht
  rw [handleIs] at hv
  rw [World.var?_cell gType hv 0]
  rfl
end Go.Proofs.YtcbmnihepeefaaaGreatDoor.Recs
