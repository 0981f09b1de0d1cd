/- Several texts of mine in one file (each begins with its own remark). -/
import Derived.Test.YtcbmnihepeefaaaDoorProg
import Derived.WalkKit
import Derived.LaidEql
import Derived.Stop.Asserts
import Derived.Below
import Derived.Stop.LaidErr
import Derived.Stop.LaidTwo
/- Errors: errors.Is at nil, at a sentinel, at the program's own error that names a record. Conditions: as each states. -/

namespace Go.Proofs.YtcbmnihepeefaaaDoor.Errs
set_option maxRecDepth 100000
open Go.RowKit Go.Extern

/-! ### Closed facts of the types -/
theorem typeOfE (v : Value) (w : World) : (Extern.ReflectliteType.typeOf #[.iface 122 v]).run Tryd.prog w = .ok (.iface 88 (.agg #[.pointer (some ⟨4, 122, none⟩)])) w := by kernel_rfl
theorem compE (w : World) : ((Extern.ReflectliteType.method fun t => do Extern.Rtype.noPackHeld "Comparable" t; (fun a => Value.bool a.comparable) <$> typeInfo t) #[.agg #[.pointer (some ⟨4, 122, none⟩)]]).run Tryd.prog w = .ok (.bool true) w := by kernel_rfl
theorem methodComp (n : Nat) (v : Value) (w : World) : (Go.method (n + 1) 88 v "Comparable").run Tryd.prog w = .ok (115, v) w := by kernel_rfl
theorem methodUnwrap (n : Nat) (i c : Int) (w : World) : (Go.method (n + 1) 68 (.agg #[.int .i64 i, .int .i64 c]) "Unwrap").run Tryd.prog w = .ok (111, .agg #[.int .i64 i, .int .i64 c]) w := by kernel_rfl
theorem strComp : (Tryd.prog.info? 122).map (·.comparable) = some true := by kernel_rfl
theorem strSize : (Tryd.prog.info? 145).map (·.size) = some 1 := by kernel_rfl

theorem noIsE (v : Value) (xT : TypeId) (w : World) : (Instr.typeAssert (.iface 122 v) xT 90 true).run Tryd.prog w = .ok (.tuple #[.nilIface, .bool false]) w := run_typeAssert_lacksB Tryd.underlying90 (by kernel_rfl) (by kernel_rfl) v xT w
theorem noUnwrapE (v : Value) (xT : TypeId) (w : World) : (Instr.typeAssert (.iface 122 v) xT 93 true).run Tryd.prog w = .ok (.tuple #[.nilIface, .bool false]) w := run_typeAssert_lacksB Tryd.underlying93 (by kernel_rfl) (by kernel_rfl) v xT w
theorem noUnwrapsE (v : Value) (xT : TypeId) (w : World) : (Instr.typeAssert (.iface 122 v) xT 95 true).run Tryd.prog w = .ok (.tuple #[.nilIface, .bool false]) w := run_typeAssert_lacksB Tryd.underlying95 (by kernel_rfl) (by kernel_rfl) v xT w
theorem noIsR (v : Value) (xT : TypeId) (w : World) : (Instr.typeAssert (.iface 68 v) xT 90 true).run Tryd.prog w = .ok (.tuple #[.nilIface, .bool false]) w := run_typeAssert_lacksB Tryd.underlying90 (by kernel_rfl) (by kernel_rfl) v xT w
theorem hasUnwrapR (v : Value) (xT : TypeId) (w : World) : (Instr.typeAssert (.iface 68 v) xT 93 true).run Tryd.prog w = .ok (.tuple #[.iface 68 v, .bool true]) w := run_typeAssert_hasB Tryd.underlying93 (by kernel_rfl) v xT w

/-- An error of errors.New's make. -/
def errV (a : Addr) : Value := .iface 122 (.pointer (some a))
/-- The program's error that names a record. -/
def recV (i c : Int) : Value := .iface 68 (.agg #[.int .i64 i, .int .i64 c])

theorem is_same (a : Addr) (w : World) :
    Calls Tryd.prog 46 #[errV a, errV a] w fun e w' => e = .returned (.bool true) ∧ w' = w := by
  obtain ⟨i, hi, hcmp⟩ := Option.map_eq_some_iff.1 strComp
  obtain ⟨j, hj, hjs⟩ := Option.map_eq_some_iff.1 strSize
  have h8 := @run_callFunc_extern Tryd.prog 64 _ Extern.ReflectliteType.typeOf Tryd.func64 (by kernel_rfl) (by kernel_rfl) (by kernel_rfl) (by kernel_rfl)
  have h32 := @run_callFunc_extern Tryd.prog 115 _ (Extern.ReflectliteType.method fun t => do Extern.Rtype.noPackHeld "Comparable" t; pure (.bool (← typeInfo t).comparable)) Tryd.func115 (by kernel_rfl) (by kernel_rfl) (by kernel_rfl) (by kernel_rfl)
  have tT := typeOfE
  have cT := compE
  have mR := methodComp
  unfold errV
  have heq := run_eql_iface_ptr_same (P := Tryd.prog) w a Tryd.underlying49 Tryd.underlying122 hi hcmp hj
  go_enter Tryd.func46, Tryd.ntmps46
  go_wp2
  refine wp_loop_rounds 1 ?_
  rw [rounds_succ]
  go_wp2
  go_ret
  exact ⟨rfl, rfl⟩

theorem is_nil (b : Addr) (w : World) :
    Calls Tryd.prog 46 #[.nilIface, errV b] w fun e w' => e = .returned (.bool false) ∧ w' = w := by
  unfold errV
  have hn := run_eql_iface_nil_left (P := Tryd.prog) w 122 (.pointer (some b)) Tryd.underlying49
  go_enter Tryd.func46, Tryd.ntmps46
  go_wp2
  go_ret
  exact ⟨rfl, rfl⟩

theorem is_other (a b : Addr) (ca cb : Array Value) (ta tb : TypeId) (w : World) (hne : a ≠ b) (ha : w.heap[a.block]? = some (.cells ca ta (0, 0))) (hb : w.heap[b.block]? = some (.cells cb tb (0, 0))) :
    Calls Tryd.prog 46 #[errV a, errV b] w fun e w' => e = .returned (.bool false) ∧ w' = w := by
  obtain ⟨i, hi, hcmp⟩ := Option.map_eq_some_iff.1 strComp
  obtain ⟨j, hj, hjs⟩ := Option.map_eq_some_iff.1 strSize
  have h8 := @run_callFunc_extern Tryd.prog 64 _ Extern.ReflectliteType.typeOf Tryd.func64 (by kernel_rfl) (by kernel_rfl) (by kernel_rfl) (by kernel_rfl)
  have h32 := @run_callFunc_extern Tryd.prog 115 _ (Extern.ReflectliteType.method fun t => do Extern.Rtype.noPackHeld "Comparable" t; pure (.bool (← typeInfo t).comparable)) Tryd.func115 (by kernel_rfl) (by kernel_rfl) (by kernel_rfl) (by kernel_rfl)
  have tT := typeOfE
  have cT := compE
  have mR := methodComp
  have nE := noIsE
  have uE := noUnwrapE
  have vE := noUnwrapsE
  unfold errV
  have heq := run_eql_iface_ptr_other (P := Tryd.prog) w Tryd.underlying49 Tryd.underlying122 hi hcmp hj (by rw [hjs]; decide) hne ha hb
  go_enter Tryd.func46, Tryd.ntmps46
  go_wp2
  refine wp_loop_rounds 1 ?_
  rw [rounds_succ]
  go_wp2
  go_ret
  exact ⟨rfl, rfl⟩

theorem unwrap_any (i c : Int) (x : Addr) (w : World) (hx : w.cell? ⟨1, 0, none⟩ = some (errV x)) :
    Calls Tryd.prog 111 #[.agg #[.int .i64 i, .int .i64 c]] w fun e w' => e = .returned (errV x) ∧ Below w.heap.size w w' := by
  unfold errV at hx ⊢
  have hx1 : (w.alloc (.cells #[.int .i64 i, .int .i64 c] 68)).cell? ⟨1, 0, none⟩ = some (.iface 122 (.pointer (some x))) := cell?_alloc_old _ hx
  go_enter Tryd.func111, Tryd.ntmps111
  go_wp2
  go_ret
  exact ⟨rfl, (Below.refl _ _).alloc (Nat.le_refl _) _⟩

/-- errors.Is(e, x), e the error that names a record, x what it wraps. -/
theorem is_rec_same (i c : Int) (x : Addr) (w : World) (hx : w.cell? ⟨1, 0, none⟩ = some (errV x)) :
    Calls Tryd.prog 46 #[recV i c, errV x] w fun e w' => e = .returned (.bool true) ∧ Below w.heap.size w w' := by
  obtain ⟨i0, hi, hcmp⟩ := Option.map_eq_some_iff.1 strComp
  obtain ⟨j0, hj, hjs⟩ := Option.map_eq_some_iff.1 strSize
  have h8 := @run_callFunc_extern Tryd.prog 64 _ Extern.ReflectliteType.typeOf Tryd.func64 (by kernel_rfl) (by kernel_rfl) (by kernel_rfl) (by kernel_rfl)
  have h32 := @run_callFunc_extern Tryd.prog 115 _ (Extern.ReflectliteType.method fun t => do Extern.Rtype.noPackHeld "Comparable" t; pure (.bool (← typeInfo t).comparable)) Tryd.func115 (by kernel_rfl) (by kernel_rfl) (by kernel_rfl) (by kernel_rfl)
  have tT := typeOfE
  have cT := compE
  have mR := methodComp
  have nW := noIsR
  have uW := hasUnwrapR
  have mU := methodUnwrap
  have heq := fun w' => run_eql_iface_ptr_same (P := Tryd.prog) w' x Tryd.underlying49 Tryd.underlying122 hi hcmp hj
  have hty := run_eql_iface_types (P := Tryd.prog) 68 122 (.agg #[.int .i64 i, .int .i64 c]) (.pointer (some x)) Tryd.underlying49 (by decide) w
  have HU := unwrap_any i c x w hx
  unfold recV
  unfold errV at *
  go_enter Tryd.func46, Tryd.ntmps46
  go_wp2
  refine wp_loop_rounds 2 ?_
  rw [rounds_succ]
  go_wp2_with (go_at_call 111; refine HU.mono ?_; rintro e w1 ⟨rfl, hb1⟩)
  rw [rounds_succ]
  go_wp2
  go_ret
  exact ⟨rfl, hb1⟩

/-- errors.Is(e, y), y another sentinel than the one that e wraps. -/
theorem is_rec_other (i c : Int) (x y : Addr) (cx cy : Array Value) (tx ty : TypeId) (w : World) (hx : w.cell? ⟨1, 0, none⟩ = some (errV x)) (hne : x ≠ y)
    (ha : w.heap[x.block]? = some (.cells cx tx (0, 0))) (hb : w.heap[y.block]? = some (.cells cy ty (0, 0))) :
    Calls Tryd.prog 46 #[recV i c, errV y] w fun e w' => e = .returned (.bool false) ∧ Below w.heap.size w w' := by
  obtain ⟨i0, hi, hcmp⟩ := Option.map_eq_some_iff.1 strComp
  obtain ⟨j0, hj, hjs⟩ := Option.map_eq_some_iff.1 strSize
  have h8 := @run_callFunc_extern Tryd.prog 64 _ Extern.ReflectliteType.typeOf Tryd.func64 (by kernel_rfl) (by kernel_rfl) (by kernel_rfl) (by kernel_rfl)
  have h32 := @run_callFunc_extern Tryd.prog 115 _ (Extern.ReflectliteType.method fun t => do Extern.Rtype.noPackHeld "Comparable" t; pure (.bool (← typeInfo t).comparable)) Tryd.func115 (by kernel_rfl) (by kernel_rfl) (by kernel_rfl) (by kernel_rfl)
  have tT := typeOfE
  have cT := compE
  have mR := methodComp
  have nE := noIsE
  have uE := noUnwrapE
  have vE := noUnwrapsE
  have nW := noIsR
  have uW := hasUnwrapR
  have mU := methodUnwrap
  have hty := run_eql_iface_types (P := Tryd.prog) 68 122 (.agg #[.int .i64 i, .int .i64 c]) (.pointer (some y)) Tryd.underlying49 (by decide) w
  have HU := unwrap_any i c x w hx
  unfold recV
  unfold errV at *
  go_enter Tryd.func46, Tryd.ntmps46
  go_wp2
  refine wp_loop_rounds 2 ?_
  rw [rounds_succ]
  go_wp2_with (go_at_call 111; refine HU.mono ?_; rintro e w1 ⟨rfl, hb1⟩)
  have heq := run_eql_iface_ptr_other (P := Tryd.prog) w1 Tryd.underlying49 Tryd.underlying122 hi hcmp hj (by rw [hjs]; decide) hne ((hb1.block _ (Array.getElem?_eq_some_iff.1 ha).1).trans ha) ((hb1.block _ (Array.getElem?_eq_some_iff.1 hb).1).trans hb)
  rw [rounds_succ]
  go_wp2
  go_ret
  exact ⟨rfl, hb1⟩

end Go.Proofs.YtcbmnihepeefaaaDoor.Errs
