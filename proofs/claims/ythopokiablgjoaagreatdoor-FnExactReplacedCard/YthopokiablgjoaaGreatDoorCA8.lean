/- Parts of several texts of mine in one file (each begins with its own remark). -/
import Derived.Test.YthopokiablgjoaaGreatDoorCA1
import Derived.Test.YthopokiablgjoaaGreatDoorCA2
import Derived.Test.YthopokiablgjoaaGreatDoorCA3
import Derived.Test.YthopokiablgjoaaGreatDoorCA4
import Derived.Test.YthopokiablgjoaaGreatDoorCA7
import Derived.Test.YthopokiablgjoaaGreatDoorProg
import Derived.Test.YthopokiablgjoaaGreatDoorRows
import Derived.Test.YthopokiablgjoaaGreatDoorChecked
import Derived.Test.YthopokiablgjoaaGreatDoorShelf
import Derived.WalkKit
import Derived.LaidEql
import Derived.Stop.Asserts
import Derived.Below
import Derived.Stop.LaidErr
import Derived.Stop.LaidTwo
import Derived.ChangeVars
import Derived.Deep.DeepHandedRow
import Derived.Lib.LaidTab
import Derived.OpenShut
import Derived.ShutString
import Derived.ChangeArms
import Derived.WideShapes
import Derived.BigQuiet
import Derived.Deep.QuietTactic
import Derived.Deep.RegionHeld3
import Derived.StillTailTactics
import Derived.Deep.Draws
import Derived.Deep.LoopGhost
import Derived.WalkSpells
import Derived.WalkSmall
import Derived.Lib.OthersKept
import Derived.Lib.Hide
import Derived.Lib.Strings
import Derived.Laws.BytesArg
import Derived.Lib.Join
/- Errors: errors.Is at nil, at a sentinel, at the program's own error that names a record. Conditions: as each states. -/
namespace Go.Proofs.YthopokiablgjoaaGreatDoor.Errs
set_option maxRecDepth 100000
open Go.RowKit Go.Extern

/-! ### Closed facts of the types -/
theorem typeOfE (v : Value) (w : World) : (Extern.ReflectliteType.typeOf #[.iface 284 v]).run Tryz.prog w = .ok (.iface 217 (.agg #[.pointer (some ⟨7, 284, none⟩)])) w := by kernel_rfl
theorem compE (w : World) : ((Extern.ReflectliteType.method fun t => do Extern.Rtype.noPackHeld "Comparable" t; (fun a => Value.bool a.comparable) <$> typeInfo t) #[.agg #[.pointer (some ⟨7, 284, none⟩)]]).run Tryz.prog w = .ok (.bool true) w := by kernel_rfl
theorem methodComp (n : Nat) (v : Value) (w : World) : (Go.method (n + 1) 217 v "Comparable").run Tryz.prog w = .ok (274, v) w := by kernel_rfl
theorem methodUnwrap (n : Nat) (i c : Int) (w : World) : (Go.method (n + 1) 143 (.agg #[.int .i64 i, .int .i64 c]) "Unwrap").run Tryz.prog w = .ok (267, .agg #[.int .i64 i, .int .i64 c]) w := by kernel_rfl
theorem strComp : (Tryz.prog.info? 284).map (·.comparable) = some true := by kernel_rfl
theorem strSize : (Tryz.prog.info? 307).map (·.size) = some 1 := by kernel_rfl

theorem noIsE (v : Value) (xT : TypeId) (w : World) : (Instr.typeAssert (.iface 284 v) xT 219 true).run Tryz.prog w = .ok (.tuple #[.nilIface, .bool false]) w := run_typeAssert_lacksB Tryz.underlying219 (by kernel_rfl) (by kernel_rfl) v xT w
theorem noUnwrapE (v : Value) (xT : TypeId) (w : World) : (Instr.typeAssert (.iface 284 v) xT 222 true).run Tryz.prog w = .ok (.tuple #[.nilIface, .bool false]) w := run_typeAssert_lacksB Tryz.underlying222 (by kernel_rfl) (by kernel_rfl) v xT w
theorem noUnwrapsE (v : Value) (xT : TypeId) (w : World) : (Instr.typeAssert (.iface 284 v) xT 224 true).run Tryz.prog w = .ok (.tuple #[.nilIface, .bool false]) w := run_typeAssert_lacksB Tryz.underlying224 (by kernel_rfl) (by kernel_rfl) v xT w
theorem noIsR (v : Value) (xT : TypeId) (w : World) : (Instr.typeAssert (.iface 143 v) xT 219 true).run Tryz.prog w = .ok (.tuple #[.nilIface, .bool false]) w := run_typeAssert_lacksB Tryz.underlying219 (by kernel_rfl) (by kernel_rfl) v xT w
theorem hasUnwrapR (v : Value) (xT : TypeId) (w : World) : (Instr.typeAssert (.iface 143 v) xT 222 true).run Tryz.prog w = .ok (.tuple #[.iface 143 v, .bool true]) w := run_typeAssert_hasB Tryz.underlying222 (by kernel_rfl) v xT w

/-- An error of errors.New's make. -/
def errV (a : Addr) : Value := .iface 284 (.pointer (some a))
/-- The program's error that names a record. -/
def recV (i c : Int) : Value := .iface 143 (.agg #[.int .i64 i, .int .i64 c])

theorem is_same (a : Addr) (w : World) :
    Calls Tryz.prog 116 #[errV a, errV a] w fun e w' => e = .returned (.bool true) ∧ w' = w := by
  obtain ⟨i, hi, hcmp⟩ := Option.map_eq_some_iff.1 strComp
  obtain ⟨j, hj, hjs⟩ := Option.map_eq_some_iff.1 strSize
  have h8 := @run_callFunc_extern Tryz.prog 165 _ Extern.ReflectliteType.typeOf Tryz.func165 (by kernel_rfl) (by kernel_rfl) (by kernel_rfl) (by kernel_rfl)
  have h32 := @run_callFunc_extern Tryz.prog 274 _ (Extern.ReflectliteType.method fun t => do Extern.Rtype.noPackHeld "Comparable" t; pure (.bool (← typeInfo t).comparable)) Tryz.func274 (by kernel_rfl) (by kernel_rfl) (by kernel_rfl) (by kernel_rfl)
  have tT := typeOfE
  have cT := compE
  have mR := methodComp
  unfold errV
  have heq := run_eql_iface_ptr_same (P := Tryz.prog) w a Tryz.underlying83 Tryz.underlying284 hi hcmp hj
  go_enter Tryz.func116, Tryz.ntmps116
  go_wp2
  refine wp_loop_rounds 1 ?_
  rw [rounds_succ]
  go_wp2
  go_ret
  exact ⟨rfl, rfl⟩

theorem is_nil (b : Addr) (w : World) :
    Calls Tryz.prog 116 #[.nilIface, errV b] w fun e w' => e = .returned (.bool false) ∧ w' = w := by
  unfold errV
  have hn := run_eql_iface_nil_left (P := Tryz.prog) w 284 (.pointer (some b)) Tryz.underlying83
  go_enter Tryz.func116, Tryz.ntmps116
  go_wp2
  go_ret
  exact ⟨rfl, rfl⟩

theorem is_other (a b : Addr) (ca cb : Array Value) (ta tb : TypeId) (w : World) (hne : a ≠ b) (ha : w.heap[a.block]? = some (.cells ca ta (0, 0))) (hb : w.heap[b.block]? = some (.cells cb tb (0, 0))) :
    Calls Tryz.prog 116 #[errV a, errV b] w fun e w' => e = .returned (.bool false) ∧ w' = w := by
  obtain ⟨i, hi, hcmp⟩ := Option.map_eq_some_iff.1 strComp
  obtain ⟨j, hj, hjs⟩ := Option.map_eq_some_iff.1 strSize
  have h8 := @run_callFunc_extern Tryz.prog 165 _ Extern.ReflectliteType.typeOf Tryz.func165 (by kernel_rfl) (by kernel_rfl) (by kernel_rfl) (by kernel_rfl)
  have h32 := @run_callFunc_extern Tryz.prog 274 _ (Extern.ReflectliteType.method fun t => do Extern.Rtype.noPackHeld "Comparable" t; pure (.bool (← typeInfo t).comparable)) Tryz.func274 (by kernel_rfl) (by kernel_rfl) (by kernel_rfl) (by kernel_rfl)
  have tT := typeOfE
  have cT := compE
  have mR := methodComp
  have nE := noIsE
  have uE := noUnwrapE
  have vE := noUnwrapsE
  unfold errV
  have heq := run_eql_iface_ptr_other (P := Tryz.prog) w Tryz.underlying83 Tryz.underlying284 hi hcmp hj (by rw [hjs]; decide) hne ha hb
  go_enter Tryz.func116, Tryz.ntmps116
  go_wp2
  refine wp_loop_rounds 1 ?_
  rw [rounds_succ]
  go_wp2
  go_ret
  exact ⟨rfl, rfl⟩

theorem unwrap_any (i c : Int) (x : Addr) (w : World) (hx : w.cell? ⟨1, 0, none⟩ = some (errV x)) :
    Calls Tryz.prog 267 #[.agg #[.int .i64 i, .int .i64 c]] w fun e w' => e = .returned (errV x) ∧ Below w.heap.size w w' := by
  unfold errV at hx ⊢
  have hx1 : (w.alloc (.cells #[.int .i64 i, .int .i64 c] 143)).cell? ⟨1, 0, none⟩ = some (.iface 284 (.pointer (some x))) := cell?_alloc_old _ hx
  go_enter Tryz.func267, Tryz.ntmps267
  go_wp2
  go_ret
  exact ⟨rfl, (Below.refl _ _).alloc (Nat.le_refl _) _⟩

/-- errors.Is(e, x), e the error that names a record, x what it wraps. -/
theorem is_rec_same (i c : Int) (x : Addr) (w : World) (hx : w.cell? ⟨1, 0, none⟩ = some (errV x)) :
    Calls Tryz.prog 116 #[recV i c, errV x] w fun e w' => e = .returned (.bool true) ∧ Below w.heap.size w w' := by
  obtain ⟨i0, hi, hcmp⟩ := Option.map_eq_some_iff.1 strComp
  obtain ⟨j0, hj, hjs⟩ := Option.map_eq_some_iff.1 strSize
  have h8 := @run_callFunc_extern Tryz.prog 165 _ Extern.ReflectliteType.typeOf Tryz.func165 (by kernel_rfl) (by kernel_rfl) (by kernel_rfl) (by kernel_rfl)
  have h32 := @run_callFunc_extern Tryz.prog 274 _ (Extern.ReflectliteType.method fun t => do Extern.Rtype.noPackHeld "Comparable" t; pure (.bool (← typeInfo t).comparable)) Tryz.func274 (by kernel_rfl) (by kernel_rfl) (by kernel_rfl) (by kernel_rfl)
  have tT := typeOfE
  have cT := compE
  have mR := methodComp
  have nW := noIsR
  have uW := hasUnwrapR
  have mU := methodUnwrap
  have heq := fun w' => run_eql_iface_ptr_same (P := Tryz.prog) w' x Tryz.underlying83 Tryz.underlying284 hi hcmp hj
  have hty := run_eql_iface_types (P := Tryz.prog) 143 284 (.agg #[.int .i64 i, .int .i64 c]) (.pointer (some x)) Tryz.underlying83 (by decide) w
  have HU := unwrap_any i c x w hx
  unfold recV
  unfold errV at *
  go_enter Tryz.func116, Tryz.ntmps116
  go_wp2
  refine wp_loop_rounds 2 ?_
  rw [rounds_succ]
  go_wp2_with (go_at_call 267; refine HU.mono ?_; rintro e w1 ⟨rfl, hb1⟩)
  rw [rounds_succ]
  go_wp2
  go_ret
  exact ⟨rfl, hb1⟩

/-- errors.Is(e, y), y another sentinel than the one that e wraps. -/
theorem is_rec_other (i c : Int) (x y : Addr) (cx cy : Array Value) (tx ty : TypeId) (w : World) (hx : w.cell? ⟨1, 0, none⟩ = some (errV x)) (hne : x ≠ y)
    (ha : w.heap[x.block]? = some (.cells cx tx (0, 0))) (hb : w.heap[y.block]? = some (.cells cy ty (0, 0))) :
    Calls Tryz.prog 116 #[recV i c, errV y] w fun e w' => e = .returned (.bool false) ∧ Below w.heap.size w w' := by
  obtain ⟨i0, hi, hcmp⟩ := Option.map_eq_some_iff.1 strComp
  obtain ⟨j0, hj, hjs⟩ := Option.map_eq_some_iff.1 strSize
  have h8 := @run_callFunc_extern Tryz.prog 165 _ Extern.ReflectliteType.typeOf Tryz.func165 (by kernel_rfl) (by kernel_rfl) (by kernel_rfl) (by kernel_rfl)
  have h32 := @run_callFunc_extern Tryz.prog 274 _ (Extern.ReflectliteType.method fun t => do Extern.Rtype.noPackHeld "Comparable" t; pure (.bool (← typeInfo t).comparable)) Tryz.func274 (by kernel_rfl) (by kernel_rfl) (by kernel_rfl) (by kernel_rfl)
  have tT := typeOfE
  have cT := compE
  have mR := methodComp
  have nE := noIsE
  have uE := noUnwrapE
  have vE := noUnwrapsE
  have nW := noIsR
  have uW := hasUnwrapR
  have mU := methodUnwrap
  have hty := run_eql_iface_types (P := Tryz.prog) 143 284 (.agg #[.int .i64 i, .int .i64 c]) (.pointer (some y)) Tryz.underlying83 (by decide) w
  have HU := unwrap_any i c x w hx
  unfold recV
  unfold errV at *
  go_enter Tryz.func116, Tryz.ntmps116
  go_wp2
  refine wp_loop_rounds 2 ?_
  rw [rounds_succ]
  go_wp2_with (go_at_call 267; refine HU.mono ?_; rintro e w1 ⟨rfl, hb1⟩)
  have heq := run_eql_iface_ptr_other (P := Tryz.prog) w1 Tryz.underlying83 Tryz.underlying284 hi hcmp hj (by rw [hjs]; decide) hne ((hb1.block _ (Array.getElem?_eq_some_iff.1 ha).1).trans ha) ((hb1.block _ (Array.getElem?_eq_some_iff.1 hb).1).trans hb)
  rw [rounds_succ]
  go_wp2
  go_ret
  exact ⟨rfl, hb1⟩

end Go.Proofs.YthopokiablgjoaaGreatDoor.Errs

/- What the rows' lists give: the table of kinds, the two sentinels. -/
namespace Go.Proofs.YthopokiablgjoaaGreatDoor.Recs
set_option maxRecDepth 100000
open Go.RowKit Paths Errs

theorem gLong : Tryz.prog.globalNamed "loop.example/g00798/impl.errTooLong" = some 0 := by kernel_rfl
theorem gLongType : (Tryz.prog.globals[(0 : Nat)]?).map (·.type) = some 83 := by kernel_rfl
theorem gBad : Tryz.prog.globalNamed "loop.example/g00798/impl.errInvalid" = some 1 := by kernel_rfl
theorem gBadType : (Tryz.prog.globals[(1 : Nat)]?).map (·.type) = some 83 := by kernel_rfl

theorem star : "*" ++ "errors.errorString" = "*errors.errorString" := by decide
theorem rowErr (u : TypeId) (h : Tryz.prog.typeName? 3 u = some "*errors.errorString") : u = 284 :=
  typeName_ptr_named (nm := "errors.errorString") (by rw [star]; kernel_rfl) (by kernel_rfl) (by decide) u (by rw [star]; exact h)

section
variable {H : Type} {enc : TypeId × Value → H} {P : Program} {w : World} {spare : Nat → Bool}
theorem vars2 {a b : String} {gs : List (DataW H)} {ps : List MemPlace} (h : DataW.TrodVars enc P w spare [a, b] gs ps) : ∃ x y, gs = [x, y] := by
  cases gs with
  | nil => exact h.elim
  | cons x t =>
    obtain ⟨_, _, _, _, _, q, _, _, _, _, h2, _⟩ := h
    cases t with
    | nil => exact h2.elim
    | cons y t =>
      obtain ⟨_, _, _, _, _, q, _, _, _, _, h3, _⟩ := h2
      cases t with
      | nil => exact ⟨x, y, rfl⟩
      | cons z t => exact h3.elim
theorem vars3 {a b c : String} {gs : List (DataW H)} {ps : List MemPlace} (h : DataW.TrodVars enc P w spare [a, b, c] gs ps) : ∃ x y z, gs = [x, y, z] := by
  cases gs with
  | nil => exact h.elim
  | cons x t =>
    obtain ⟨_, _, _, _, _, q, _, _, _, _, h2, _⟩ := h
    obtain ⟨y, z, rfl⟩ := vars2 h2
    exact ⟨x, y, z, rfl⟩
end

/-- The table, and the first sentinel. -/
structure Two (w : World) : Prop where
  tab : Tab w
  long : ∃ x, w.cell? ⟨0, 0, none⟩ = some (errV x)
theorem Two.below {w w' : World} {B : Nat} (h : Two w) (hb : Below B w w') (hB : w.heap.size ≤ B) : Two w' := by
  obtain ⟨x, hx⟩ := h.long
  exact ⟨h.tab.below hb hB, x, (hb.cell (p := ⟨0, 0, none⟩) (Nat.lt_of_lt_of_le (World.block_lt_of_cell? w _ hx) hB)).trans hx⟩

/-- The table, and the two sentinels: two pointers into rows of which nothing is frozen. -/
structure Three (w : World) (x y : Addr) : Prop where
  tab : Tab w
  long : w.cell? ⟨0, 0, none⟩ = some (errV x)
  bad : w.cell? ⟨1, 0, none⟩ = some (errV y)
  ne : x ≠ y
  rowx : ∃ c t, w.heap[x.block]? = some (.cells c t (0, 0))
  rowy : ∃ c t, w.heap[y.block]? = some (.cells c t (0, 0))
theorem Three.below {w w' : World} {B : Nat} {x y : Addr} (h : Three w x y) (hb : Below B w w') (hB : w.heap.size ≤ B) : Three w' x y := by
  obtain ⟨cx, tx, hx⟩ := h.rowx
  obtain ⟨cy, ty, hy⟩ := h.rowy
  exact ⟨h.tab.below hb hB, (hb.cell (p := ⟨0, 0, none⟩) (Nat.lt_of_lt_of_le (World.block_lt_of_cell? w _ h.long) hB)).trans h.long,
    (hb.cell (p := ⟨1, 0, none⟩) (Nat.lt_of_lt_of_le (World.block_lt_of_cell? w _ h.bad) hB)).trans h.bad, h.ne,
    ⟨cx, tx, (hb.block _ (Nat.lt_of_lt_of_le (Array.getElem?_eq_some_iff.1 hx).1 hB)).trans hx⟩, ⟨cy, ty, (hb.block _ (Nat.lt_of_lt_of_le (Array.getElem?_eq_some_iff.1 hy).1 hB)).trans hy⟩⟩

theorem three_of {W : World} (hm : laidMet Tryz.prog [("loop.example/g00798/impl.kindRules", Rows.laid_loop_example_g00798_impl_kindRules), ("loop.example/g00798/impl.errTooLong", Rows.laid_loop_example_g00798_impl_errTooLong), ("loop.example/g00798/impl.errInvalid", Rows.laid_loop_example_g00798_impl_errInvalid)] W) : ∃ x y, Three W x y := by
  obtain ⟨x, y, s0, s1, c0, c1, t0, t1, hv0, hv1, hc0, hs0, hz0, hc1, hs1, hz1, hne, hb0, hb1⟩ := laid_sentinels2 hm.tail gLong gLongType gBad gBadType Tryz.underlying83 rowErr Tryz.underlying284 Tryz.underlying307 rfl rfl Tryz.underlying9 (by kernel_rfl) (by kernel_rfl)
  refine ⟨x, y, ?_, ?_, ?_, hne, ⟨_, _, hb0⟩, ⟨_, _, hb1⟩⟩
  · obtain ⟨ps, ⟨g', t', cs, fuel, p, q, hg', ht', hvar, hd, _, _⟩, _⟩ := hm
    obtain rfl := Option.some.inj (gTab.symm.trans hg')
    obtain rfl := Option.some.inj (gTabType.symm.trans ht')
    exact tab_of_cells hg' hvar (rules_of_trod hd)
  · rw [World.var?_cell gLong hv0 0]
    rfl
  · rw [World.var?_cell gBad hv1 0]
    rfl
theorem laid3 {W : World} (h : laidMetH Tryz.prog [("loop.example/g00798/impl.kindRules", Rows.laid_loop_example_g00798_impl_kindRules), ("loop.example/g00798/impl.errTooLong", Rows.laid_loop_example_g00798_impl_errTooLong), ("loop.example/g00798/impl.errInvalid", Rows.laid_loop_example_g00798_impl_errInvalid)] W) : ∃ x y, Three W x y :=
  three_of (show laidMet Tryz.prog _ W from h)
end Go.Proofs.YthopokiablgjoaaGreatDoor.Recs

/- Paths: ParentOf and JoinPath, of the program and of its model. -/
namespace Go.Proofs.YthopokiablgjoaaGreatDoor.Paths
open Go.RowKit

/-- strings.Join with a stroke between, at a slice that reads as L. -/
theorem join_any (v : Value) (L : List (List UInt8)) (w : World) (h : Strs w v L) (hl : (Lib.join L [47]).length ≤ 140737488355328) (hL : L.length ≤ 140737488355328) :
    Calls Tryz.prog 122 #[v, .string ⟨#[47]⟩] w fun e w' => e = .returned (strV (Lib.join L [47])) ∧ Below w.heap.size w w' := by
  obtain ⟨A, cap, rfl, hcap, h⟩ := h
  cases L with
  | nil =>
    refine (Tryz.strings_Join_none A cap _ w).mono ?_
    rintro e w' ⟨rfl, rfl⟩
    exact ⟨rfl, Below.refl _ _⟩
  | cons p r =>
    obtain ⟨b, off, rfl, hb, hc⟩ := h (by simp)
    have hm : ((p :: r).map fun l => (⟨l.toArray⟩ : ByteArray)).map (·.data.toList) = p :: r := by simp [Function.comp_def]
    have := Tryz.strings_Join b off cap ((p :: r).map fun l => (⟨l.toArray⟩ : ByteArray)) ⟨#[47]⟩ w (fun j x hx => by
      simp only [List.getElem?_map, Option.map_eq_some_iff] at hx
      obtain ⟨l, hl, rfl⟩ := hx
      exact hc j l hl) hb (by simpa using hL) (by simpa using hcap) (by rw [hm]; exact hl)
    rw [hm, List.length_map] at this
    exact this

theorem Strs.take {w : World} {A : Option Addr} {cap : Nat} {L : List (List UInt8)} {k : Nat} (h : Strs w (.slice A L.length cap) L) (hk : k ≤ L.length) : Strs w (.slice A k cap) (L.take k) := by
  obtain ⟨A', cap', e, hc, h⟩ := h
  cases e
  refine ⟨A, cap, by rw [List.length_take, Nat.min_eq_left hk], by rw [List.length_take]; omega, fun hn => ?_⟩
  rw [List.length_take] at hn
  obtain ⟨b, off, e, hb, hcell⟩ := h (by omega)
  refine ⟨b, off, e, hb, fun j p hj => hcell j p ?_⟩
  rw [List.getElem?_take] at hj
  split at hj
  · exact hj
  · cases hj

def parS (s : ByteArray) : List UInt8 := if pathB s.data.toList then parentL s.data.toList else []
theorem parS_yes {s : ByteArray} (h : pathB s.data.toList = true) : parS s = Lib.join (cutAt 47 s.data.toList).dropLast [47] := by unfold parS; rw [h]; rfl
theorem parS_no {s : ByteArray} (h : pathB s.data.toList = false) : parS s = [] := by unfold parS; rw [h]; rfl
theorem askC_zero {s : ByteArray} (h : askC s = 0) : s.size ≤ 65536 ∧ pathB s.data.toList = true := by
  unfold askC at h
  split at h
  · cases h
  · split at h
    · exact ⟨by omega, ‹_›⟩
    · cases h
theorem askC_bad {s : ByteArray} (h : askC s ≠ 0) : pathB s.data.toList = false := by
  unfold askC at h
  split at h
  · exact pathB_long (by omega)
  · split at h
    · exact absurd rfl h
    · rename_i h2; simpa using h2
theorem join_dropLast_len (l : List UInt8) : (Lib.join (cutAt 47 l).dropLast [47]).length ≤ l.length := by
  have h := cutAt_ne 47 l
  conv => rhs; rw [← join_cut l]
  rw [← List.dropLast_concat_getLast h, List.dropLast_concat]
  by_cases hd : (cutAt 47 l).dropLast = []
  · rw [hd]; simp [Lib.join_nil]
  · rw [join_snoc _ hd]; simp

set_option maxHeartbeats 400000 in
theorem parentOf_impl (s : ByteArray) (w : World) (hs : s.size ≤ maxLen) : Calls Tryz.prog 197 #[.string s] w fun e w' => e = .returned (.tuple #[strV (parS s), .int .i64 (askC s)]) ∧ Below w.heap.size w w' := by
  go_enter Tryz.func197, Tryz.ntmps197
  go_wp2_with fail
  refine (partsOf_impl _ _ hs).mono ?_
  rintro e w1 ⟨v, rfl, hb1, ho1⟩
  by_cases h0 : askC s = 0
  · have hB := askC_zero h0
    have HP := Lib.hid (parS_yes hB.2)
    have H0 := Lib.hid h0
    rw [partsOf_yes hB.2] at ho1
    have hpos := cutAt_pos 47 s.data.toList
    have hlen := (pathB_parts hB.2).1
    have hjl := join_dropLast_len s.data.toList
    rw [← Lib.size_eq] at hjl
    generalize hL : cutAt 47 s.data.toList = L at *
    have HL := Lib.hid hL
    clear hL
    obtain ⟨g, cap, rfl, hcap, hg0, hg1, hcell⟩ := own_slice ho1 (by omega)
    have hst := (Strs.own ho1).take (k := L.length - 1) (by omega)
    rw [← List.dropLast_eq_take] at hst
    have HS := Lib.hid hst
    clear hcell hst
    have hc1 : (1 : Int) ≤ (L.length : Int) := by omega
    rw [h0]
    clear h0
    go_wp2_with fail
    refine (join_any _ _ _ HS.out (by omega) (by rw [List.length_dropLast]; omega)).mono ?_
    rintro e w2 ⟨rfl, hb2⟩
    go_wp2_with fail
    go_ret2
    exact ⟨by rw [HP.out, H0.out]; rfl, hb1.trans (hb2.mono hb1.size)⟩
  · have HP := Lib.hid (parS_no (askC_bad h0))
    have hne : (askC s != 0) = true := by simpa using h0
    clear h0
    go_wp2_with fail
    go_ret2
    exact ⟨by rw [HP.out]; rfl, hb1⟩

set_option maxHeartbeats 400000 in
theorem l01Parent_any (s : ByteArray) (w : World) (hs : s.size ≤ maxLen) : Calls Tryz.prog 135 #[.string s] w fun e w' => e = .returned (strV (parentL s.data.toList)) ∧ w = w' := by
  unfold maxLen at hs
  go_enter Tryz.func135, Tryz.ntmps135
  go_wp2
  go_loop [3] (fun i => ∃ k : Nat, k ≤ s.size ∧ i = .int .i64 ((k : Int) - 1) ∧ Hid (Clear s.data.toList k)) (fun i => (intOf i + 1).toNat)
  case atStart => exact ⟨s.size, by omega, rfl, Clear.start s⟩
  case round =>
    obtain ⟨k, hk, rfl, HC⟩ := hrel
    cases k with
    | zero =>
      have HN := Lib.hid (Clear.none HC.out)
      go_wp2
      go_ret
      exact ⟨by rw [HN.out]; rfl, rfl⟩
    | succ k =>
      have e1 : (((k + 1 : Nat) : Int) - 1) = (k : Int) := by omega
      rw [e1]
      clear e1
      have hlt : k < s.size := by omega
      rcases Bool.eq_false_or_eq_true ((s[k].toNat : Int) == 47) with he | he
      · have HE : Hid (parentL s.data.toList = s.data.toList.take k) := HC.out.hit hlt (by simp at he; exact UInt8.toNat_inj.1 (by show _ = 47; omega))
        go_wp2
        go_ret
        exact ⟨by rw [HE.out, ← strV_take]; rfl, rfl⟩
      · have HD := Lib.hid (HC.out.down hlt (fun e => by rw [e] at he; exact absurd he (by decide)))
        go_wp2
        exact ⟨⟨k, by omega, rfl, HD⟩, by simp [intOf]⟩

end Go.Proofs.YthopokiablgjoaaGreatDoor.Paths

/- Paths: JoinPath, of the program and of its model. -/
namespace Go.Proofs.YthopokiablgjoaaGreatDoor.Paths
open Go.RowKit

/-- Which of the ways JoinPath goes: 0: too long · 1: no path, or no part · 2: too many parts · 3: from the root · 4: from a path. -/
def joinWay (d p : ByteArray) : Nat :=
  if 65536 < d.size ∨ 65536 < p.size then 0
  else if (d.size ≠ 0 ∧ pathB d.data.toList = false) ∨ partB p.data.toList = false then 1
  else if d.size = 0 then 3
  else if (cutAt 47 d.data.toList).length = 4 then 2 else 4
def joinCode (d p : ByteArray) : Int := match joinWay d p with | 0 => 2 | 1 => 10 | 2 => 6 | _ => 0
def joinRes (d p : ByteArray) : List UInt8 := match joinWay d p with | 3 => p.data.toList | 4 => d.data.toList ++ 47 :: p.data.toList | _ => []
def JoinPost (d p : ByteArray) (w : World) (e : Ending) (w' : World) : Prop := e = .returned (.tuple #[strV (joinRes d p), .int .i64 (joinCode d p)]) ∧ Below w.heap.size w w'

theorem JoinPost.long {d p : ByteArray} {w w' : World} (h : joinWay d p = 0) (hb : Below w.heap.size w w') : JoinPost d p w (.returned (.tuple #[.string ⟨#[]⟩, .int .i64 2])) w' := ⟨by unfold joinRes joinCode; rw [h]; rfl, hb⟩
theorem JoinPost.many {d p : ByteArray} {w w' : World} (h : joinWay d p = 2) (hb : Below w.heap.size w w') : JoinPost d p w (.returned (.tuple #[.string ⟨#[]⟩, .int .i64 6])) w' := ⟨by unfold joinRes joinCode; rw [h]; rfl, hb⟩
theorem JoinPost.root {d p : ByteArray} {w w' : World} (h : joinWay d p = 3) (hb : Below w.heap.size w w') : JoinPost d p w (.returned (.tuple #[strV p.data.toList, .int .i64 0])) w' := ⟨by unfold joinRes joinCode; rw [h]; rfl, hb⟩
theorem pathB_empty {d : ByteArray} (h : d.size = 0) : pathB d.data.toList = false := by
  have : d.data.toList = [] := by
    have := Lib.size_eq d
    rw [h] at this
    exact List.eq_nil_of_length_eq_zero this.symm
  rw [this]
  decide

end Go.Proofs.YthopokiablgjoaaGreatDoor.Paths
