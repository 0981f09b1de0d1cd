/- Parts of several texts of mine in one file (each begins with its own remark). -/
import Derived.Test.YtibekkfbpmloiabGreatDoorCA2
import Derived.Test.YtibekkfbpmloiabGreatDoorCA3
import Derived.Test.YtibekkfbpmloiabGreatDoorCA4
import Derived.Test.YtibekkfbpmloiabGreatDoorCA5
import Derived.Test.YtibekkfbpmloiabGreatDoorCA6
import Derived.Test.YtibekkfbpmloiabGreatDoorCA9
import Derived.Test.YtibekkfbpmloiabGreatDoorProg
import Derived.Test.YtibekkfbpmloiabGreatDoorRows
import Derived.Test.YtibekkfbpmloiabGreatDoorChecked
import Derived.Test.YtibekkfbpmloiabGreatDoorShelf
import Derived.WalkKit
import Derived.LaidEql
import Derived.Stop.Asserts
import Derived.Below
import Derived.Stop.LaidErr
import Derived.Stop.LaidTwo
import Derived.ChangeVars
import Derived.Deep.DeepHandedRow
import Derived.Lib.LaidTab
import Derived.OpenShut
import Derived.ShutString
import Derived.ChangeArms
import Derived.WideShapes
import Derived.BigQuiet
import Derived.Deep.QuietTactic
import Derived.Deep.RegionHeld3
import Derived.StillTailTactics
import Derived.Deep.Draws
import Derived.Deep.LoopGhost
import Derived.WalkSpells
import Derived.WalkSmall
import Derived.Lib.OthersKept
import Derived.Lib.Hide
import Derived.Lib.Strings
import Derived.Deep.RegionWith
import Derived.OneCell
import Derived.Lib.SliceRun
import Derived.Laws.OwnMore
import Derived.Deep.Slices
import Derived.Lib.Join
import Derived.Laws.BytesArg
import Derived.BigRegion
import Derived.Lib.Overlaps
import Derived.Lib.AppendZerosOnto
import Derived.Laws.NewBlocks
import Derived.Laws.IdiomCopy
import Derived.Deep.RegionLaw
import Derived.WalkLawsBesides
/- Errors: errors.Is at nil, at a sentinel, at the program's own error that names a record. Conditions: as each states. -/
namespace Go.Proofs.YtibekkfbpmloiabGreatDoor.Errs
set_option maxRecDepth 100000
open Go.RowKit Go.Extern

/-! ### Closed facts of the types -/
theorem typeOfE (v : Value) (w : World) : (Extern.ReflectliteType.typeOf #[.iface 277 v]).run Tryz.prog w = .ok (.iface 217 (.agg #[.pointer (some ⟨4, 277, none⟩)])) w := by kernel_rfl
theorem compE (w : World) : ((Extern.ReflectliteType.method fun t => do Extern.Rtype.noPackHeld "Comparable" t; (fun a => Value.bool a.comparable) <$> typeInfo t) #[.agg #[.pointer (some ⟨4, 277, none⟩)]]).run Tryz.prog w = .ok (.bool true) w := by kernel_rfl
theorem methodComp (n : Nat) (v : Value) (w : World) : (Go.method (n + 1) 217 v "Comparable").run Tryz.prog w = .ok (274, v) w := by kernel_rfl
theorem methodUnwrap (n : Nat) (i c : Int) (w : World) : (Go.method (n + 1) 161 (.agg #[.int .i64 i, .int .i64 c]) "Unwrap").run Tryz.prog w = .ok (269, .agg #[.int .i64 i, .int .i64 c]) w := by kernel_rfl
theorem strComp : (Tryz.prog.info? 277).map (·.comparable) = some true := by kernel_rfl
theorem strSize : (Tryz.prog.info? 300).map (·.size) = some 1 := by kernel_rfl

theorem noIsE (v : Value) (xT : TypeId) (w : World) : (Instr.typeAssert (.iface 277 v) xT 219 true).run Tryz.prog w = .ok (.tuple #[.nilIface, .bool false]) w := run_typeAssert_lacksB Tryz.underlying219 (by kernel_rfl) (by kernel_rfl) v xT w
theorem noUnwrapE (v : Value) (xT : TypeId) (w : World) : (Instr.typeAssert (.iface 277 v) xT 222 true).run Tryz.prog w = .ok (.tuple #[.nilIface, .bool false]) w := run_typeAssert_lacksB Tryz.underlying222 (by kernel_rfl) (by kernel_rfl) v xT w
theorem noUnwrapsE (v : Value) (xT : TypeId) (w : World) : (Instr.typeAssert (.iface 277 v) xT 224 true).run Tryz.prog w = .ok (.tuple #[.nilIface, .bool false]) w := run_typeAssert_lacksB Tryz.underlying224 (by kernel_rfl) (by kernel_rfl) v xT w
theorem noIsR (v : Value) (xT : TypeId) (w : World) : (Instr.typeAssert (.iface 161 v) xT 219 true).run Tryz.prog w = .ok (.tuple #[.nilIface, .bool false]) w := run_typeAssert_lacksB Tryz.underlying219 (by kernel_rfl) (by kernel_rfl) v xT w
theorem hasUnwrapR (v : Value) (xT : TypeId) (w : World) : (Instr.typeAssert (.iface 161 v) xT 222 true).run Tryz.prog w = .ok (.tuple #[.iface 161 v, .bool true]) w := run_typeAssert_hasB Tryz.underlying222 (by kernel_rfl) v xT w

/-- An error of errors.New's make. -/
def errV (a : Addr) : Value := .iface 277 (.pointer (some a))
/-- The program's error that names a record. -/
def recV (i c : Int) : Value := .iface 161 (.agg #[.int .i64 i, .int .i64 c])

theorem is_same (a : Addr) (w : World) :
    Calls Tryz.prog 129 #[errV a, errV a] w fun e w' => e = .returned (.bool true) ∧ w' = w := by
  obtain ⟨i, hi, hcmp⟩ := Option.map_eq_some_iff.1 strComp
  obtain ⟨j, hj, hjs⟩ := Option.map_eq_some_iff.1 strSize
  have h8 := @run_callFunc_extern Tryz.prog 184 _ Extern.ReflectliteType.typeOf Tryz.func184 (by kernel_rfl) (by kernel_rfl) (by kernel_rfl) (by kernel_rfl)
  have h32 := @run_callFunc_extern Tryz.prog 274 _ (Extern.ReflectliteType.method fun t => do Extern.Rtype.noPackHeld "Comparable" t; pure (.bool (← typeInfo t).comparable)) Tryz.func274 (by kernel_rfl) (by kernel_rfl) (by kernel_rfl) (by kernel_rfl)
  have tT := typeOfE
  have cT := compE
  have mR := methodComp
  unfold errV
  have heq := run_eql_iface_ptr_same (P := Tryz.prog) w a Tryz.underlying83 Tryz.underlying277 hi hcmp hj
  go_enter Tryz.func129, Tryz.ntmps129
  go_wp2
  refine wp_loop_rounds 1 ?_
  rw [rounds_succ]
  go_wp2
  go_ret
  exact ⟨rfl, rfl⟩

theorem is_nil (b : Addr) (w : World) :
    Calls Tryz.prog 129 #[.nilIface, errV b] w fun e w' => e = .returned (.bool false) ∧ w' = w := by
  unfold errV
  have hn := run_eql_iface_nil_left (P := Tryz.prog) w 277 (.pointer (some b)) Tryz.underlying83
  go_enter Tryz.func129, Tryz.ntmps129
  go_wp2
  go_ret
  exact ⟨rfl, rfl⟩

theorem is_other (a b : Addr) (ca cb : Array Value) (ta tb : TypeId) (w : World) (hne : a ≠ b) (ha : w.heap[a.block]? = some (.cells ca ta (0, 0))) (hb : w.heap[b.block]? = some (.cells cb tb (0, 0))) :
    Calls Tryz.prog 129 #[errV a, errV b] w fun e w' => e = .returned (.bool false) ∧ w' = w := by
  obtain ⟨i, hi, hcmp⟩ := Option.map_eq_some_iff.1 strComp
  obtain ⟨j, hj, hjs⟩ := Option.map_eq_some_iff.1 strSize
  have h8 := @run_callFunc_extern Tryz.prog 184 _ Extern.ReflectliteType.typeOf Tryz.func184 (by kernel_rfl) (by kernel_rfl) (by kernel_rfl) (by kernel_rfl)
  have h32 := @run_callFunc_extern Tryz.prog 274 _ (Extern.ReflectliteType.method fun t => do Extern.Rtype.noPackHeld "Comparable" t; pure (.bool (← typeInfo t).comparable)) Tryz.func274 (by kernel_rfl) (by kernel_rfl) (by kernel_rfl) (by kernel_rfl)
  have tT := typeOfE
  have cT := compE
  have mR := methodComp
  have nE := noIsE
  have uE := noUnwrapE
  have vE := noUnwrapsE
  unfold errV
  have heq := run_eql_iface_ptr_other (P := Tryz.prog) w Tryz.underlying83 Tryz.underlying277 hi hcmp hj (by rw [hjs]; decide) hne ha hb
  go_enter Tryz.func129, Tryz.ntmps129
  go_wp2
  refine wp_loop_rounds 1 ?_
  rw [rounds_succ]
  go_wp2
  go_ret
  exact ⟨rfl, rfl⟩

theorem unwrap_any (i c : Int) (x : Addr) (w : World) (hx : w.cell? ⟨1, 0, none⟩ = some (errV x)) :
    Calls Tryz.prog 269 #[.agg #[.int .i64 i, .int .i64 c]] w fun e w' => e = .returned (errV x) ∧ Below w.heap.size w w' := by
  unfold errV at hx ⊢
  have hx1 : (w.alloc (.cells #[.int .i64 i, .int .i64 c] 161)).cell? ⟨1, 0, none⟩ = some (.iface 277 (.pointer (some x))) := cell?_alloc_old _ hx
  go_enter Tryz.func269, Tryz.ntmps269
  go_wp2
  go_ret
  exact ⟨rfl, (Below.refl _ _).alloc (Nat.le_refl _) _⟩

/-- errors.Is(e, x), e the error that names a record, x what it wraps. -/
theorem is_rec_same (i c : Int) (x : Addr) (w : World) (hx : w.cell? ⟨1, 0, none⟩ = some (errV x)) :
    Calls Tryz.prog 129 #[recV i c, errV x] w fun e w' => e = .returned (.bool true) ∧ Below w.heap.size w w' := by
  obtain ⟨i0, hi, hcmp⟩ := Option.map_eq_some_iff.1 strComp
  obtain ⟨j0, hj, hjs⟩ := Option.map_eq_some_iff.1 strSize
  have h8 := @run_callFunc_extern Tryz.prog 184 _ Extern.ReflectliteType.typeOf Tryz.func184 (by kernel_rfl) (by kernel_rfl) (by kernel_rfl) (by kernel_rfl)
  have h32 := @run_callFunc_extern Tryz.prog 274 _ (Extern.ReflectliteType.method fun t => do Extern.Rtype.noPackHeld "Comparable" t; pure (.bool (← typeInfo t).comparable)) Tryz.func274 (by kernel_rfl) (by kernel_rfl) (by kernel_rfl) (by kernel_rfl)
  have tT := typeOfE
  have cT := compE
  have mR := methodComp
  have nW := noIsR
  have uW := hasUnwrapR
  have mU := methodUnwrap
  have heq := fun w' => run_eql_iface_ptr_same (P := Tryz.prog) w' x Tryz.underlying83 Tryz.underlying277 hi hcmp hj
  have hty := run_eql_iface_types (P := Tryz.prog) 161 277 (.agg #[.int .i64 i, .int .i64 c]) (.pointer (some x)) Tryz.underlying83 (by decide) w
  have HU := unwrap_any i c x w hx
  unfold recV
  unfold errV at *
  go_enter Tryz.func129, Tryz.ntmps129
  go_wp2
  refine wp_loop_rounds 2 ?_
  rw [rounds_succ]
  go_wp2_with (go_at_call 269; refine HU.mono ?_; rintro e w1 ⟨rfl, hb1⟩)
  rw [rounds_succ]
  go_wp2
  go_ret
  exact ⟨rfl, hb1⟩

/-- errors.Is(e, y), y another sentinel than the one that e wraps. -/
theorem is_rec_other (i c : Int) (x y : Addr) (cx cy : Array Value) (tx ty : TypeId) (w : World) (hx : w.cell? ⟨1, 0, none⟩ = some (errV x)) (hne : x ≠ y)
    (ha : w.heap[x.block]? = some (.cells cx tx (0, 0))) (hb : w.heap[y.block]? = some (.cells cy ty (0, 0))) :
    Calls Tryz.prog 129 #[recV i c, errV y] w fun e w' => e = .returned (.bool false) ∧ Below w.heap.size w w' := by
  obtain ⟨i0, hi, hcmp⟩ := Option.map_eq_some_iff.1 strComp
  obtain ⟨j0, hj, hjs⟩ := Option.map_eq_some_iff.1 strSize
  have h8 := @run_callFunc_extern Tryz.prog 184 _ Extern.ReflectliteType.typeOf Tryz.func184 (by kernel_rfl) (by kernel_rfl) (by kernel_rfl) (by kernel_rfl)
  have h32 := @run_callFunc_extern Tryz.prog 274 _ (Extern.ReflectliteType.method fun t => do Extern.Rtype.noPackHeld "Comparable" t; pure (.bool (← typeInfo t).comparable)) Tryz.func274 (by kernel_rfl) (by kernel_rfl) (by kernel_rfl) (by kernel_rfl)
  have tT := typeOfE
  have cT := compE
  have mR := methodComp
  have nE := noIsE
  have uE := noUnwrapE
  have vE := noUnwrapsE
  have nW := noIsR
  have uW := hasUnwrapR
  have mU := methodUnwrap
  have hty := run_eql_iface_types (P := Tryz.prog) 161 277 (.agg #[.int .i64 i, .int .i64 c]) (.pointer (some y)) Tryz.underlying83 (by decide) w
  have HU := unwrap_any i c x w hx
  unfold recV
  unfold errV at *
  go_enter Tryz.func129, Tryz.ntmps129
  go_wp2
  refine wp_loop_rounds 2 ?_
  rw [rounds_succ]
  go_wp2_with (go_at_call 269; refine HU.mono ?_; rintro e w1 ⟨rfl, hb1⟩)
  have heq := run_eql_iface_ptr_other (P := Tryz.prog) w1 Tryz.underlying83 Tryz.underlying277 hi hcmp hj (by rw [hjs]; decide) hne ((hb1.block _ (Array.getElem?_eq_some_iff.1 ha).1).trans ha) ((hb1.block _ (Array.getElem?_eq_some_iff.1 hb).1).trans hb)
  rw [rounds_succ]
  go_wp2
  go_ret
  exact ⟨rfl, hb1⟩

end Go.Proofs.YtibekkfbpmloiabGreatDoor.Errs

/- What the rows' lists give: the table of kinds, the two sentinels. -/
namespace Go.Proofs.YtibekkfbpmloiabGreatDoor.Recs
set_option maxRecDepth 100000
open Go.RowKit Paths Errs

theorem gLong : Tryz.prog.globalNamed "loop.example/g00798/impl.errTooLong" = some 0 := by kernel_rfl
theorem gLongType : (Tryz.prog.globals[(0 : Nat)]?).map (·.type) = some 83 := by kernel_rfl
theorem gBad : Tryz.prog.globalNamed "loop.example/g00798/impl.errInvalid" = some 1 := by kernel_rfl
theorem gBadType : (Tryz.prog.globals[(1 : Nat)]?).map (·.type) = some 83 := by kernel_rfl

theorem star : "*" ++ "errors.errorString" = "*errors.errorString" := by decide
theorem rowErr (u : TypeId) (h : Tryz.prog.typeName? 3 u = some "*errors.errorString") : u = 277 :=
  typeName_ptr_named (nm := "errors.errorString") (by rw [star]; kernel_rfl) (by kernel_rfl) (by decide) u (by rw [star]; exact h)

section
variable {H : Type} {enc : TypeId × Value → H} {P : Program} {w : World} {spare : Nat → Bool}
theorem vars2 {a b : String} {gs : List (DataW H)} {ps : List MemPlace} (h : DataW.TrodVars enc P w spare [a, b] gs ps) : ∃ x y, gs = [x, y] := by
  cases gs with
  | nil => exact h.elim
  | cons x t =>
    obtain ⟨_, _, _, _, _, q, _, _, _, _, h2, _⟩ := h
    cases t with
    | nil => exact h2.elim
    | cons y t =>
      obtain ⟨_, _, _, _, _, q, _, _, _, _, h3, _⟩ := h2
      cases t with
      | nil => exact ⟨x, y, rfl⟩
      | cons z t => exact h3.elim
theorem vars3 {a b c : String} {gs : List (DataW H)} {ps : List MemPlace} (h : DataW.TrodVars enc P w spare [a, b, c] gs ps) : ∃ x y z, gs = [x, y, z] := by
  cases gs with
  | nil => exact h.elim
  | cons x t =>
    obtain ⟨_, _, _, _, _, q, _, _, _, _, h2, _⟩ := h
    obtain ⟨y, z, rfl⟩ := vars2 h2
    exact ⟨x, y, z, rfl⟩
end

/-- The table, and the first sentinel. -/
structure Two (w : World) : Prop where
  tab : Tab w
  long : ∃ x, w.cell? ⟨0, 0, none⟩ = some (errV x)
theorem Two.below {w w' : World} {B : Nat} (h : Two w) (hb : Below B w w') (hB : w.heap.size ≤ B) : Two w' := by
  obtain ⟨x, hx⟩ := h.long
  exact ⟨h.tab.below hb hB, x, (hb.cell (p := ⟨0, 0, none⟩) (Nat.lt_of_lt_of_le (World.block_lt_of_cell? w _ hx) hB)).trans hx⟩

/-- The table, and the two sentinels: two pointers into rows of which nothing is frozen. -/
structure Three (w : World) (x y : Addr) : Prop where
  tab : Tab w
  long : w.cell? ⟨0, 0, none⟩ = some (errV x)
  bad : w.cell? ⟨1, 0, none⟩ = some (errV y)
  ne : x ≠ y
  rowx : ∃ c t, w.heap[x.block]? = some (.cells c t (0, 0))
  rowy : ∃ c t, w.heap[y.block]? = some (.cells c t (0, 0))
theorem Three.below {w w' : World} {B : Nat} {x y : Addr} (h : Three w x y) (hb : Below B w w') (hB : w.heap.size ≤ B) : Three w' x y := by
  obtain ⟨cx, tx, hx⟩ := h.rowx
  obtain ⟨cy, ty, hy⟩ := h.rowy
  exact ⟨h.tab.below hb hB, (hb.cell (p := ⟨0, 0, none⟩) (Nat.lt_of_lt_of_le (World.block_lt_of_cell? w _ h.long) hB)).trans h.long,
    (hb.cell (p := ⟨1, 0, none⟩) (Nat.lt_of_lt_of_le (World.block_lt_of_cell? w _ h.bad) hB)).trans h.bad, h.ne,
    ⟨cx, tx, (hb.block _ (Nat.lt_of_lt_of_le (Array.getElem?_eq_some_iff.1 hx).1 hB)).trans hx⟩, ⟨cy, ty, (hb.block _ (Nat.lt_of_lt_of_le (Array.getElem?_eq_some_iff.1 hy).1 hB)).trans hy⟩⟩

theorem three_of {W : World} (hm : laidMet Tryz.prog [("loop.example/g00798/impl.kindRules", Rows.laid_loop_example_g00798_impl_kindRules), ("loop.example/g00798/impl.errTooLong", Rows.laid_loop_example_g00798_impl_errTooLong), ("loop.example/g00798/impl.errInvalid", Rows.laid_loop_example_g00798_impl_errInvalid)] W) : ∃ x y, Three W x y := by
  obtain ⟨x, y, s0, s1, c0, c1, t0, t1, hv0, hv1, hc0, hs0, hz0, hc1, hs1, hz1, hne, hb0, hb1⟩ := laid_sentinels2 hm.tail gLong gLongType gBad gBadType Tryz.underlying83 rowErr Tryz.underlying277 Tryz.underlying300 rfl rfl Tryz.underlying9 (by kernel_rfl) (by kernel_rfl)
  refine ⟨x, y, ?_, ?_, ?_, hne, ⟨_, _, hb0⟩, ⟨_, _, hb1⟩⟩
  · obtain ⟨ps, ⟨g', t', cs, fuel, p, q, hg', ht', hvar, hd, _, _⟩, _⟩ := hm
    obtain rfl := Option.some.inj (gTab.symm.trans hg')
    obtain rfl := Option.some.inj (gTabType.symm.trans ht')
    exact tab_of_cells hg' hvar (rules_of_trod hd)
  · rw [World.var?_cell gLong hv0 0]
    rfl
  · rw [World.var?_cell gBad hv1 0]
    rfl
theorem laid3 {W : World} (h : laidMetH Tryz.prog [("loop.example/g00798/impl.kindRules", Rows.laid_loop_example_g00798_impl_kindRules), ("loop.example/g00798/impl.errTooLong", Rows.laid_loop_example_g00798_impl_errTooLong), ("loop.example/g00798/impl.errInvalid", Rows.laid_loop_example_g00798_impl_errInvalid)] W) : ∃ x y, Three W x y :=
  three_of (show laidMet Tryz.prog _ W from h)
end Go.Proofs.YtibekkfbpmloiabGreatDoor.Recs

/- A tree in memory: its nodes as a list, its nodes as records (nodes, of the program; what LayerOfTree hands to each). -/
namespace Go.Proofs.YtibekkfbpmloiabGreatDoor.Recs
set_option maxRecDepth 100000
open Go.RowKit Paths

theorem nodR_cells_new (w : World) (r : R) (t : TypeId) (j : Nat) (u : Value) (h : r.ns[j]? = some u) : (w.alloc (.cells #[.int .i64 r.k, .string r.p, .string r.b, .int .i64 r.m] t)).cell? ((⟨w.heap.size, 0, none⟩ : Addr).add j) = some u := by
  rw [Addr.add_lit]
  match j, h with
  | 0, h => cases h; go_simp
  | 1, h => cases h; go_simp
  | 2, h => cases h; go_simp
  | 3, h => cases h; go_simp
  | j + 4, h => simp [R.ns] at h
theorem nodR_one (r : R) : ∀ u ∈ r.ns, u.oneCell' = true := by
  intro u hu
  simp only [R.ns, List.mem_cons, List.not_mem_nil, or_false] at hu
  rcases hu with rfl | rfl | rfl | rfl <;> rfl
theorem flatN_snoc (M : List R) (r : R) : flatN (M ++ [r]) = flatN M ++ r.ns := by simp [flatN]
theorem rowN_snoc {w : World} {base : Nat} {v : Value} {M : List R} {r : R} (h : w.ownsRow base 68 4 v (M.length + 1) (flatN M ++ r.ns)) (hM : ∀ x ∈ M, x.o = false) (hr : r.o = false) : RowN w base v (M ++ [r]).length (M ++ [r]) :=
  ⟨rfl, by rw [flatN_snoc, List.length_append]; exact h, fun x hx => by
    rcases List.mem_append.1 hx with hx | hx
    · exact hM x hx
    · rw [List.mem_singleton.1 hx]; exact hr⟩
theorem own_not {w : World} {base : Nat} {e e' : TypeId} {size : Nat} {v : Value} {m : Nat} {xs : List Value} (h : w.ownsRow base e size v m xs) (he : e ≠ e') {g : Nat} {cur : Array Value} {fz : Nat × Nat} (hg : w.heap[g]? = some (.cells cur e' fz)) : v.ownBlock ≠ some g := fun e0 => by
  rcases h.2 with ⟨rfl, _⟩ | ⟨g', cap, cur', rfl, _, hh, _⟩
  · cases e0
  · cases e0
    rw [hg] at hh
    simp only [Option.some.injEq, Obj.cells.injEq] at hh
    exact he hh.2.1.symm

end Go.Proofs.YtibekkfbpmloiabGreatDoor.Recs

/- Rows of nodes: parts of a row as the source of an append; a copy of a list of nodes that is never nil. -/
namespace Go.Proofs.YtibekkfbpmloiabGreatDoor.Recs
set_option maxRecDepth 100000
open Go.RowKit Paths

theorem flatN_append (a b : List R) : flatN (a ++ b) = flatN a ++ flatN b := by simp [flatN]
theorem flatN_take (l : List R) (k : Nat) : flatN (l.take k) = (flatN l).take (k * 4) := by
  by_cases hk : k ≤ l.length
  · conv => rhs; rw [← List.take_append_drop k l, flatN_append]
    rw [List.take_left' (by rw [flatN_len, List.length_take]; omega)]
  · rw [List.take_of_length_le (by omega), List.take_of_length_le (by rw [flatN_len]; omega)]
theorem flatN_drop (l : List R) (k : Nat) : flatN (l.drop k) = (flatN l).drop (k * 4) := by
  by_cases hk : k ≤ l.length
  · conv => rhs; rw [← List.take_append_drop k l, flatN_append]
    rw [List.drop_left' (by rw [flatN_len, List.length_take]; omega)]
  · rw [List.drop_eq_nil_of_le (by omega), List.drop_eq_nil_of_le (by rw [flatN_len]; omega)]
    rfl
theorem flatN_one (l : List R) : ∀ u ∈ flatN l, u.oneCell' = true := by
  intro u hu
  unfold flatN at hu
  rw [List.mem_flatMap] at hu
  obtain ⟨r, _, hr⟩ := hu
  exact nodR_one r u hr
/-- The cells of a part of a row. -/
theorem src_cells {w : World} {base g cap n : Nat} {l : List R} (h : RowN w base (.slice (some ⟨g, 0, none⟩) n cap) n l) (i : Nat) (m : List R) (hm : m = l.drop i ∨ (i = 0 ∧ ∃ k, m = l.take k)) :
    ∀ j u, (flatN m)[j]? = some u → w.cell? ((⟨g, i * 4, none⟩ : Addr).add j) = some u := by
  intro j u hj
  rw [Addr.add_lit]
  have key : (flatN l)[i * 4 + j]? = some u := by
    rcases hm with rfl | ⟨rfl, k, rfl⟩
    · rw [flatN_drop, List.getElem?_drop] at hj
      exact hj
    · rw [flatN_take, List.getElem?_take] at hj
      split at hj
      · rw [Nat.zero_mul, Nat.zero_add]; exact hj
      · cases hj
  have hlt : i * 4 + j < n * 4 := by
    have := (List.getElem?_eq_some_iff.1 key).1
    rw [flatN_len, h.1] at this
    exact this
  rw [h.2.1.cellAt (i * 4 + j) hlt]
  exact key
theorem notnil {w : World} {base : Nat} {v : Value} {n : Nat} {M : List R} (h : RowN w base v n M) (hv : v ≠ .slice none 0 0) : ∃ g cap, v = .slice (some ⟨g, 0, none⟩) n cap ∧ n ≤ cap ∧ cap ≤ maxLen ∧ base ≤ g ∧ g < w.heap.size := by
  rcases h.2.1.2 with ⟨rfl, _⟩ | ⟨g, cap, cur, rfl, hb, hg, hc, hm, _⟩
  · exact absurd rfl hv
  · exact ⟨g, cap, rfl, hc, hm, hb, (Array.getElem?_eq_some_iff.1 hg).1⟩

theorem own_down {w : World} {base base' : Nat} {e : TypeId} {size : Nat} {v : Value} {n : Nat} {xs : List Value} (h : w.ownsRow base e size v n xs) (hb : base' ≤ base) : w.ownsRow base' e size v n xs := by
  obtain ⟨h1, h2⟩ := h
  refine ⟨h1, ?_⟩
  rcases h2 with h2 | ⟨g, cap', cur, a, b, c⟩
  · exact .inl h2
  · exact .inr ⟨g, cap', cur, a, Nat.le_trans hb b, c⟩
end Go.Proofs.YtibekkfbpmloiabGreatDoor.Recs
