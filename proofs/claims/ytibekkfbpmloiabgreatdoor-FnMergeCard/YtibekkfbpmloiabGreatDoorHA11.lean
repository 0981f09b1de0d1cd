/- Parts of several texts of mine in one file (each begins with its own remark). -/
import Derived.Test.YtibekkfbpmloiabGreatDoorHA1
import Derived.Test.YtibekkfbpmloiabGreatDoorHA10
import Derived.Test.YtibekkfbpmloiabGreatDoorHA2
import Derived.Test.YtibekkfbpmloiabGreatDoorHA3
import Derived.Test.YtibekkfbpmloiabGreatDoorHA4
import Derived.Test.YtibekkfbpmloiabGreatDoorHA6
import Derived.Test.YtibekkfbpmloiabGreatDoorHA9
import Derived.Test.YtibekkfbpmloiabGreatDoorChecked
import Derived.Test.YtibekkfbpmloiabGreatDoorShelf
import Derived.Test.YtibekkfbpmloiabGreatDoorProg
import Derived.Stop.LaidErr
import Derived.StillTailTactics
import Derived.Laws.OwnMore
import Derived.BigQuiet
import Derived.BigRegion
import Derived.Deep.QuietTactic
import Derived.Deep.RegionHeld3
import Derived.Deep.Slices
import Derived.OpenShut
import Derived.ShutString
import Derived.ChangeArms
import Derived.WideShapes
import Derived.Lib.LaidTab
import Derived.Deep.Draws
import Derived.Deep.LoopGhost
import Derived.WalkKit
import Derived.WalkSpells
import Derived.WalkSmall
import Derived.Lib.OthersKept
import Derived.Lib.Hide
import Derived.Lib.Strings
import Derived.Lib.Join
import Derived.Laws.BytesArg
import Derived.WalkLawsBesides
import Derived.LaidEql
import Derived.Stop.Asserts
import Derived.Below
import Derived.Stop.LaidTwo
/- Layers: the program's searches (slices.IndexFunc, slices.ContainsFunc, with what it hands them). -/
namespace Go.Proofs.YtibekkfbpmloiabGreatDoor.Recs
set_option maxRecDepth 100000
open Go.RowKit Paths

/-- The place of the first record that a test takes, counted from n on; -1 of none. -/
def idxFrom (P : R → Bool) : List R → Nat → Int
  | [], _ => -1
  | r :: t, n => if P r then (n : Int) else idxFrom P t (n + 1)
theorem idx_step {P : R → Bool} {l : List R} {k : Nat} (h : k < l.length) : idxFrom P (l.drop k) k = if P l[k] then (k : Int) else idxFrom P (l.drop (k + 1)) (k + 1) := by
  rw [List.drop_eq_getElem_cons h]
  rfl
theorem idx_end {P : R → Bool} {l : List R} {k : Nat} (h : l.length ≤ k) : idxFrom P (l.drop k) k = -1 := by
  rw [List.drop_eq_nil_of_le h]
  rfl
theorem idx_at (q : ByteArray) : ∀ (l : List R) (n : Nat), idxFrom (fun r => r.p.toList == q.toList) l n = atFrom l n q
  | [], _ => rfl
  | r :: t, n => by
    simp only [idxFrom, atFrom]
    rw [idx_at q t (n + 1)]
    by_cases h : r.p = q
    · rw [if_pos h, if_pos (by rw [h]; simp)]
    · rw [if_neg h, if_neg (fun e => h (str_eq_of e))]
theorem idx_any (P : R → Bool) : ∀ (l : List R) (n : Nat), decide (0 ≤ idxFrom P l n) = l.any P
  | [], _ => rfl
  | r :: t, n => by
    rcases Bool.eq_false_or_eq_true (P r) with h | h
    · simp [idxFrom, h]
    · have := idx_any P t (n + 1)
      simp only [idxFrom, List.any_cons, h]
      simpa using this

set_option maxHeartbeats 800000 in
theorem indexFunc_path (v : Value) (l : List R) (c : Addr) (P : R → Bool) (w : World) (h : RecSl w v l) (hl : l.length ≤ 1048576)
    (HF : ∀ r ∈ l, ∀ w', Below w.heap.size w w' → Calls Tryz.prog 168 #[r.val, .pointer (some c)] w' fun e w'' => e = .returned (.bool (P r)) ∧ Below w'.heap.size w' w'') :
    Calls Tryz.prog 167 #[v, .func (.func 168) #[] #[.pointer (some c)]] w fun e w' => e = .returned (.int .i64 (idxFrom P l 0)) ∧ Below w.heap.size w w' := by
  obtain ⟨A, cap, rfl, hcap, h⟩ := h
  have H := Lib.hid h
  have HFh := Lib.hid HF
  clear h HF
  go_enter Tryz.func167, Tryz.ntmps167
  go_wp2
  go_loopw [8] (fun i wr => ∃ k : Nat, k ≤ l.length ∧ i = .int .i64 k ∧ Hid (idxFrom P l 0 = idxFrom P (l.drop k) k) ∧ Below w.heap.size w wr) (fun i _ => l.length - (intOf i).toNat)
  case atStart => exact ⟨0, by omega, rfl, rfl, Below.refl _ _⟩
  case round =>
    obtain ⟨k, hk, rfl, HK, hbw⟩ := hrel
    by_cases hlt : k < l.length
    · obtain ⟨b, off, rfl, hb, hcell⟩ := H.out (by omega)
      obtain ⟨c0, c1, c2, c3, c4⟩ := (hcell k l[k] (by simp [hlt])).below hbw hb
      have HS := Lib.hid (HK.out.trans (idx_step hlt))
      clear hcell HK
      have hi1 : (k : Int) < (l.length : Int) := by omega
      have hi0 : (0 : Int) ≤ (k : Int) := by omega
      have HC := HFh.out l[k] (List.getElem_mem hlt) _ hbw
      unfold R.val at HC
      rcases Bool.eq_false_or_eq_true (P l[k]) with he | he
      · have HE : Hid (idxFrom P l 0 = k) := by show _ = _; rw [HS.out, if_pos he]
        go_wp2_with (go_at_call 168; refine HC.mono ?_; rintro e w1 ⟨rfl, hb1⟩)
        go_ret
        exact ⟨ret_int HE.out.symm, hbw.trans (hb1.mono hbw.size)⟩
      · have HE : Hid (idxFrom P l 0 = idxFrom P (l.drop (k + 1)) (k + 1)) := by show _ = _; rw [HS.out, if_neg (by rw [he]; decide)]
        go_wp2_with (go_at_call 168; refine HC.mono ?_; rintro e w1 ⟨rfl, hb1⟩)
        exact ⟨⟨k + 1, by omega, by go_num, HE, hbw.trans (hb1.mono hbw.size)⟩, by simp [intOf]; omega⟩
    · have HE := Lib.hid (HK.out.trans (idx_end (by omega)))
      go_wp2
      go_ret
      exact ⟨ret_int HE.out.symm, hbw⟩

theorem path_test (r : R) (c : Nat) (q : ByteArray) (w : World) (h : w.cell? ⟨c, 0, none⟩ = some (.string q)) :
    Calls Tryz.prog 168 #[r.val, .pointer (some ⟨c, 0, none⟩)] w fun e w' => e = .returned (.bool (r.p.toList == q.toList)) ∧ Below w.heap.size w w' := by
  unfold R.val
  have h1 : (w.alloc (.cells #[.int .i64 r.k, .string r.p, .string r.b, .int .i64 r.m, .bool r.o] 53)).cell? ⟨c, 0, none⟩ = some (.string q) := cell?_alloc_old _ h
  go_enter Tryz.func168, Tryz.ntmps168
  go_wp2
  go_ret
  exact ⟨rfl, (Below.refl _ _).alloc (Nat.le_refl _) _⟩

theorem indexOfPath_any (v : Value) (l : List R) (q : ByteArray) (w : World) (h : RecSl w v l) (hl : l.length ≤ 1048576) :
    Calls Tryz.prog 103 #[v, .string q] w fun e w' => e = .returned (.int .i64 (atL l q)) ∧ Below w.heap.size w w' := by
  have hb0 : Below w.heap.size w (w.alloc (.cells #[.string q] 9)) := (Below.refl _ _).alloc (Nat.le_refl _) _
  have hc0 : (w.alloc (.cells #[.string q] 9)).cell? ⟨w.heap.size, 0, none⟩ = some (.string q) := by go_simp
  have h0 := h.below hb0
  have HC := indexFunc_path v l ⟨w.heap.size, 0, none⟩ (fun r => r.p.toList == q.toList) (w.alloc (.cells #[.string q] 9)) h0 hl
    (fun r _ w' hb => path_test r w.heap.size q w' ((hb.cell (p := ⟨w.heap.size, 0, none⟩) (by simp)).trans hc0))
  rw [idx_at] at HC
  obtain ⟨A, cap, rfl, _⟩ := h
  go_enter Tryz.func103, Tryz.ntmps103
  go_wp2_with fail
  refine HC.mono ?_
  rintro e w1 ⟨rfl, hb1⟩
  go_wp2_with fail
  go_ret
  exact ⟨rfl, hb0.trans (hb1.mono hb0.size)⟩

end Go.Proofs.YtibekkfbpmloiabGreatDoor.Recs

/- Errors: errors.Is at nil, at a sentinel, at the program's own error that names a record. Conditions: as each states. -/
namespace Go.Proofs.YtibekkfbpmloiabGreatDoor.Errs
set_option maxRecDepth 100000
open Go.RowKit Go.Extern

/-! ### Closed facts of the types -/
theorem typeOfE (v : Value) (w : World) : (Extern.ReflectliteType.typeOf #[.iface 277 v]).run Tryz.prog w = .ok (.iface 217 (.agg #[.pointer (some ⟨4, 277, none⟩)])) w := by kernel_rfl
theorem compE (w : World) : ((Extern.ReflectliteType.method fun t => do Extern.Rtype.noPackHeld "Comparable" t; (fun a => Value.bool a.comparable) <$> typeInfo t) #[.agg #[.pointer (some ⟨4, 277, none⟩)]]).run Tryz.prog w = .ok (.bool true) w := by kernel_rfl
theorem methodComp (n : Nat) (v : Value) (w : World) : (Go.method (n + 1) 217 v "Comparable").run Tryz.prog w = .ok (274, v) w := by kernel_rfl
theorem methodUnwrap (n : Nat) (i c : Int) (w : World) : (Go.method (n + 1) 161 (.agg #[.int .i64 i, .int .i64 c]) "Unwrap").run Tryz.prog w = .ok (269, .agg #[.int .i64 i, .int .i64 c]) w := by kernel_rfl
theorem strComp : (Tryz.prog.info? 277).map (·.comparable) = some true := by kernel_rfl
theorem strSize : (Tryz.prog.info? 300).map (·.size) = some 1 := by kernel_rfl

theorem noIsE (v : Value) (xT : TypeId) (w : World) : (Instr.typeAssert (.iface 277 v) xT 219 true).run Tryz.prog w = .ok (.tuple #[.nilIface, .bool false]) w := run_typeAssert_lacksB Tryz.underlying219 (by kernel_rfl) (by kernel_rfl) v xT w
theorem noUnwrapE (v : Value) (xT : TypeId) (w : World) : (Instr.typeAssert (.iface 277 v) xT 222 true).run Tryz.prog w = .ok (.tuple #[.nilIface, .bool false]) w := run_typeAssert_lacksB Tryz.underlying222 (by kernel_rfl) (by kernel_rfl) v xT w
theorem noUnwrapsE (v : Value) (xT : TypeId) (w : World) : (Instr.typeAssert (.iface 277 v) xT 224 true).run Tryz.prog w = .ok (.tuple #[.nilIface, .bool false]) w := run_typeAssert_lacksB Tryz.underlying224 (by kernel_rfl) (by kernel_rfl) v xT w
theorem noIsR (v : Value) (xT : TypeId) (w : World) : (Instr.typeAssert (.iface 161 v) xT 219 true).run Tryz.prog w = .ok (.tuple #[.nilIface, .bool false]) w := run_typeAssert_lacksB Tryz.underlying219 (by kernel_rfl) (by kernel_rfl) v xT w
theorem hasUnwrapR (v : Value) (xT : TypeId) (w : World) : (Instr.typeAssert (.iface 161 v) xT 222 true).run Tryz.prog w = .ok (.tuple #[.iface 161 v, .bool true]) w := run_typeAssert_hasB Tryz.underlying222 (by kernel_rfl) v xT w

/-- An error of errors.New's make. -/
def errV (a : Addr) : Value := .iface 277 (.pointer (some a))
/-- The program's error that names a record. -/
def recV (i c : Int) : Value := .iface 161 (.agg #[.int .i64 i, .int .i64 c])

theorem is_same (a : Addr) (w : World) :
    Calls Tryz.prog 129 #[errV a, errV a] w fun e w' => e = .returned (.bool true) ∧ w' = w := by
  obtain ⟨i, hi, hcmp⟩ := Option.map_eq_some_iff.1 strComp
  obtain ⟨j, hj, hjs⟩ := Option.map_eq_some_iff.1 strSize
  have h8 := @run_callFunc_extern Tryz.prog 184 _ Extern.ReflectliteType.typeOf Tryz.func184 (by kernel_rfl) (by kernel_rfl) (by kernel_rfl) (by kernel_rfl)
  have h32 := @run_callFunc_extern Tryz.prog 274 _ (Extern.ReflectliteType.method fun t => do Extern.Rtype.noPackHeld "Comparable" t; pure (.bool (← typeInfo t).comparable)) Tryz.func274 (by kernel_rfl) (by kernel_rfl) (by kernel_rfl) (by kernel_rfl)
  have tT := typeOfE
  have cT := compE
  have mR := methodComp
  unfold errV
  have heq := run_eql_iface_ptr_same (P := Tryz.prog) w a Tryz.underlying83 Tryz.underlying277 hi hcmp hj
  go_enter Tryz.func129, Tryz.ntmps129
  go_wp2
  refine wp_loop_rounds 1 ?_
  rw [rounds_succ]
  go_wp2
  go_ret
  exact ⟨rfl, rfl⟩

theorem is_nil (b : Addr) (w : World) :
    Calls Tryz.prog 129 #[.nilIface, errV b] w fun e w' => e = .returned (.bool false) ∧ w' = w := by
  unfold errV
  have hn := run_eql_iface_nil_left (P := Tryz.prog) w 277 (.pointer (some b)) Tryz.underlying83
  go_enter Tryz.func129, Tryz.ntmps129
  go_wp2
  go_ret
  exact ⟨rfl, rfl⟩

theorem is_other (a b : Addr) (ca cb : Array Value) (ta tb : TypeId) (w : World) (hne : a ≠ b) (ha : w.heap[a.block]? = some (.cells ca ta (0, 0))) (hb : w.heap[b.block]? = some (.cells cb tb (0, 0))) :
    Calls Tryz.prog 129 #[errV a, errV b] w fun e w' => e = .returned (.bool false) ∧ w' = w := by
  obtain ⟨i, hi, hcmp⟩ := Option.map_eq_some_iff.1 strComp
  obtain ⟨j, hj, hjs⟩ := Option.map_eq_some_iff.1 strSize
  have h8 := @run_callFunc_extern Tryz.prog 184 _ Extern.ReflectliteType.typeOf Tryz.func184 (by kernel_rfl) (by kernel_rfl) (by kernel_rfl) (by kernel_rfl)
  have h32 := @run_callFunc_extern Tryz.prog 274 _ (Extern.ReflectliteType.method fun t => do Extern.Rtype.noPackHeld "Comparable" t; pure (.bool (← typeInfo t).comparable)) Tryz.func274 (by kernel_rfl) (by kernel_rfl) (by kernel_rfl) (by kernel_rfl)
  have tT := typeOfE
  have cT := compE
  have mR := methodComp
  have nE := noIsE
  have uE := noUnwrapE
  have vE := noUnwrapsE
  unfold errV
  have heq := run_eql_iface_ptr_other (P := Tryz.prog) w Tryz.underlying83 Tryz.underlying277 hi hcmp hj (by rw [hjs]; decide) hne ha hb
  go_enter Tryz.func129, Tryz.ntmps129
  go_wp2
  refine wp_loop_rounds 1 ?_
  rw [rounds_succ]
  go_wp2
  go_ret
  exact ⟨rfl, rfl⟩

theorem unwrap_any (i c : Int) (x : Addr) (w : World) (hx : w.cell? ⟨1, 0, none⟩ = some (errV x)) :
    Calls Tryz.prog 269 #[.agg #[.int .i64 i, .int .i64 c]] w fun e w' => e = .returned (errV x) ∧ Below w.heap.size w w' := by
  unfold errV at hx ⊢
  have hx1 : (w.alloc (.cells #[.int .i64 i, .int .i64 c] 161)).cell? ⟨1, 0, none⟩ = some (.iface 277 (.pointer (some x))) := cell?_alloc_old _ hx
  go_enter Tryz.func269, Tryz.ntmps269
  go_wp2
  go_ret
  exact ⟨rfl, (Below.refl _ _).alloc (Nat.le_refl _) _⟩

/-- errors.Is(e, x), e the error that names a record, x what it wraps. -/
theorem is_rec_same (i c : Int) (x : Addr) (w : World) (hx : w.cell? ⟨1, 0, none⟩ = some (errV x)) :
    Calls Tryz.prog 129 #[recV i c, errV x] w fun e w' => e = .returned (.bool true) ∧ Below w.heap.size w w' := by
  obtain ⟨i0, hi, hcmp⟩ := Option.map_eq_some_iff.1 strComp
  obtain ⟨j0, hj, hjs⟩ := Option.map_eq_some_iff.1 strSize
  have h8 := @run_callFunc_extern Tryz.prog 184 _ Extern.ReflectliteType.typeOf Tryz.func184 (by kernel_rfl) (by kernel_rfl) (by kernel_rfl) (by kernel_rfl)
  have h32 := @run_callFunc_extern Tryz.prog 274 _ (Extern.ReflectliteType.method fun t => do Extern.Rtype.noPackHeld "Comparable" t; pure (.bool (← typeInfo t).comparable)) Tryz.func274 (by kernel_rfl) (by kernel_rfl) (by kernel_rfl) (by kernel_rfl)
  have tT := typeOfE
  have cT := compE
  have mR := methodComp
  have nW := noIsR
  have uW := hasUnwrapR
  have mU := methodUnwrap
  have heq := fun w' => run_eql_iface_ptr_same (P := Tryz.prog) w' x Tryz.underlying83 Tryz.underlying277 hi hcmp hj
  have hty := run_eql_iface_types (P := Tryz.prog) 161 277 (.agg #[.int .i64 i, .int .i64 c]) (.pointer (some x)) Tryz.underlying83 (by decide) w
  have HU := unwrap_any i c x w hx
  unfold recV
  unfold errV at *
  go_enter Tryz.func129, Tryz.ntmps129
  go_wp2
  refine wp_loop_rounds 2 ?_
  rw [rounds_succ]
  go_wp2_with (go_at_call 269; refine HU.mono ?_; rintro e w1 ⟨rfl, hb1⟩)
  rw [rounds_succ]
  go_wp2
  go_ret
  exact ⟨rfl, hb1⟩

/-- errors.Is(e, y), y another sentinel than the one that e wraps. -/
theorem is_rec_other (i c : Int) (x y : Addr) (cx cy : Array Value) (tx ty : TypeId) (w : World) (hx : w.cell? ⟨1, 0, none⟩ = some (errV x)) (hne : x ≠ y)
    (ha : w.heap[x.block]? = some (.cells cx tx (0, 0))) (hb : w.heap[y.block]? = some (.cells cy ty (0, 0))) :
    Calls Tryz.prog 129 #[recV i c, errV y] w fun e w' => e = .returned (.bool false) ∧ Below w.heap.size w w' := by
  obtain ⟨i0, hi, hcmp⟩ := Option.map_eq_some_iff.1 strComp
  obtain ⟨j0, hj, hjs⟩ := Option.map_eq_some_iff.1 strSize
  have h8 := @run_callFunc_extern Tryz.prog 184 _ Extern.ReflectliteType.typeOf Tryz.func184 (by kernel_rfl) (by kernel_rfl) (by kernel_rfl) (by kernel_rfl)
  have h32 := @run_callFunc_extern Tryz.prog 274 _ (Extern.ReflectliteType.method fun t => do Extern.Rtype.noPackHeld "Comparable" t; pure (.bool (← typeInfo t).comparable)) Tryz.func274 (by kernel_rfl) (by kernel_rfl) (by kernel_rfl) (by kernel_rfl)
  have tT := typeOfE
  have cT := compE
  have mR := methodComp
  have nE := noIsE
  have uE := noUnwrapE
  have vE := noUnwrapsE
  have nW := noIsR
  have uW := hasUnwrapR
  have mU := methodUnwrap
  have hty := run_eql_iface_types (P := Tryz.prog) 161 277 (.agg #[.int .i64 i, .int .i64 c]) (.pointer (some y)) Tryz.underlying83 (by decide) w
  have HU := unwrap_any i c x w hx
  unfold recV
  unfold errV at *
  go_enter Tryz.func129, Tryz.ntmps129
  go_wp2
  refine wp_loop_rounds 2 ?_
  rw [rounds_succ]
  go_wp2_with (go_at_call 269; refine HU.mono ?_; rintro e w1 ⟨rfl, hb1⟩)
  have heq := run_eql_iface_ptr_other (P := Tryz.prog) w1 Tryz.underlying83 Tryz.underlying277 hi hcmp hj (by rw [hjs]; decide) hne ((hb1.block _ (Array.getElem?_eq_some_iff.1 ha).1).trans ha) ((hb1.block _ (Array.getElem?_eq_some_iff.1 hb).1).trans hb)
  rw [rounds_succ]
  go_wp2
  go_ret
  exact ⟨rfl, hb1⟩

end Go.Proofs.YtibekkfbpmloiabGreatDoor.Errs

/- Layers: the program's check of one: the code of a record behind others, the error of a list. Conditions: the table of kinds, the sentinel (as each states). -/
namespace Go.Proofs.YtibekkfbpmloiabGreatDoor.Recs
set_option maxRecDepth 100000
open Go.RowKit Paths Errs

def ordC (L : List R) (q : ByteArray) : Int := match L.getLast? with | none => 0 | some x => if x.p = q then 18 else if lessB x.p q then 0 else 11
theorem ord_nil (q : ByteArray) : ordC [] q = 0 := rfl
theorem ord_last {L : List R} {n : Nat} (hn : L.length = n + 1) (q : ByteArray) : ordC L q = if (L[n]'(by omega)).p = q then 18 else if lessB (L[n]'(by omega)).p q then 0 else 11 := by
  have e : L[L.length - 1]? = some (L[n]'(by omega)) := by
    have h1 : L.length - 1 = n := by omega
    rw [h1, List.getElem?_eq_getElem]
  unfold ordC
  rw [List.getLast?_eq_getElem?, e]

set_option maxHeartbeats 800000 in
theorem orderFault_any (v : Value) (L : List R) (q : ByteArray) (w : World) (h : RecSl w v L) (hl : L.length ≤ 1048576) (hq : q.size ≤ maxLen) (hr : ∀ r ∈ L, r.p.size ≤ maxLen) :
    Calls Tryz.prog 192 #[v, .string q] w fun e w' => e = .returned (.int .i64 (ordC L q)) ∧ Below w.heap.size w w' := by
  obtain ⟨A, cap, rfl, hcap, h⟩ := h
  by_cases h0 : L.length = 0
  · have HE : Hid (ordC L q = 0) := by rw [List.eq_nil_of_length_eq_zero h0]; rfl
    rw [h0]
    go_enter Tryz.func192, Tryz.ntmps192
    go_wp2_with fail
    go_ret
    exact ⟨ret_int HE.out.symm, Below.refl _ _⟩
  · obtain ⟨n, hn⟩ : ∃ n, L.length = n + 1 := ⟨L.length - 1, by omega⟩
    have HO := Lib.hid (ord_last hn q)
    obtain ⟨b, off, rfl, hb, hcell⟩ := h (by omega)
    obtain ⟨_, c1, _⟩ := hcell n (L[n]'(by omega)) (by simp)
    have hs := hr (L[n]'(by omega)) (List.getElem_mem _)
    clear h hcell hr
    generalize L[n]'(by omega) = x at *
    rw [hn] at hl hcap ⊢
    have i1 : (n : Int) < (n : Int) + 1 := by omega
    have i0 : (0 : Int) ≤ (n : Int) := by omega
    have hd0 : ((n : Int) + 1 == 0) = false := by simp; omega
    clear hn h0
    rcases Bool.eq_false_or_eq_true (q.toList == x.p.toList) with he | he
    · have HE : Hid (ordC L q = 18) := by show _ = _; rw [HO.out, if_pos (str_eq_of he).symm]
      go_enter Tryz.func192, Tryz.ntmps192
      go_wp2_with fail
      go_ret
      exact ⟨ret_int HE.out.symm, Below.refl _ _⟩
    · have hne : ¬ x.p = q := fun e => by rw [e] at he; simp at he
      have HE : Hid (ordC L q = if lessB x.p q then 0 else 11) := by show _ = _; rw [HO.out, if_neg hne]
      clear hne
      rcases Bool.eq_false_or_eq_true (lessB x.p q) with hb2 | hb2
      · have HF : Hid (ordC L q = 0) := by show _ = _; rw [HE.out, if_pos hb2]
        go_enter Tryz.func192, Tryz.ntmps192
        go_wp2_with (go_at_call 44; refine (pathLess_impl _ _ _ hs hq).mono ?_; rintro e w1 ⟨rfl, hb1⟩)
        go_ret
        exact ⟨ret_int HF.out.symm, hb1⟩
      · have HF : Hid (ordC L q = 11) := by show _ = _; rw [HE.out, if_neg (by rw [hb2]; decide)]
        go_enter Tryz.func192, Tryz.ntmps192
        go_wp2_with (go_at_call 44; refine (pathLess_impl _ _ _ hs hq).mono ?_; rintro e w1 ⟨rfl, hb1⟩)
        go_ret
        exact ⟨ret_int HF.out.symm, hb1⟩

def parC (L : List R) (q : ByteArray) : Int :=
  if parS q = [] then 0 else if atL L ⟨(parS q).toArray⟩ < 0 then 12 else if (L[(atL L ⟨(parS q).toArray⟩).toNat]?).any (fun x => x.k ≠ 3) then 13 else 0

set_option maxHeartbeats 800000 in
theorem parentFault_any (v : Value) (L : List R) (q : ByteArray) (w : World) (h : RecSl w v L) (hl : L.length ≤ 1048576) (hq : q.size ≤ maxLen) :
    Calls Tryz.prog 193 #[v, .string q] w fun e w' => e = .returned (.int .i64 (parC L q)) ∧ Below w.heap.size w w' := by
  have hsl := h
  obtain ⟨A, cap, rfl, hcap, h⟩ := h
  have H := Lib.hid h
  clear h
  by_cases h0 : parS q = []
  · have HE : Hid (parC L q = 0) := if_pos h0
    go_enter Tryz.func193, Tryz.ntmps193
    go_wp2_with fail
    refine (parentOf_impl _ _ hq).mono ?_
    rintro e w1 ⟨rfl, hb1⟩
    have hemp : (parS q).isEmpty = true := by rw [h0]; rfl
    unfold strV
    go_wp2_with fail
    go_ret
    exact ⟨ret_int HE.out.symm, hb1⟩
  · have HE : Hid (parC L q = if atL L ⟨(parS q).toArray⟩ < 0 then 12 else if (L[(atL L ⟨(parS q).toArray⟩).toNat]?).any (fun x => x.k ≠ 3) then 13 else 0) := if_neg h0
    have hemp : (parS q).isEmpty = false := by simpa using h0
    clear h0
    go_enter Tryz.func193, Tryz.ntmps193
    go_wp2_with fail
    refine (parentOf_impl _ _ hq).mono ?_
    rintro e w1 ⟨rfl, hb1⟩
    unfold strV
    go_wp2_with fail
    refine (indexOfPath_any _ L _ _ (hsl.below hb1) hl).mono ?_
    rintro e w2 ⟨rfl, hb2⟩
    have hbw := hb1.trans (hb2.mono hb1.size)
    rcases atL_cases L ⟨(parS q).toArray⟩ with ⟨ha, _⟩ | ⟨j, hj, ha, _⟩
    · have HF : Hid (parC L q = 12) := by show _ = _; rw [HE.out, if_pos (by rw [ha]; decide)]
      rw [ha]
      go_wp2_with fail
      go_ret
      exact ⟨ret_int HF.out.symm, hbw⟩
    · have HG : Hid (parC L q = if L[j].k ≠ 3 then 13 else 0) := by show _ = _; rw [HE.out, if_neg (by omega), ha, Int.toNat_natCast, List.getElem?_eq_getElem hj]; simp
      obtain ⟨b, off, rfl, hb, hcell⟩ := H.out (by omega)
      obtain ⟨f0, _⟩ := (hcell j L[j] (by simp [hj])).below hbw hb
      rw [ha]
      clear ha hcell
      have j1 : (0 : Int) ≤ (j : Int) := by omega
      have j2 : (j : Int) < (L.length : Int) := by omega
      have j3 : decide ((j : Int) < 0) = false := by simp
      by_cases h3 : L[j].k = 3
      · have HN : Hid (parC L q = 0) := by show _ = _; rw [HG.out, if_neg (by simpa using h3)]
        have j4 : (L[j].k != 3) = false := by simpa using h3
        clear h3
        go_wp2_with fail
        go_ret
        exact ⟨ret_int HN.out.symm, hbw⟩
      · have HN : Hid (parC L q = 13) := by show _ = _; rw [HG.out, if_pos h3]
        have j4 : (L[j].k != 3) = true := by simpa using h3
        clear h3
        go_wp2_with fail
        go_ret
        exact ⟨ret_int HN.out.symm, hbw⟩

def behC (L : List R) (r : R) : Int := if 16 ≤ L.length then 6 else if r.fault ≠ 0 then r.fault else if ordC L r.p ≠ 0 then ordC L r.p else parC L r.p

theorem par_up {l : List R} {i : Nat} {r : R} (hp : pathB r.p.data.toList = true) : parC (l.take i) r.p = codeUp l i r := by
  have e : parS r.p = parentL r.p.data.toList := by unfold parS; rw [hp]; rfl
  unfold parC codeUp
  rw [e]
  by_cases h0 : parentL r.p.data.toList = []
  · rw [if_pos h0, if_pos h0]
  · rw [if_neg h0, if_neg h0]
    show (if atL (l.take i) (parO r.p) < 0 then (12 : Int) else if ((l.take i)[(atL (l.take i) (parO r.p)).toNat]?).any (fun x => x.k ≠ 3) then 13 else 0) = _
    rcases atL_cases (l.take i) (parO r.p) with ⟨ha, _⟩ | ⟨j, hj, ha, _⟩
    · rw [ha, if_pos (by decide), if_pos (by decide)]
    · have hneg : ¬ ((j : Int) < 0) := by omega
      rw [ha, if_neg hneg, if_neg hneg, Int.toNat_natCast, List.getElem?_eq_getElem hj]
      rw [List.length_take] at hj
      rw [List.getElem?_eq_getElem (by omega : j < l.length), List.getElem_take]

theorem beh_code {l : List R} {i : Nat} (hi : i < l.length) (hc : ∀ j (h : j < l.length), j < i → codeAt l j l[j] = 0) : behC (l.take i) l[i] = codeAt l i l[i] := by
  have h16 : i ≤ 16 := by
    rcases Nat.lt_or_ge 16 i with h | h
    · exact absurd (hc 16 (by omega) h) (by rw [code_many]; decide)
    · exact h
  have hlen : (l.take i).length = i := by rw [List.length_take]; omega
  unfold behC
  rw [hlen]
  by_cases h1 : i = 16
  · subst h1
    rw [if_pos (by omega), code_many]
  rw [if_neg (by omega)]
  by_cases hf : l[i].fault = 0
  case neg => rw [if_pos hf, code_rec h1 hf]
  rw [if_neg (by simpa using hf)]
  have hp := (fault_path hf).1
  cases i with
  | zero =>
    rw [code_up h1 hf rfl rfl, if_neg (by simp [ord_nil]), par_up hp]
  | succ n =>
    have hn : n < l.length := by omega
    have hp2 := (fault_path (codeAt_zero (hc n hn (by omega))).2).1
    have ho := ord_last (L := l.take (n + 1)) (n := n) hlen l[n + 1].p
    rw [List.getElem_take, lessB_yes hp2 hp] at ho
    rw [ho]
    by_cases he : l[n].p = l[n + 1].p
    · rw [if_pos he, code_same h1 hf (by rw [beforeL_pos hi]; simp [he])]
      rfl
    · rw [if_neg he]
      have hs : (beforeL l (n + 1)).any (fun x => x.p = l[n + 1].p) = false := by rw [beforeL_pos hi]; simp [he]
      rcases Bool.eq_false_or_eq_true (lessP (cutAt 47 l[n].p.data.toList) (cutAt 47 l[n + 1].p.data.toList)) with hl | hl
      · rw [code_up h1 hf hs (by rw [beforeL_pos hi]; simp [hl]), if_pos hl, if_neg (by decide), par_up hp]
      · rw [code_order h1 hf hs (by rw [beforeL_pos hi]; simp [hl])]
        simp [hl]

set_option maxHeartbeats 800000 in
theorem faultBehind_any (v : Value) (L : List R) (r : R) (w : World) (h : RecSl w v L) (hl : L.length ≤ 1048576) (hq : r.p.size ≤ maxLen) (hr : ∀ x ∈ L, x.p.size ≤ maxLen) (ht : Tab w) :
    Calls Tryz.prog 143 #[v, .agg #[.int .i64 r.k, .string r.p, .string r.b, .int .i64 r.m, .bool r.o]] w fun e w' => e = .returned (.int .i64 (behC L r)) ∧ Below w.heap.size w w' := by
  have hb0 : Below w.heap.size w (w.alloc (.cells #[.int .i64 r.k, .string r.p, .string r.b, .int .i64 r.m, .bool r.o] 53)) := (Below.refl _ _).alloc (Nat.le_refl _) _
  have hsl := h.below hb0
  have ht0 := ht.below hb0 (Nat.le_refl _)
  obtain ⟨A, cap, rfl, hcap, _⟩ := h
  by_cases h16 : 16 ≤ L.length
  · have HE : Hid (behC L r = 6) := if_pos h16
    have hd : decide ((16 : Int) ≤ (L.length : Int)) = true := by simp; omega
    go_enter Tryz.func143, Tryz.ntmps143
    go_wp2_with fail
    go_ret
    exact ⟨ret_int HE.out.symm, hb0⟩
  have hd : decide ((16 : Int) ≤ (L.length : Int)) = false := by simp; omega
  have HB : Hid (behC L r = if r.fault ≠ 0 then r.fault else if ordC L r.p ≠ 0 then ordC L r.p else parC L r.p) := if_neg h16
  clear h16
  go_enter Tryz.func143, Tryz.ntmps143
  go_wp2_with fail
  refine (recordFault_impl _ _ _ _ _ _ hq ht0).mono ?_
  rintro e w1 ⟨rfl, hb1⟩
  have hb01 := hb0.trans (hb1.mono hb0.size)
  obtain ⟨hc1, hf1⟩ := bcell hb1
  have hz1 : w.heap.size < w1.heap.size := by have := hb1.size; simp at this; omega
  by_cases hf : r.fault = 0
  case neg =>
    have HE : Hid (behC L r = faultI r.k r.p.data.toList r.b.size r.m r.o) := by show _ = _; rw [HB.out, if_pos hf]; rfl
    have hd1 : (faultI r.k r.p.data.toList r.b.size r.m r.o != 0) = true := by have h := hf; unfold R.fault at h; simpa using h
    clear hf
    go_wp2_with fail
    go_ret
    exact ⟨ret_int HE.out.symm, hb01⟩
  have HC : Hid (behC L r = if ordC L r.p ≠ 0 then ordC L r.p else parC L r.p) := by show _ = _; rw [HB.out, if_neg (by simpa using hf)]
  have hd1 : (faultI r.k r.p.data.toList r.b.size r.m r.o != 0) = false := by have h := hf; unfold R.fault at h; simpa using h
  clear hf
  go_wp2_with fail
  refine (orderFault_any _ L _ _ (hsl.below hb1) hl hq hr).mono ?_
  rintro e w2 ⟨rfl, hb2⟩
  have hb02 := hb01.trans (hb2.mono hb01.size)
  obtain ⟨hc2, hf2⟩ := bcell hb2
  have hz2 : w.heap.size < w2.heap.size := by have := hb2.size; omega
  by_cases ho : ordC L r.p = 0
  case neg =>
    have HE : Hid (behC L r = ordC L r.p) := by show _ = _; rw [HC.out, if_pos ho]
    have hd2 : (ordC L r.p != 0) = true := by simpa using ho
    clear ho
    go_wp2_with fail
    go_ret
    exact ⟨ret_int HE.out.symm, hb02⟩
  have HE : Hid (behC L r = parC L r.p) := by show _ = _; rw [HC.out, if_neg (by simpa using ho)]
  have hd2 : (ordC L r.p != 0) = false := by simpa using ho
  clear ho
  go_wp2_with fail
  refine (parentFault_any _ L _ _ ((hsl.below hb1).below hb2) hl hq).mono ?_
  rintro e w3 ⟨rfl, hb3⟩
  go_wp2_with fail
  go_ret
  exact ⟨ret_int HE.out.symm, hb02.trans (hb3.mono hb02.size)⟩
end Go.Proofs.YtibekkfbpmloiabGreatDoor.Recs
