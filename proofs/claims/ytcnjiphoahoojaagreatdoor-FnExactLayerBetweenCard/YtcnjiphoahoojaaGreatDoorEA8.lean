/- Parts of several texts of mine in one file (each begins with its own remark). -/
import Derived.Test.YtcnjiphoahoojaaGreatDoorEA1
import Derived.Test.YtcnjiphoahoojaaGreatDoorEA2
import Derived.Test.YtcnjiphoahoojaaGreatDoorEA3
import Derived.Test.YtcnjiphoahoojaaGreatDoorEA4
import Derived.Test.YtcnjiphoahoojaaGreatDoorEA5
import Derived.Test.YtcnjiphoahoojaaGreatDoorEA6
import Derived.Test.YtcnjiphoahoojaaGreatDoorEA7
import Derived.Test.YtcnjiphoahoojaaGreatDoorChecked
import Derived.Test.YtcnjiphoahoojaaGreatDoorShelf
import Derived.Test.YtcnjiphoahoojaaGreatDoorProg
import Derived.Stop.LaidErr
import Derived.StillTailTactics
import Derived.Laws.OwnMore
import Derived.BigQuiet
import Derived.BigRegion
import Derived.Deep.QuietTactic
import Derived.Deep.RegionHeld3
import Derived.Deep.Slices
import Derived.OpenShut
import Derived.ShutString
import Derived.ChangeArms
import Derived.WideShapes
import Derived.Lib.LaidTab
import Derived.Deep.Draws
import Derived.Deep.LoopGhost
import Derived.WalkKit
import Derived.WalkSpells
import Derived.WalkSmall
import Derived.Lib.OthersKept
import Derived.Lib.Hide
import Derived.Lib.Strings
import Derived.Lib.Join
import Derived.Laws.BytesArg
import Derived.WalkLawsBesides
import Derived.LaidEql
import Derived.Stop.Asserts
import Derived.Below
import Derived.Stop.LaidTwo
import Derived.RegionTactic
import Derived.Deep.RegionWith
import Derived.Laws.AppendOwnNone
/- Layers: the program's searches (slices.IndexFunc, slices.ContainsFunc, with what it hands them). -/
namespace Go.Proofs.YtcnjiphoahoojaaGreatDoor.Recs
set_option maxRecDepth 100000
open Go.RowKit Paths

/-- The place of the first record that a test takes, counted from n on; -1 of none. -/
def idxFrom (P : R → Bool) : List R → Nat → Int
  | [], _ => -1
  | r :: t, n => if P r then (n : Int) else idxFrom P t (n + 1)
theorem idx_step {P : R → Bool} {l : List R} {k : Nat} (h : k < l.length) : idxFrom P (l.drop k) k = if P l[k] then (k : Int) else idxFrom P (l.drop (k + 1)) (k + 1) := by
  rw [List.drop_eq_getElem_cons h]
  rfl
theorem idx_end {P : R → Bool} {l : List R} {k : Nat} (h : l.length ≤ k) : idxFrom P (l.drop k) k = -1 := by
  rw [List.drop_eq_nil_of_le h]
  rfl
theorem idx_at (q : ByteArray) : ∀ (l : List R) (n : Nat), idxFrom (fun r => r.p.toList == q.toList) l n = atFrom l n q
  | [], _ => rfl
  | r :: t, n => by
    simp only [idxFrom, atFrom]
    rw [idx_at q t (n + 1)]
    by_cases h : r.p = q
    · rw [if_pos h, if_pos (by rw [h]; simp)]
    · rw [if_neg h, if_neg (fun e => h (str_eq_of e))]
set_option maxHeartbeats 800000 in
theorem indexFunc_path (v : Value) (l : List R) (c : Addr) (P : R → Bool) (w : World) (h : RecSl w v l) (hl : l.length ≤ 1048576)
    (HF : ∀ r ∈ l, ∀ w', Below w.heap.size w w' → Calls Tryz.prog 107 #[r.val, .pointer (some c)] w' fun e w'' => e = .returned (.bool (P r)) ∧ Below w'.heap.size w' w'') :
    Calls Tryz.prog 106 #[v, .func (.func 107) #[] #[.pointer (some c)]] w fun e w' => e = .returned (.int .i64 (idxFrom P l 0)) ∧ Below w.heap.size w w' := by
  obtain ⟨A, cap, rfl, hcap, h⟩ := h
  have H := Lib.hid h
  have HFh := Lib.hid HF
  clear h HF
  go_enter Tryz.func106, Tryz.ntmps106
  go_wp2
  go_loopw [8] (fun i wr => ∃ k : Nat, k ≤ l.length ∧ i = .int .i64 k ∧ Hid (idxFrom P l 0 = idxFrom P (l.drop k) k) ∧ Below w.heap.size w wr) (fun i _ => l.length - (intOf i).toNat)
  case atStart => exact ⟨0, by omega, rfl, rfl, Below.refl _ _⟩
  case round =>
    obtain ⟨k, hk, rfl, HK, hbw⟩ := hrel
    by_cases hlt : k < l.length
    · obtain ⟨b, off, rfl, hb, hcell⟩ := H.out (by omega)
      obtain ⟨c0, c1, c2, c3, c4⟩ := (hcell k l[k] (by simp [hlt])).below hbw hb
      have HS := Lib.hid (HK.out.trans (idx_step hlt))
      clear hcell HK
      have hi1 : (k : Int) < (l.length : Int) := by omega
      have hi0 : (0 : Int) ≤ (k : Int) := by omega
      have HC := HFh.out l[k] (List.getElem_mem hlt) _ hbw
      unfold R.val at HC
      rcases Bool.eq_false_or_eq_true (P l[k]) with he | he
      · have HE : Hid (idxFrom P l 0 = k) := by show _ = _; rw [HS.out, if_pos he]
        go_wp2_with (go_at_call 107; refine HC.mono ?_; rintro e w1 ⟨rfl, hb1⟩)
        go_ret
        exact ⟨ret_int HE.out.symm, hbw.trans (hb1.mono hbw.size)⟩
      · have HE : Hid (idxFrom P l 0 = idxFrom P (l.drop (k + 1)) (k + 1)) := by show _ = _; rw [HS.out, if_neg (by rw [he]; decide)]
        go_wp2_with (go_at_call 107; refine HC.mono ?_; rintro e w1 ⟨rfl, hb1⟩)
        exact ⟨⟨k + 1, by omega, by go_num, HE, hbw.trans (hb1.mono hbw.size)⟩, by simp [intOf]; omega⟩
    · have HE := Lib.hid (HK.out.trans (idx_end (by omega)))
      go_wp2
      go_ret
      exact ⟨ret_int HE.out.symm, hbw⟩

theorem path_test (r : R) (c : Nat) (q : ByteArray) (w : World) (h : w.cell? ⟨c, 0, none⟩ = some (.string q)) :
    Calls Tryz.prog 107 #[r.val, .pointer (some ⟨c, 0, none⟩)] w fun e w' => e = .returned (.bool (r.p.toList == q.toList)) ∧ Below w.heap.size w w' := by
  unfold R.val
  have h1 : (w.alloc (.cells #[.int .i64 r.k, .string r.p, .string r.b, .int .i64 r.m, .bool r.o] 60)).cell? ⟨c, 0, none⟩ = some (.string q) := cell?_alloc_old _ h
  go_enter Tryz.func107, Tryz.ntmps107
  go_wp2
  go_ret
  exact ⟨rfl, (Below.refl _ _).alloc (Nat.le_refl _) _⟩

theorem indexOfPath_any (v : Value) (l : List R) (q : ByteArray) (w : World) (h : RecSl w v l) (hl : l.length ≤ 1048576) :
    Calls Tryz.prog 72 #[v, .string q] w fun e w' => e = .returned (.int .i64 (atL l q)) ∧ Below w.heap.size w w' := by
  have hb0 : Below w.heap.size w (w.alloc (.cells #[.string q] 9)) := (Below.refl _ _).alloc (Nat.le_refl _) _
  have hc0 : (w.alloc (.cells #[.string q] 9)).cell? ⟨w.heap.size, 0, none⟩ = some (.string q) := by go_simp
  have h0 := h.below hb0
  have HC := indexFunc_path v l ⟨w.heap.size, 0, none⟩ (fun r => r.p.toList == q.toList) (w.alloc (.cells #[.string q] 9)) h0 hl
    (fun r _ w' hb => path_test r w.heap.size q w' ((hb.cell (p := ⟨w.heap.size, 0, none⟩) (by simp)).trans hc0))
  rw [idx_at] at HC
  obtain ⟨A, cap, rfl, _⟩ := h
  go_enter Tryz.func72, Tryz.ntmps72
  go_wp2_with fail
  refine HC.mono ?_
  rintro e w1 ⟨rfl, hb1⟩
  go_wp2_with fail
  go_ret
  exact ⟨rfl, hb0.trans (hb1.mono hb0.size)⟩

end Go.Proofs.YtcnjiphoahoojaaGreatDoor.Recs

/- Errors: errors.Is at nil, at a sentinel, at the program's own error that names a record. Conditions: as each states. -/
namespace Go.Proofs.YtcnjiphoahoojaaGreatDoor.Errs
set_option maxRecDepth 100000
open Go.RowKit Go.Extern

/-! ### Closed facts of the types -/
theorem typeOfE (v : Value) (w : World) : (Extern.ReflectliteType.typeOf #[.iface 205 v]).run Tryz.prog w = .ok (.iface 160 (.agg #[.pointer (some ⟨4, 205, none⟩)])) w := by kernel_rfl
theorem compE (w : World) : ((Extern.ReflectliteType.method fun t => do Extern.Rtype.noPackHeld "Comparable" t; (fun a => Value.bool a.comparable) <$> typeInfo t) #[.agg #[.pointer (some ⟨4, 205, none⟩)]]).run Tryz.prog w = .ok (.bool true) w := by kernel_rfl
theorem methodComp (n : Nat) (v : Value) (w : World) : (Go.method (n + 1) 160 v "Comparable").run Tryz.prog w = .ok (168, v) w := by kernel_rfl
theorem strComp : (Tryz.prog.info? 205).map (·.comparable) = some true := by kernel_rfl
theorem strSize : (Tryz.prog.info? 230).map (·.size) = some 1 := by kernel_rfl

theorem noIsE (v : Value) (xT : TypeId) (w : World) : (Instr.typeAssert (.iface 205 v) xT 162 true).run Tryz.prog w = .ok (.tuple #[.nilIface, .bool false]) w := run_typeAssert_lacksB Tryz.underlying162 (by kernel_rfl) (by kernel_rfl) v xT w
theorem noUnwrapE (v : Value) (xT : TypeId) (w : World) : (Instr.typeAssert (.iface 205 v) xT 165 true).run Tryz.prog w = .ok (.tuple #[.nilIface, .bool false]) w := run_typeAssert_lacksB Tryz.underlying165 (by kernel_rfl) (by kernel_rfl) v xT w
theorem noUnwrapsE (v : Value) (xT : TypeId) (w : World) : (Instr.typeAssert (.iface 205 v) xT 167 true).run Tryz.prog w = .ok (.tuple #[.nilIface, .bool false]) w := run_typeAssert_lacksB Tryz.underlying167 (by kernel_rfl) (by kernel_rfl) v xT w
/-- An error of errors.New's make. -/
def errV (a : Addr) : Value := .iface 205 (.pointer (some a))
/-- The program's error that names a record. -/
def recV (i c : Int) : Value := .iface 171 (.agg #[.int .i64 i, .int .i64 c])

theorem is_same (a : Addr) (w : World) :
    Calls Tryz.prog 51 #[errV a, errV a] w fun e w' => e = .returned (.bool true) ∧ w' = w := by
  obtain ⟨i, hi, hcmp⟩ := Option.map_eq_some_iff.1 strComp
  obtain ⟨j, hj, hjs⟩ := Option.map_eq_some_iff.1 strSize
  have h8 := @run_callFunc_extern Tryz.prog 81 _ Extern.ReflectliteType.typeOf Tryz.func81 (by kernel_rfl) (by kernel_rfl) (by kernel_rfl) (by kernel_rfl)
  have h32 := @run_callFunc_extern Tryz.prog 168 _ (Extern.ReflectliteType.method fun t => do Extern.Rtype.noPackHeld "Comparable" t; pure (.bool (← typeInfo t).comparable)) Tryz.func168 (by kernel_rfl) (by kernel_rfl) (by kernel_rfl) (by kernel_rfl)
  have tT := typeOfE
  have cT := compE
  have mR := methodComp
  unfold errV
  have heq := run_eql_iface_ptr_same (P := Tryz.prog) w a Tryz.underlying55 Tryz.underlying205 hi hcmp hj
  go_enter Tryz.func51, Tryz.ntmps51
  go_wp2
  refine wp_loop_rounds 1 ?_
  rw [rounds_succ]
  go_wp2
  go_ret
  exact ⟨rfl, rfl⟩

theorem is_nil (b : Addr) (w : World) :
    Calls Tryz.prog 51 #[.nilIface, errV b] w fun e w' => e = .returned (.bool false) ∧ w' = w := by
  unfold errV
  have hn := run_eql_iface_nil_left (P := Tryz.prog) w 205 (.pointer (some b)) Tryz.underlying55
  go_enter Tryz.func51, Tryz.ntmps51
  go_wp2
  go_ret
  exact ⟨rfl, rfl⟩

theorem is_other (a b : Addr) (ca cb : Array Value) (ta tb : TypeId) (w : World) (hne : a ≠ b) (ha : w.heap[a.block]? = some (.cells ca ta (0, 0))) (hb : w.heap[b.block]? = some (.cells cb tb (0, 0))) :
    Calls Tryz.prog 51 #[errV a, errV b] w fun e w' => e = .returned (.bool false) ∧ w' = w := by
  obtain ⟨i, hi, hcmp⟩ := Option.map_eq_some_iff.1 strComp
  obtain ⟨j, hj, hjs⟩ := Option.map_eq_some_iff.1 strSize
  have h8 := @run_callFunc_extern Tryz.prog 81 _ Extern.ReflectliteType.typeOf Tryz.func81 (by kernel_rfl) (by kernel_rfl) (by kernel_rfl) (by kernel_rfl)
  have h32 := @run_callFunc_extern Tryz.prog 168 _ (Extern.ReflectliteType.method fun t => do Extern.Rtype.noPackHeld "Comparable" t; pure (.bool (← typeInfo t).comparable)) Tryz.func168 (by kernel_rfl) (by kernel_rfl) (by kernel_rfl) (by kernel_rfl)
  have tT := typeOfE
  have cT := compE
  have mR := methodComp
  have nE := noIsE
  have uE := noUnwrapE
  have vE := noUnwrapsE
  unfold errV
  have heq := run_eql_iface_ptr_other (P := Tryz.prog) w Tryz.underlying55 Tryz.underlying205 hi hcmp hj (by rw [hjs]; decide) hne ha hb
  go_enter Tryz.func51, Tryz.ntmps51
  go_wp2
  refine wp_loop_rounds 1 ?_
  rw [rounds_succ]
  go_wp2
  go_ret
  exact ⟨rfl, rfl⟩

end Go.Proofs.YtcnjiphoahoojaaGreatDoor.Errs

/- Layers: comparison of two lists of records, of the program and of its model. -/
namespace Go.Proofs.YtcnjiphoahoojaaGreatDoor.Recs
set_option maxRecDepth 100000
open Go.RowKit Paths

instance decR : DecidableEq R := fun x y =>
  if h : x.k = y.k ∧ x.m = y.m ∧ x.p = y.p ∧ x.b = y.b ∧ x.o = y.o then isTrue (by cases x; cases y; simp_all) else isFalse (fun e => h (by subst e; simp))
/-- Two records are alike, or one field is the first that is not. -/
theorem five (x y : R) : (x.k == y.k) = false ∨ ((x.k == y.k) = true ∧ (x.p.toList == y.p.toList) = false) ∨ ((x.k == y.k) = true ∧ (x.p.toList == y.p.toList) = true ∧ (x.b.toList == y.b.toList) = false) ∨
    ((x.k == y.k) = true ∧ (x.p.toList == y.p.toList) = true ∧ (x.b.toList == y.b.toList) = true ∧ (x.m == y.m) = false) ∨ ((x.k == y.k) = true ∧ (x.p.toList == y.p.toList) = true ∧ (x.b.toList == y.b.toList) = true ∧ (x.m == y.m) = true ∧ (x.o == y.o) = false) ∨
    ((x.k == y.k) = true ∧ (x.p.toList == y.p.toList) = true ∧ (x.b.toList == y.b.toList) = true ∧ (x.m == y.m) = true ∧ (x.o == y.o) = true) := by
  cases (x.k == y.k) <;> cases (x.p.toList == y.p.toList) <;> cases (x.b.toList == y.b.toList) <;> cases (x.m == y.m) <;> cases (x.o == y.o) <;> simp
theorem rec_eq {x y : R} (h0 : (x.k == y.k) = true) (h1 : (x.p.toList == y.p.toList) = true) (h2 : (x.b.toList == y.b.toList) = true) (h3 : (x.m == y.m) = true) (h4 : (x.o == y.o) = true) : x = y := by
  have e0 := eq_of_beq h0
  have e1 := str_eq_of h1
  have e2 := str_eq_of h2
  have e3 := eq_of_beq h3
  have e4 := eq_of_beq h4
  cases x; cases y
  simp only at e0 e1 e2 e3 e4
  subst e0 e1 e2 e3 e4
  rfl
end Go.Proofs.YtcnjiphoahoojaaGreatDoor.Recs

/- Differences of trees, plain: the changes between two lists in the order of paths. -/
namespace Go.Proofs.YtcnjiphoahoojaaGreatDoor.Recs
set_option maxRecDepth 100000
open Go.RowKit Paths

/-- A path, and what two lists have there; zR stands for none. -/
abbrev Chg := ByteArray × R × R
def chgs : List R → List R → List Chg
  | [], [] => []
  | x :: a, [] => (x.p, x, zR) :: chgs a []
  | [], y :: b => (y.p, zR, y) :: chgs [] b
  | x :: a, y :: b =>
    if lessR x y then (x.p, x, zR) :: chgs a (y :: b)
    else if x.p = y.p then (if x = y then chgs a b else (y.p, x, y) :: chgs a b)
    else (y.p, zR, y) :: chgs (x :: a) b
termination_by a b => a.length + b.length
theorem chg_nil : chgs [] [] = [] := by rw [chgs]
theorem chg_left (x : R) (a : List R) : chgs (x :: a) [] = (x.p, x, zR) :: chgs a [] := by rw [chgs]
theorem chg_right (y : R) (b : List R) : chgs [] (y :: b) = (y.p, zR, y) :: chgs [] b := by rw [chgs]
theorem chg_less {x y : R} (h : lessR x y = true) (a b : List R) : chgs (x :: a) (y :: b) = (x.p, x, zR) :: chgs a (y :: b) := by rw [chgs, if_pos h]
theorem chg_same {x y : R} (h : x = y) (a b : List R) : chgs (x :: a) (y :: b) = chgs a b := by
  subst h
  rw [chgs, if_neg (by unfold lessR; rw [lessP_irrefl]; decide), if_pos rfl, if_pos rfl]
theorem chg_both {x y : R} (hp : x.p = y.p) (h : x ≠ y) (a b : List R) : chgs (x :: a) (y :: b) = (y.p, x, y) :: chgs a b := by
  rw [chgs, if_neg (by unfold lessR; rw [hp, lessP_irrefl]; decide), if_pos hp, if_neg h]
theorem chg_more {x y : R} (hl : lessR x y = false) (hp : x.p ≠ y.p) (a b : List R) : chgs (x :: a) (y :: b) = (y.p, zR, y) :: chgs (x :: a) b := by
  rw [chgs, if_neg (by rw [hl]; decide), if_neg hp]

/-- What two lists have at a path, and that it is not the same. -/
def Differs (A B : List R) (c : Chg) : Prop := recAt A c.1 ≠ recAt B c.1 ∧ c.2 = ((recAt A c.1).getD zR, (recAt B c.1).getD zR)
theorem recAt_front {x : R} {a : List R} (h : ∀ w ∈ a, lessR x w = true) : recAt a x.p = none := recAt_less h
theorem differs_skip {x : R} {A B a : List R} {c : Chg} (hc : c.1 ≠ x.p) (he : ∀ q, q ≠ x.p → recAt A q = recAt a q) : Differs A B c ↔ Differs a B c := by unfold Differs; rw [he _ hc]
theorem cons_at {x : R} (a : List R) {q : ByteArray} (h : q ≠ x.p) : recAt (x :: a) q = recAt a q := recAt_cons_ne (fun e => h e.symm)
theorem cons_here (x : R) (a : List R) : recAt (x :: a) x.p = some x := recAt_cons_eq rfl
theorem less_no {x y : R} {b : List R} (hb : ∀ w ∈ b, lessR y w = true) (h : lessR x y = true) : ∀ w ∈ y :: b, lessR x w = true := fun w hw => by
  rcases List.mem_cons.1 hw with rfl | hw
  · exact h
  · exact lessR_trans h (hb w hw)
theorem less_flip {x y : R} (hl : lessR x y = false) (hp : x.p ≠ y.p) : lessR y x = true := by
  rcases less_or hp with h | h
  · rw [hl] at h; cases h
  · exact h

theorem chg_mem : ∀ A B : List R, Sorted A → Sorted B → ∀ c, c ∈ chgs A B ↔ Differs A B c
  | [], [], _, _, c => by rw [chg_nil]; unfold Differs; simp [recAt]
  | x :: a, [], ha, _, c => by
    obtain ⟨ha1, ha2⟩ := List.pairwise_cons.1 ha
    rw [chg_left, List.mem_cons, chg_mem a [] ha2 List.Pairwise.nil c]
    by_cases hc : c.1 = x.p
    · have e1 : recAt a c.1 = none := by rw [hc]; exact recAt_front ha1
      have e2 : recAt (x :: a) c.1 = some x := by rw [hc]; exact cons_here x a
      unfold Differs
      rw [e1, e2]
      simp only [recAt, List.find?_nil, ne_eq, not_true_eq_false, false_and, or_false, reduceCtorEq, not_false_eq_true, true_and, Option.getD_some, Option.getD_none]
      exact ⟨fun e => by rw [e], fun e => Prod.ext hc e⟩
    · rw [differs_skip hc (fun q hq => cons_at a hq)]
      exact ⟨fun e => e.elim (fun e => absurd (by rw [e]) hc) id, .inr⟩
  | [], y :: b, _, hb, c => by
    obtain ⟨hb1, hb2⟩ := List.pairwise_cons.1 hb
    rw [chg_right, List.mem_cons, chg_mem [] b List.Pairwise.nil hb2 c]
    by_cases hc : c.1 = y.p
    · have e1 : recAt b c.1 = none := by rw [hc]; exact recAt_front hb1
      have e2 : recAt (y :: b) c.1 = some y := by rw [hc]; exact cons_here y b
      unfold Differs
      rw [e1, e2]
      simp only [recAt, List.find?_nil, ne_eq, not_true_eq_false, false_and, or_false, reduceCtorEq, not_false_eq_true, true_and, Option.getD_some, Option.getD_none]
      exact ⟨fun e => by rw [e], fun e => Prod.ext hc e⟩
    · have : Differs [] (y :: b) c ↔ Differs [] b c := by unfold Differs; rw [cons_at b hc]
      rw [this]
      exact ⟨fun e => e.elim (fun e => absurd (by rw [e]) hc) id, .inr⟩
  | x :: a, y :: b, ha, hb, c => by
    obtain ⟨ha1, ha2⟩ := List.pairwise_cons.1 ha
    obtain ⟨hb1, hb2⟩ := List.pairwise_cons.1 hb
    rcases Bool.eq_false_or_eq_true (lessR x y) with hl | hl
    · rw [chg_less hl, List.mem_cons, chg_mem a (y :: b) ha2 hb c]
      by_cases hc : c.1 = x.p
      · have e1 : recAt a c.1 = none := by rw [hc]; exact recAt_front ha1
        have e2 : recAt (x :: a) c.1 = some x := by rw [hc]; exact cons_here x a
        have e3 : recAt (y :: b) c.1 = none := by rw [hc]; exact recAt_front (less_no hb1 hl)
        unfold Differs
        rw [e1, e2, e3]
        simp only [ne_eq, not_true_eq_false, false_and, or_false, reduceCtorEq, not_false_eq_true, true_and, Option.getD_some, Option.getD_none]
        exact ⟨fun e => by rw [e], fun e => Prod.ext hc e⟩
      · rw [differs_skip hc (fun q hq => cons_at a hq)]
        exact ⟨fun e => e.elim (fun e => absurd (by rw [e]) hc) id, .inr⟩
    · by_cases hp : x.p = y.p
      · have hsk : c.1 ≠ y.p → (Differs (x :: a) (y :: b) c ↔ Differs a b c) := fun hc => by
          unfold Differs
          rw [cons_at b hc, cons_at a (by rw [hp]; exact hc)]
        have h1 : c.1 = y.p → recAt a c.1 = none ∧ recAt b c.1 = none ∧ recAt (x :: a) c.1 = some x ∧ recAt (y :: b) c.1 = some y := fun hc => by
          rw [hc]
          refine ⟨?_, recAt_front hb1, ?_, cons_here y b⟩
          · rw [← hp]; exact recAt_front ha1
          · rw [← hp]; exact cons_here x a
        by_cases he : x = y
        · rw [chg_same he, chg_mem a b ha2 hb2 c]
          by_cases hc : c.1 = y.p
          · obtain ⟨e1, e2, e3, e4⟩ := h1 hc
            unfold Differs
            rw [e1, e2, e3, e4, he]
            simp
          · exact (hsk hc).symm
        · rw [chg_both hp he, List.mem_cons, chg_mem a b ha2 hb2 c]
          by_cases hc : c.1 = y.p
          · obtain ⟨e1, e2, e3, e4⟩ := h1 hc
            unfold Differs
            rw [e1, e2, e3, e4]
            have : (some x ≠ some y) := fun e => he (Option.some.inj e)
            simp only [ne_eq, not_true_eq_false, false_and, or_false, Option.getD_some, Option.getD_none]
            exact ⟨fun e => ⟨this, by rw [e]⟩, fun e => Prod.ext hc e.2⟩
          · rw [hsk hc]
            exact ⟨fun e => e.elim (fun e => absurd (by rw [e]) hc) id, .inr⟩
      · have hl2 := less_flip hl hp
        rw [chg_more hl hp, List.mem_cons, chg_mem (x :: a) b ha hb2 c]
        by_cases hc : c.1 = y.p
        · have e1 : recAt b c.1 = none := by rw [hc]; exact recAt_front hb1
          have e2 : recAt (y :: b) c.1 = some y := by rw [hc]; exact cons_here y b
          have e3 : recAt (x :: a) c.1 = none := by rw [hc]; exact recAt_front (less_no ha1 hl2)
          unfold Differs
          rw [e1, e2, e3]
          simp only [ne_eq, not_true_eq_false, false_and, or_false, reduceCtorEq, not_false_eq_true, true_and, Option.getD_some, Option.getD_none]
          exact ⟨fun e => by rw [e], fun e => Prod.ext hc e⟩
        · have : Differs (x :: a) (y :: b) c ↔ Differs (x :: a) b c := by unfold Differs; rw [cons_at b hc]
          rw [this]
          exact ⟨fun e => e.elim (fun e => absurd (by rw [e]) hc) id, .inr⟩
termination_by a b => a.length + b.length

theorem differs_path {A B : List R} {c : Chg} (h : Differs A B c) : (∃ x ∈ A, x.p = c.1) ∨ ∃ y ∈ B, y.p = c.1 := by
  obtain ⟨h1, _⟩ := h
  cases ha : recAt A c.1 with
  | some x => exact .inl ⟨x, recAt_mem ha⟩
  | none =>
    cases hb : recAt B c.1 with
    | some y => exact .inr ⟨y, recAt_mem hb⟩
    | none => rw [ha, hb] at h1; exact absurd rfl h1
/-- All changes of lists that lie behind a path lie behind it. -/
theorem chg_after {A B : List R} (ha : Sorted A) (hb : Sorted B) {q : ByteArray} (h1 : ∀ x ∈ A, lessQ q x.p = true) (h2 : ∀ y ∈ B, lessQ q y.p = true) : ∀ c ∈ chgs A B, lessQ q c.1 = true := fun c hc => by
  rcases differs_path ((chg_mem A B ha hb c).1 hc) with ⟨x, hx, e⟩ | ⟨x, hx, e⟩
  · rw [← e]; exact h1 x hx
  · rw [← e]; exact h2 x hx
theorem chg_sorted : ∀ A B : List R, Sorted A → Sorted B → (chgs A B).Pairwise fun c d => lessQ c.1 d.1 = true
  | [], [], _, _ => by rw [chg_nil]; exact List.Pairwise.nil
  | x :: a, [], ha, hb => by
    obtain ⟨ha1, ha2⟩ := List.pairwise_cons.1 ha
    rw [chg_left]
    exact List.pairwise_cons.2 ⟨chg_after ha2 hb ha1 (fun y hy => by cases hy), chg_sorted a [] ha2 hb⟩
  | [], y :: b, ha, hb => by
    obtain ⟨hb1, hb2⟩ := List.pairwise_cons.1 hb
    rw [chg_right]
    exact List.pairwise_cons.2 ⟨chg_after ha hb2 (fun y hy => by cases hy) hb1, chg_sorted [] b ha hb2⟩
  | x :: a, y :: b, ha, hb => by
    obtain ⟨ha1, ha2⟩ := List.pairwise_cons.1 ha
    obtain ⟨hb1, hb2⟩ := List.pairwise_cons.1 hb
    rcases Bool.eq_false_or_eq_true (lessR x y) with hl | hl
    · rw [chg_less hl]
      exact List.pairwise_cons.2 ⟨chg_after ha2 hb ha1 (less_no hb1 hl), chg_sorted a (y :: b) ha2 hb⟩
    · by_cases hp : x.p = y.p
      · by_cases he : x = y
        · rw [chg_same he]; exact chg_sorted a b ha2 hb2
        · rw [chg_both hp he]
          exact List.pairwise_cons.2 ⟨chg_after ha2 hb2 (fun w hw => by show lessQ y.p w.p = true; rw [← hp]; exact ha1 w hw) hb1, chg_sorted a b ha2 hb2⟩
      · have hl2 := less_flip hl hp
        rw [chg_more hl hp]
        exact List.pairwise_cons.2 ⟨chg_after ha hb2 (less_no ha1 hl2) hb1, chg_sorted (x :: a) b ha hb2⟩
termination_by a b => a.length + b.length
theorem chg_len : ∀ A B : List R, (chgs A B).length ≤ A.length + B.length
  | [], [] => by rw [chg_nil]; simp
  | x :: a, [] => by rw [chg_left]; have := chg_len a []; simp at this ⊢; omega
  | [], y :: b => by rw [chg_right]; have := chg_len [] b; simp at this ⊢; omega
  | x :: a, y :: b => by
    rw [chgs]
    have h1 := chg_len a (y :: b)
    have h2 := chg_len (x :: a) b
    have h3 := chg_len a b
    simp only [List.length_cons] at h1 h2 h3 ⊢
    split
    · simp only [List.length_cons]; omega
    · split
      · split
        · omega
        · simp only [List.length_cons]; omega
      · simp only [List.length_cons]; omega
termination_by a b => a.length + b.length
end Go.Proofs.YtcnjiphoahoojaaGreatDoor.Recs

/- A record put into a layer as the model's draws put it (what is above it is made, what is no directory gives way): a layer stays one. -/
namespace Go.Proofs.YtcnjiphoahoojaaGreatDoor.Recs
open Go.RowKit Paths

/-- Sorted, housed, each record valid: a layer but for its length. -/
structure Lays (l : List R) : Prop where
  sorted : Sorted l
  housed : Housed l
  fault : ∀ r ∈ l, r.fault = 0
theorem Lays.ok {l : List R} (h : Lays l) (hl : l.length ≤ 16) : layerOK l = true := layerOK_of hl h.fault h.sorted h.housed

/-- The record's parent is a directory of the list, or there is none. -/
def homed (l : List R) (q : ByteArray) : Bool := decide (parentL q.data.toList = []) || (recAt l (parO q)).any fun x => decide (x.k = 3)
end Go.Proofs.YtcnjiphoahoojaaGreatDoor.Recs

/- The model's source of choices: what its methods answer, whatever bytes it is made of. -/
namespace Go.Proofs.YtcnjiphoahoojaaGreatDoor.Draw
open Go.RowKit

/-- A slice of bytes that is only read. -/
def Byts (w : World) (B : Nat) (A : Option Addr) (n : Nat) : Prop :=
  n ≤ 1048577 ∧ (0 < n → ∃ b off, A = some ⟨b, off, none⟩ ∧ b < B ∧ ∀ k, k < n → ∃ x : Nat, x ≤ 255 ∧ w.cell? ⟨b, off + k, none⟩ = some (.int .u8 x))
theorem Byts.below {w w' : World} {B : Nat} {A : Option Addr} {n : Nat} (h : Byts w B A n) (hb : Below B w w') : Byts w' B A n := by
  obtain ⟨h1, h⟩ := h
  refine ⟨h1, fun hn => ?_⟩
  obtain ⟨b, off, rfl, hlt, hc⟩ := h hn
  refine ⟨b, off, rfl, hlt, fun k hk => ?_⟩
  obtain ⟨x, hx, hcell⟩ := hc k hk
  exact ⟨x, hx, (hb.cell (p := ⟨b, off + k, none⟩) hlt).trans hcell⟩

theorem Byts.grown {w w' : World} {B g : Nat} {A : Option Addr} {n : Nat} (h : Byts w B A n) (hg : w.grownBy w' (some g)) (hB : B ≤ g) (hlt : g < w.heap.size) : Byts w' B A n := by
  obtain ⟨h1, h⟩ := h
  refine ⟨h1, fun hn => ?_⟩
  obtain ⟨b, off, rfl, hb, hc⟩ := h hn
  refine ⟨b, off, rfl, hb, fun k hk => ?_⟩
  obtain ⟨x, hx, hcell⟩ := hc k hk
  exact ⟨x, hx, (World.cell?_of_block (hg.block b (by omega) (fun e => by have := Option.some.inj e; omega))).trans hcell⟩
end Go.Proofs.YtcnjiphoahoojaaGreatDoor.Draw

/- The model's source of choices: drawn words, parts and paths. -/
namespace Go.Proofs.YtcnjiphoahoojaaGreatDoor.Draw
open Go.RowKit
open Paths

/-- Some strings in a block of their own. -/
def Lits (w : World) (b : Nat) (L : List (List UInt8)) : Prop := b < w.heap.size ∧ ∀ (k : Nat) p, L[k]? = some p → w.cell? ⟨b, k, none⟩ = some (strV p)
theorem Lits.new (w : World) (L : List (List UInt8)) : Lits (w.alloc (.cells (L.map strV).toArray 9)) w.heap.size L := by
  refine ⟨by simp, fun k p hk => ?_⟩
  rw [cell_of_row _ _ k _ _ _ (heap_alloc_new w _)]
  simp [hk]

end Go.Proofs.YtcnjiphoahoojaaGreatDoor.Draw

/- The model's source of choices: strings that may be no paths; a source out of bytes; drawn paths. -/
namespace Go.Proofs.YtcnjiphoahoojaaGreatDoor.Draw
open Go.RowKit
open Paths

/-- The cells of a slice of bytes. -/
theorem Byts.cells {w : World} {B : Nat} {A : Option Addr} {n : Nat} (h : Byts w B A n) : ∃ news : List Value, news.length = n ∧ (∀ ad, A = some ad → ∀ j u, news[j]? = some u → w.cell? (ad.add j) = some u) ∧ ∀ u ∈ news, ∃ x : Nat, x ≤ 255 ∧ u = .int .u8 x := by
  obtain ⟨_, h⟩ := h
  rcases Nat.eq_zero_or_pos n with rfl | hp
  · exact ⟨[], rfl, fun _ _ j u hu => by simp at hu, fun u hu => by cases hu⟩
  · obtain ⟨b, off, rfl, hb, hc⟩ := h hp
    have hall : ∀ m, m ≤ n → ∃ news : List Value, news.length = m ∧ (∀ j u, news[j]? = some u → w.cell? ⟨b, off + j, none⟩ = some u) ∧ ∀ u ∈ news, ∃ x : Nat, x ≤ 255 ∧ u = .int .u8 x := by
      intro m
      induction m with
      | zero => exact fun _ => ⟨[], rfl, fun j u hu => by simp at hu, fun u hu => by cases hu⟩
      | succ m ih =>
        intro hm
        obtain ⟨news, hl, h1, h2⟩ := ih (by omega)
        obtain ⟨x, hx, hcx⟩ := hc m (by omega)
        refine ⟨news ++ [.int .u8 x], by simp [hl], fun j u hu => ?_, fun u hu => ?_⟩
        · rcases Nat.lt_trichotomy j m with hj | hj | hj
          · rw [List.getElem?_append_left (by omega)] at hu
            exact h1 j u hu
          · subst hj
            rw [List.getElem?_append_right (by omega), hl] at hu
            simp at hu
            subst hu
            exact hcx
          · rw [List.getElem?_eq_none (by simp; omega)] at hu
            cases hu
        · rcases List.mem_append.1 hu with hu | hu
          · exact h2 u hu
          · simp at hu; exact ⟨x, hx, hu⟩
    obtain ⟨news, hl, h1, h2⟩ := hall n (Nat.le_refl _)
    refine ⟨news, hl, fun ad had j u hu => ?_, h2⟩
    cases had
    rw [Addr.add_lit]
    exact h1 j u hu
end Go.Proofs.YtcnjiphoahoojaaGreatDoor.Draw
