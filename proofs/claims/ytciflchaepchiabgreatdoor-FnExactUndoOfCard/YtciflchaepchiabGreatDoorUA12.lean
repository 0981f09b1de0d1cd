/- Parts of several texts of mine in one file (each begins with its own remark). -/
import Derived.Test.YtciflchaepchiabGreatDoorUA1
import Derived.Test.YtciflchaepchiabGreatDoorUA10
import Derived.Test.YtciflchaepchiabGreatDoorUA11
import Derived.Test.YtciflchaepchiabGreatDoorUA2
import Derived.Test.YtciflchaepchiabGreatDoorUA3
import Derived.Test.YtciflchaepchiabGreatDoorUA4
import Derived.Test.YtciflchaepchiabGreatDoorUA5
import Derived.Test.YtciflchaepchiabGreatDoorUA6
import Derived.Test.YtciflchaepchiabGreatDoorUA7
import Derived.Test.YtciflchaepchiabGreatDoorUA8
import Derived.Test.YtciflchaepchiabGreatDoorUA9
import Derived.Test.YtciflchaepchiabGreatDoorRows
import Derived.Test.YtciflchaepchiabGreatDoorChecked
import Derived.Test.YtciflchaepchiabGreatDoorProg
import Derived.Test.YtciflchaepchiabGreatDoorShelf
import Derived.ChangeVars
import Derived.Deep.DeepHandedRow
import Derived.Lib.LaidTab
import Derived.OpenShut
import Derived.ShutString
import Derived.ChangeArms
import Derived.WideShapes
import Derived.BigQuiet
import Derived.Deep.QuietTactic
import Derived.Deep.RegionHeld3
import Derived.StillTailTactics
import Derived.Deep.Draws
import Derived.Deep.LoopGhost
import Derived.WalkKit
import Derived.WalkSpells
import Derived.WalkSmall
import Derived.Lib.OthersKept
import Derived.Lib.Hide
import Derived.Lib.Strings
import Derived.LaidEql
import Derived.Stop.Asserts
import Derived.Below
import Derived.Stop.LaidErr
import Derived.Stop.LaidTwo
import Derived.Laws.OwnMore
import Derived.BigRegion
import Derived.Deep.Slices
import Derived.Lib.Join
import Derived.Laws.BytesArg
import Derived.WalkLawsBesides
import Derived.Lib.SliceRun
/- What the rows' lists give: the table of kinds, the two sentinels. -/
namespace Go.Proofs.YtciflchaepchiabGreatDoor.Recs
set_option maxRecDepth 100000
open Go.RowKit Paths Errs

theorem gLong : Tryz.prog.globalNamed "loop.example/g00798/impl.errTooLong" = some 0 := by kernel_rfl
theorem gLongType : (Tryz.prog.globals[(0 : Nat)]?).map (·.type) = some 94 := by kernel_rfl
theorem gBad : Tryz.prog.globalNamed "loop.example/g00798/impl.errInvalid" = some 1 := by kernel_rfl
theorem gBadType : (Tryz.prog.globals[(1 : Nat)]?).map (·.type) = some 94 := by kernel_rfl

theorem star : "*" ++ "errors.errorString" = "*errors.errorString" := by decide
theorem rowErr (u : TypeId) (h : Tryz.prog.typeName? 3 u = some "*errors.errorString") : u = 276 :=
  typeName_ptr_named (nm := "errors.errorString") (by rw [star]; kernel_rfl) (by kernel_rfl) (by decide) u (by rw [star]; exact h)

section
variable {H : Type} {enc : TypeId × Value → H} {P : Program} {w : World} {spare : Nat → Bool}
theorem vars2 {a b : String} {gs : List (DataW H)} {ps : List MemPlace} (h : DataW.TrodVars enc P w spare [a, b] gs ps) : ∃ x y, gs = [x, y] := by
  cases gs with
  | nil => exact h.elim
  | cons x t =>
    obtain ⟨_, _, _, _, _, q, _, _, _, _, h2, _⟩ := h
    cases t with
    | nil => exact h2.elim
    | cons y t =>
      obtain ⟨_, _, _, _, _, q, _, _, _, _, h3, _⟩ := h2
      cases t with
      | nil => exact ⟨x, y, rfl⟩
      | cons z t => exact h3.elim
theorem vars3 {a b c : String} {gs : List (DataW H)} {ps : List MemPlace} (h : DataW.TrodVars enc P w spare [a, b, c] gs ps) : ∃ x y z, gs = [x, y, z] := by
  cases gs with
  | nil => exact h.elim
  | cons x t =>
    obtain ⟨_, _, _, _, _, q, _, _, _, _, h2, _⟩ := h
    obtain ⟨y, z, rfl⟩ := vars2 h2
    exact ⟨x, y, z, rfl⟩
end

/-- The table, and the first sentinel. -/
structure Two (w : World) : Prop where
  tab : Tab w
  long : ∃ x, w.cell? ⟨0, 0, none⟩ = some (errV x)
theorem Two.below {w w' : World} {B : Nat} (h : Two w) (hb : Below B w w') (hB : w.heap.size ≤ B) : Two w' := by
  obtain ⟨x, hx⟩ := h.long
  exact ⟨h.tab.below hb hB, x, (hb.cell (p := ⟨0, 0, none⟩) (Nat.lt_of_lt_of_le (World.block_lt_of_cell? w _ hx) hB)).trans hx⟩

/-- The table, and the two sentinels: two pointers into rows of which nothing is frozen. -/
structure Three (w : World) (x y : Addr) : Prop where
  tab : Tab w
  long : w.cell? ⟨0, 0, none⟩ = some (errV x)
  bad : w.cell? ⟨1, 0, none⟩ = some (errV y)
  ne : x ≠ y
  rowx : ∃ c t, w.heap[x.block]? = some (.cells c t (0, 0))
  rowy : ∃ c t, w.heap[y.block]? = some (.cells c t (0, 0))
theorem Three.below {w w' : World} {B : Nat} {x y : Addr} (h : Three w x y) (hb : Below B w w') (hB : w.heap.size ≤ B) : Three w' x y := by
  obtain ⟨cx, tx, hx⟩ := h.rowx
  obtain ⟨cy, ty, hy⟩ := h.rowy
  exact ⟨h.tab.below hb hB, (hb.cell (p := ⟨0, 0, none⟩) (Nat.lt_of_lt_of_le (World.block_lt_of_cell? w _ h.long) hB)).trans h.long,
    (hb.cell (p := ⟨1, 0, none⟩) (Nat.lt_of_lt_of_le (World.block_lt_of_cell? w _ h.bad) hB)).trans h.bad, h.ne,
    ⟨cx, tx, (hb.block _ (Nat.lt_of_lt_of_le (Array.getElem?_eq_some_iff.1 hx).1 hB)).trans hx⟩, ⟨cy, ty, (hb.block _ (Nat.lt_of_lt_of_le (Array.getElem?_eq_some_iff.1 hy).1 hB)).trans hy⟩⟩

theorem three_of {W : World} (hm : laidMet Tryz.prog [("loop.example/g00798/impl.kindRules", Rows.laid_loop_example_g00798_impl_kindRules), ("loop.example/g00798/impl.errTooLong", Rows.laid_loop_example_g00798_impl_errTooLong), ("loop.example/g00798/impl.errInvalid", Rows.laid_loop_example_g00798_impl_errInvalid)] W) : ∃ x y, Three W x y := by
  obtain ⟨x, y, s0, s1, c0, c1, t0, t1, hv0, hv1, hc0, hs0, hz0, hc1, hs1, hz1, hne, hb0, hb1⟩ := laid_sentinels2 hm.tail gLong gLongType gBad gBadType Tryz.underlying94 rowErr Tryz.underlying276 Tryz.underlying299 rfl rfl Tryz.underlying9 (by kernel_rfl) (by kernel_rfl)
  refine ⟨x, y, ?_, ?_, ?_, hne, ⟨_, _, hb0⟩, ⟨_, _, hb1⟩⟩
  · obtain ⟨ps, ⟨g', t', cs, fuel, p, q, hg', ht', hvar, hd, _, _⟩, _⟩ := hm
    obtain rfl := Option.some.inj (gTab.symm.trans hg')
    obtain rfl := Option.some.inj (gTabType.symm.trans ht')
    exact tab_of_cells hg' hvar (rules_of_trod hd)
  · rw [World.var?_cell gLong hv0 0]
    rfl
  · rw [World.var?_cell gBad hv1 0]
    rfl
theorem laid3 {W : World} (h : laidMetH Tryz.prog [("loop.example/g00798/impl.kindRules", Rows.laid_loop_example_g00798_impl_kindRules), ("loop.example/g00798/impl.errTooLong", Rows.laid_loop_example_g00798_impl_errTooLong), ("loop.example/g00798/impl.errInvalid", Rows.laid_loop_example_g00798_impl_errInvalid)] W) : ∃ x y, Three W x y :=
  three_of (show laidMet Tryz.prog _ W from h)
end Go.Proofs.YtciflchaepchiabGreatDoor.Recs

/- The code of the errors of a call's arguments. Conditions: the table of kinds, the two sentinels. -/
namespace Go.Proofs.YtciflchaepchiabGreatDoor.Recs
set_option maxRecDepth 100000
open Go.RowKit Paths Errs

/-- An error that a check hands back: none, the sentinel of long arguments, or the one that names a record. -/
inductive EK where
  | fine
  | long
  | bad (i c : Int)
def EK.val (x : Addr) : EK → Value
  | .fine => .nilIface
  | .long => errV x
  | .bad i c => recV i c
end Go.Proofs.YtciflchaepchiabGreatDoor.Recs

/- Layers: UnderOpaque, of the program and of its model. Conditions (of the program's): the table of kinds, the two sentinels. -/
namespace Go.Proofs.YtciflchaepchiabGreatDoor.Recs
set_option maxRecDepth 100000
open Go.RowKit Paths Errs

def pm : Value → Nat
  | .string s => if s.size = 0 then 0 else (cutAt 47 s.data.toList).length
  | _ => 0
theorem parO_size {p : ByteArray} (h : parentL p.data.toList = []) : (parO p).size = 0 := by rw [Lib.size_eq, parO_data, h]; rfl
theorem path_pos {p : ByteArray} (h : pathB p.data.toList = true) : p.size ≠ 0 := fun e => by rw [pathB_empty e] at h; cases h
theorem pm_down {p : ByteArray} (h : pathB p.data.toList = true) : pm (.string (parO p)) < pm (.string p) := by
  have h0 := path_pos h
  have h1 : 0 < (cutAt 47 p.data.toList).length := cutAt_pos 47 _
  show (if (parO p).size = 0 then 0 else (cutAt 47 (parO p).data.toList).length) < (if p.size = 0 then 0 else (cutAt 47 p.data.toList).length)
  rw [if_neg h0]
  by_cases hp : parentL p.data.toList = []
  · rw [if_pos (parO_size hp)]; exact h1
  · obtain ⟨h2, h3⟩ := parts_parent h hp
    rw [if_neg (path_pos h2)]
    omega
end Go.Proofs.YtciflchaepchiabGreatDoor.Recs

/- A tree in memory: what each branch holds; finding a child of a branch, resolving parts. -/
namespace Go.Proofs.YtciflchaepchiabGreatDoor.Recs
set_option maxRecDepth 100000
open Go.RowKit Paths

/-- A branch's six cells. -/
def brCells (r : R) (s : Value) : Array Value := #[.string (lastB r.p), .int .i64 r.k, .string r.p, .string r.b, .int .i64 r.m, s]
def ptr (a : Nat) : Value := .pointer (some ⟨a, 0, none⟩)
def ptrs (A : ByteArray → Nat) (l : List R) : List Value := l.map fun c => ptr (A c.p)
/-- The tree t lies in memory from 'base' on: A tells the block of each branch, S its slice of what is directly below. -/
structure Tr (w : World) (base : Nat) (A : ByteArray → Nat) (S : ByteArray → Value) (t : List R) : Prop where
  block : ∀ r ∈ rootR :: t, w.heap[A r.p]? = some (.cells (brCells r (S r.p)) 209 (0, 0))
  own : ∀ r ∈ rootR :: t, base ≤ A r.p
  row : ∀ r ∈ rootR :: t, w.ownsRow base 176 1 (S r.p) (kids t r.p).length (ptrs A (kids t r.p))
  apart : ∀ r ∈ rootR :: t, ∀ x ∈ rootR :: t, r.p ≠ x.p → ∀ g, (S r.p).ownBlock = some g → (S x.p).ownBlock ≠ some g
section
variable {w w' : World} {base : Nat} {A : ByteArray → Nat} {S : ByteArray → Value} {t : List R} {r : R}
theorem Tr.lt (h : Tr w base A S t) (hr : r ∈ rootR :: t) : A r.p < w.heap.size := (Array.getElem?_eq_some_iff.1 (h.block r hr)).1
theorem Tr.below (h : Tr w base A S t) (hb : Below w.heap.size w w') : Tr w' base A S t :=
  ⟨fun r hr => (hb.block _ (h.lt hr)).trans (h.block r hr), h.own, fun r hr => own_below (h.row r hr) hb, h.apart⟩
theorem Tr.cells (h : Tr w base A S t) (hr : r ∈ rootR :: t) :
    w.cell? ⟨A r.p, 0, none⟩ = some (.string (lastB r.p)) ∧ w.cell? ⟨A r.p, 1, none⟩ = some (.int .i64 r.k) ∧ w.cell? ⟨A r.p, 2, none⟩ = some (.string r.p) ∧
    w.cell? ⟨A r.p, 3, none⟩ = some (.string r.b) ∧ w.cell? ⟨A r.p, 4, none⟩ = some (.int .i64 r.m) ∧ w.cell? ⟨A r.p, 5, none⟩ = some (S r.p) := by
  have := h.block r hr
  refine ⟨?_, ?_, ?_, ?_, ?_, ?_⟩ <;> (unfold World.cell?; simp only [this]; rfl)
theorem Tr.frozen (h : Tr w base A S t) (hr : r ∈ rootR :: t) (j : Nat) : w.frozen? ⟨A r.p, j, none⟩ = false := by
  have := h.block r hr
  unfold World.frozen?
  simp only [this]
  simp
theorem Tr.kid (h : Tr w base A S t) (hr : r ∈ rootR :: t) : ∃ sA cap, S r.p = .slice sA (kids t r.p).length cap ∧ (kids t r.p).length ≤ cap ∧
    (0 < (kids t r.p).length → ∃ g, sA = some ⟨g, 0, none⟩ ∧ g < w.heap.size ∧ ∀ i (hi : i < (kids t r.p).length), w.cell? ⟨g, i, none⟩ = some (ptr (A (kids t r.p)[i].p))) := by
  have ho := h.row r hr
  rcases ho.2 with ⟨hv, hn⟩ | ⟨g, cap, cur, hv, hb, hg, hc, _⟩
  · exact ⟨none, 0, by rw [hv, hn], by omega, fun h => by omega⟩
  · refine ⟨_, cap, hv, hc, fun _ => ⟨g, rfl, (Array.getElem?_eq_some_iff.1 hg).1, fun i hi => ?_⟩⟩
    rw [hv] at ho
    rw [ho.cellAt i (by omega)]
    unfold ptrs
    rw [List.getElem?_map, List.getElem?_eq_getElem hi]
    rfl
theorem kid_mem {p : ByteArray} {c : R} (h : c ∈ kids t p) : c ∈ rootR :: t := List.mem_cons_of_mem _ (mem_kids.1 h).1
end

def kidOf (t : List R) (p x : ByteArray) : Option R := (kids t p).find? fun c => decide (lastB c.p = x)
def ptrO (A : ByteArray → Nat) (o : Option R) : Value := .pointer (o.map fun c => ⟨A c.p, 0, none⟩)
theorem find_step {K : List R} {P : R → Bool} {k : Nat} (h : k < K.length) : (K.drop k).find? P = if P K[k] then some K[k] else (K.drop (k + 1)).find? P := by
  rw [List.drop_eq_getElem_cons h, List.find?_cons]
  cases P K[k] <;> rfl

set_option maxHeartbeats 400000 in
theorem child_any {w : World} {base : Nat} {A : ByteArray → Nat} {S : ByteArray → Value} {t : List R} (h : Tr w base A S t) {r : R} (hr : r ∈ rootR :: t) (x : ByteArray) (hl : t.length ≤ 1048576) :
    Calls Tryz.prog 216 #[ptr (A r.p), .string x] w fun e w' => e = .returned (ptrO A (kidOf t r.p x)) ∧ w = w' := by
  obtain ⟨_, _, _, _, _, c5⟩ := h.cells hr
  obtain ⟨sA, cap, hS, hcap, hk⟩ := h.kid hr
  rw [hS] at c5
  have hkl : (kids t r.p).length ≤ 1048576 := Nat.le_trans (List.length_filter_le _ _) hl
  have HM : Hid (∀ i (hi : i < (kids t r.p).length), w.cell? ⟨A (kids t r.p)[i].p, 0, none⟩ = some (.string (lastB (kids t r.p)[i].p))) := fun i hi => (h.cells (kid_mem (List.getElem_mem hi))).1
  have HE : Hid (kidOf t r.p x = ((kids t r.p).drop 0).find? fun c => decide (lastB c.p = x)) := rfl
  generalize kidOf t r.p x = o at *
  generalize A r.p = a at *
  generalize kids t r.p = K at *
  have H := Lib.hid hk
  clear hk h hS hr
  unfold ptr ptrO
  go_enter Tryz.func216, Tryz.ntmps216
  go_wp2
  go_loop [12] (fun i => ∃ k : Nat, k ≤ K.length ∧ i = .int .i64 k ∧ Hid (o = (K.drop k).find? fun c => decide (lastB c.p = x))) (fun i => K.length - (intOf i).toNat)
  case atStart => exact ⟨0, by omega, rfl, HE⟩
  case round =>
    obtain ⟨k, hk, rfl, HK⟩ := hrel
    by_cases hlt : k < K.length
    · obtain ⟨g, rfl, hg, hcell⟩ := H.out (by omega)
      have c1 := hcell k hlt
      have c2 := HM.out k hlt
      unfold ptr at c1
      have HS := Lib.hid (HK.out.trans (find_step hlt))
      clear hcell HK
      have hi1 : (k : Int) < (K.length : Int) := by omega
      have hi0 : (0 : Int) ≤ (k : Int) := by omega
      rcases Bool.eq_false_or_eq_true ((lastB K[k].p).toList == x.toList) with he | he
      · have HF : Hid (o = some K[k]) := by show _ = _; rw [HS.out, if_pos (by simpa using str_eq_of he)]
        clear HS
        go_wp2
        go_ret
        exact ⟨by rw [HF.out]; rfl, rfl⟩
      · have HF : Hid (o = (K.drop (k + 1)).find? fun c => decide (lastB c.p = x)) := by
          show _ = _
          rw [HS.out, if_neg]
          intro e
          rw [of_decide_eq_true e] at he
          simp at he
        clear HS
        go_wp2
        exact ⟨⟨k + 1, by omega, by go_num, HF⟩, by simp [intOf]; omega⟩
    · have HF : Hid (o = none) := by show _ = _; rw [HK.out, List.drop_eq_nil_of_le (by omega)]; rfl
      go_wp2
      go_ret
      exact ⟨by rw [HF.out]; rfl, rfl⟩

/-- A slice that reads as parts. -/
def PartSl (w : World) (v : Value) (L : List (List UInt8)) : Prop :=
  ∃ A cap, v = .slice A L.length cap ∧ L.length ≤ cap ∧ (0 < L.length → ∃ g, A = some ⟨g, 0, none⟩ ∧ g < w.heap.size ∧ ∀ i (hi : i < L.length), w.cell? ⟨g, i, none⟩ = some (strV L[i]))
theorem PartSl.below {w w' : World} {v : Value} {L : List (List UInt8)} (h : PartSl w v L) (hb : Below w.heap.size w w') : PartSl w' v L := by
  obtain ⟨A, cap, rfl, hc, h⟩ := h
  refine ⟨A, cap, rfl, hc, fun hn => ?_⟩
  obtain ⟨g, rfl, hlt, hcell⟩ := h hn
  exact ⟨g, rfl, Nat.lt_of_lt_of_le hlt hb.size, fun i hi => (hb.cell (p := ⟨g, i, none⟩) hlt).trans (hcell i hi)⟩
theorem part_sl {w : World} {base : Nat} {v : Value} {L : List (List UInt8)} (h : w.ownsRow base 9 1 v L.length (L.map strV)) : PartSl w v L := by
  rcases h.2 with ⟨rfl, hn⟩ | ⟨g, cap, cur, rfl, _, hg, hc, _⟩
  · exact ⟨none, 0, by rw [hn], by omega, fun h => by omega⟩
  · refine ⟨_, cap, rfl, hc, fun _ => ⟨g, rfl, (Array.getElem?_eq_some_iff.1 hg).1, fun i hi => ?_⟩⟩
    rw [h.cellAt i (by omega), List.getElem?_map, List.getElem?_eq_getElem hi]
    rfl
theorem PartSl.take {w : World} {sA : Option Addr} {cap : Nat} {L : List (List UInt8)} (h : PartSl w (.slice sA L.length cap) L) {k : Nat} (hk : k ≤ L.length) : PartSl w (.slice sA k cap) (L.take k) := by
  obtain ⟨A', cap', e, hc, h⟩ := h
  cases e
  refine ⟨sA, cap, by rw [List.length_take, Nat.min_eq_left hk], by rw [List.length_take]; omega, fun hn => ?_⟩
  rw [List.length_take] at hn
  obtain ⟨g, e, hb, hcell⟩ := h (by omega)
  refine ⟨g, e, hb, fun i hi => ?_⟩
  rw [List.length_take] at hi
  rw [hcell i (by omega), List.getElem_take]

def zN : R := ⟨0, 0, ByteArray.empty, ByteArray.empty, false⟩
/-- Resolving, with r found at the j-th step. -/
def resFrom (t : List R) (q : ByteArray) (r : R) (j : Nat) : R × Int := if j = nparts q then (r, 0) else if r.k ≠ 3 then (zN, 13) else findFrom t q j
theorem find_no {t : List R} {q : ByteArray} {j : Nat} (hj : j < nparts q) (h : recAt t (pre q j) = none) : findFrom t q j = (zN, 5) := by
  rw [findFrom, if_pos hj]
  rcases atL_recAt t (pre q j) with ⟨h1, _⟩ | ⟨k, hk, _, h2⟩
  · rw [if_pos (by rw [h1]; decide)]; rfl
  · rw [h] at h2; cases h2
theorem find_yes {t : List R} {q : ByteArray} {j : Nat} (hj : j < nparts q) {r : R} (h : recAt t (pre q j) = some r) : findFrom t q j = resFrom t q r (j + 1) := by
  rw [findFrom, if_pos hj]
  rcases atL_recAt t (pre q j) with ⟨_, h2⟩ | ⟨k, hk, h1, h2⟩
  · rw [h] at h2; cases h2
  · rw [h] at h2
    cases h2
    rw [h1, if_neg (by omega), Int.toNat_natCast, List.getElem?_eq_getElem hk]
    unfold resFrom
    by_cases he : j + 1 = nparts q
    · rw [if_pos he, if_pos he]; rfl
    · rw [if_neg he, if_neg he]
      by_cases h3 : t[k].k ≠ 3
      · rw [if_pos (by simpa using h3), if_pos h3]; rfl
      · rw [if_neg (by simpa using h3), if_neg h3]
/-- What resolving answers: the branch and the code. -/
def resV (A : ByteArray → Nat) (t : List R) (q : ByteArray) : Value := .tuple #[.pointer (if (findT t q).2 = 0 then some ⟨A q, 0, none⟩ else none), .int .i64 (findT t q).2]

set_option maxHeartbeats 400000 in
theorem resolve_any {w : World} {base : Nat} {A : ByteArray → Nat} {S : ByteArray → Value} {t : List R} (h : Tr w base A S t) (ht : IsTree t) (hl : t.length ≤ 1048576) (v : Value) {q : ByteArray} (hq : pathB q.data.toList = true) (hv : PartSl w v (cutAt 47 q.data.toList)) :
    Calls Tryz.prog 205 #[ptr (A ByteArray.empty), v] w fun e w' => e = .returned (resV A t q) ∧ w = w' := by
  obtain ⟨pA, cap, rfl, hcap, hp⟩ := hv
  have h4 := (pathB_parts hq).1
  have HP := Lib.hid hp
  have HT := Lib.hid h
  have HI := Lib.hid ht
  have HF0 : Hid (findT t q = resFrom t q rootR 0) := by
    show _ = _
    have := nparts_pos q
    unfold resFrom
    rw [if_neg (by omega), if_neg (by decide), find_is ht hq]
  have hn0 := nparts_pos q
  have HN : Hid (nparts q = (cutAt 47 q.data.toList).length) := rfl
  clear hp h ht
  unfold ptr
  go_enter Tryz.func205, Tryz.ntmps205
  go_wp2
  go_loop [6, 13] (fun a i => ∃ (j : Nat) (r : R), j ≤ nparts q ∧ i = .int .i64 j ∧ a = .pointer (some ⟨A r.p, 0, none⟩) ∧ Hid (r ∈ rootR :: t ∧ (j < nparts q → parO (pre q j) = r.p) ∧ (j = nparts q → r.p = q) ∧ findT t q = resFrom t q r j)) (fun _ i => nparts q - (intOf i).toNat)
  case atStart => exact ⟨0, rootR, by omega, rfl, rfl, List.mem_cons_self .., fun _ => pre_parent0 hq, fun h => by omega, HF0.out⟩
  case round =>
    obtain ⟨j, r, hj, rfl, rfl, HR⟩ := hrel
    obtain ⟨hr, hpar, hend, hres⟩ := HR.out
    have hnl := HN.out
    by_cases hlt : j < nparts q
    · obtain ⟨g, rfl, hg, hcell⟩ := HP.out (by omega)
      obtain ⟨_, k1, _⟩ := HT.out.cells hr
      have hlast := pre_lastB hq hlt
      have c0 : w.cell? ⟨g, j, none⟩ = some (.string (lastB (pre q j))) := by rw [hlast]; exact hcell j (by omega)
      have hi1 : (j : Int) < ((cutAt 47 q.data.toList).length : Int) := by omega
      have hi0 : (0 : Int) ≤ (j : Int) := by omega
      have HC := child_any HT.out hr (lastB (pre q j)) hl
      have hkid : kidOf t r.p (lastB (pre q j)) = recAt t (pre q j) := kid_find HI.out.path (pre_path hq j) (hpar hlt) rfl
      rw [hkid] at HC
      unfold ptr at HC
      clear hcell hlast hkid hnl
      by_cases h3 : r.k = 3
      · have hd : (r.k != 3) = false := by simpa using h3
        have hff : findT t q = findFrom t q j := by rw [hres]; unfold resFrom; rw [if_neg (by omega), if_neg (by simpa using h3)]
        clear hres h3
        cases ho : recAt t (pre q j) with
        | none =>
          have HE : Hid (findT t q = (zN, 5)) := hff.trans (find_no hlt ho)
          rw [ho] at HC
          clear hff hpar hend HR
          go_wp2_with fail
          refine HC.mono ?_
          rintro e w1 ⟨rfl, rfl⟩
          unfold ptrO
          go_wp2_with fail
          go_ret2
          exact ⟨by unfold resV; rw [HE.out]; rfl, rfl⟩
        | some c =>
          have HE := Lib.hid (hff.trans (find_yes hlt ho))
          have HM := Lib.hid (recAt_mem ho)
          rw [ho] at HC
          clear hff hpar hend HR
          go_wp2_with fail
          refine HC.mono ?_
          rintro e w1 ⟨rfl, rfl⟩
          unfold ptrO
          go_wp2_with fail
          refine ⟨⟨j + 1, c, by omega, by go_num, rfl, ⟨List.mem_cons_of_mem _ HM.out.1, fun h => ?_, fun h => ?_, HE.out⟩⟩, by simp [intOf]; omega⟩
          · rw [pre_parent hq h, HM.out.2]
          · rw [HM.out.2, pre_last j (by omega)]
      · have HE : Hid (findT t q = (zN, 13)) := by show _ = _; rw [hres]; unfold resFrom; rw [if_neg (by omega), if_pos h3]
        have hd : (r.k != 3) = true := by simpa using h3
        clear hres h3 hpar hend HR
        go_wp2_with fail
        go_ret2
        exact ⟨by unfold resV; rw [HE.out]; rfl, rfl⟩
    · have HE : Hid (findT t q = (r, 0)) := by show _ = _; rw [hres]; unfold resFrom; rw [if_pos (by omega)]
      have HQ := Lib.hid (hend (by omega))
      clear hres hpar hend HR
      have hi1 : ¬ ((j : Int) < ((cutAt 47 q.data.toList).length : Int)) := by omega
      go_wp2_with fail
      go_ret2
      exact ⟨by unfold resV; rw [HE.out, HQ.out]; rfl, rfl⟩

theorem resolve_none {w : World} (a : Nat) (v : Value) (hv : PartSl w v []) :
    Calls Tryz.prog 205 #[ptr a, v] w fun e w' => e = .returned (.tuple #[ptr a, .int .i64 0]) ∧ w = w' := by
  obtain ⟨pA, cap, rfl, hcap, hp⟩ := hv
  unfold ptr
  clear hp
  go_enter Tryz.func205, Tryz.ntmps205
  go_wp2
  refine wp_loop_rounds 1 ?_
  rw [rounds_succ]
  go_wp2
  go_ret2
  exact ⟨rfl, rfl⟩
end Go.Proofs.YtciflchaepchiabGreatDoor.Recs

/- A tree in memory: resolving a path; the place for a node of a path. -/
namespace Go.Proofs.YtciflchaepchiabGreatDoor.Recs
set_option maxRecDepth 100000
open Go.RowKit Paths

/-- The place for a node of a path: the code. -/
def placeC (t : List R) (q : ByteArray) : Int :=
  if (findT t q).2 = 0 then 18 else if (findT t q).2 = 13 then 13 else if parO q = ByteArray.empty ∨ (recAt t (parO q)).isSome = true then 0 else 12
def placeV (A : ByteArray → Nat) (t : List R) (q : ByteArray) : Value := .tuple #[.pointer (if placeC t q = 0 then some ⟨A (parO q), 0, none⟩ else none), .int .i64 (placeC t q)]
theorem findT_codes (t : List R) (q : ByteArray) : (findT t q).2 = 0 ∨ (findT t q).2 = 13 ∨ (findT t q).2 = 5 := by
  unfold findT
  cases recAt t q with
  | some r => exact .inl rfl
  | none =>
    cases blocked t q with
    | true => exact .inr (.inl rfl)
    | false => exact .inr (.inr rfl)
theorem findT_zero {t : List R} {q : ByteArray} : (findT t q).2 = 0 ↔ (recAt t q).isSome = true := by
  unfold findT
  cases recAt t q with
  | some r => simp
  | none => cases blocked t q <;> simp
theorem own_some {w : World} {base : Nat} {e : TypeId} {v : Value} {n : Nat} {xs : List Value} (h : w.ownsRow base e 1 v n xs) (hv : v ≠ .slice none 0 0) : ∃ g cap, v = .slice (some ⟨g, 0, none⟩) n cap ∧ g < w.heap.size ∧ n ≤ cap ∧ cap ≤ maxLen := by
  rcases h.2 with ⟨rfl, _⟩ | ⟨g, cap, cur, rfl, _, hg, hc, hm, _⟩
  · exact absurd rfl hv
  · exact ⟨g, cap, rfl, (Array.getElem?_eq_some_iff.1 hg).1, hc, hm⟩
theorem cut_parO {q : ByteArray} (h : pathB q.data.toList = true) (hp : parO q ≠ ByteArray.empty) : pathB (parO q).data.toList = true ∧ cutAt 47 (parO q).data.toList = (cutAt 47 q.data.toList).take ((cutAt 47 q.data.toList).length - 1) := by
  rcases parent_cases h with ⟨h1, _⟩ | ⟨h1, h2, _⟩
  · exact absurd (parO_empty.2 h1) hp
  · refine ⟨h1, ?_⟩
    rw [parO_data, h2, List.dropLast_eq_take]
theorem cut_one {q : ByteArray} (h : pathB q.data.toList = true) (hp : parO q = ByteArray.empty) : (cutAt 47 q.data.toList).length = 1 := by
  rcases parent_cases h with ⟨_, h2, _⟩ | ⟨_, _, h3, _⟩
  · rw [h2]; rfl
  · exact absurd (parO_empty.1 hp) h3

section
variable {w : World} {base : Nat} {A : ByteArray → Nat} {S : ByteArray → Value} {t : List R}
set_option maxHeartbeats 800000 in
theorem placeFor_any (h : Tr w base A S t) (ht : IsTree t) (hl : t.length ≤ 1048576) (q : ByteArray) (hq : q.size ≤ maxLen) (hp : pathB q.data.toList = true) :
    Calls Tryz.prog 194 #[ptr (A ByteArray.empty), .string q] w fun e w' => e = .returned (placeV A t q) ∧ Below w.heap.size w w' := by
  have HC := splitPath_any q w hq
  unfold ptr
  go_enter Tryz.func194, Tryz.ntmps194
  go_wp2_with fail
  refine HC.mono ?_
  rintro e w1 ⟨v, rfl, hb1, ho, -, hn⟩
  rw [partsOf_yes hp] at ho
  have hv := part_sl ho
  obtain ⟨g, cap, rfl, -, hc, hcm⟩ := own_some ho (hn hp)
  have HR := resolve_any (h.below hb1) ht hl _ hp hv
  unfold ptr resV at HR
  have h4 := (pathB_parts hp).1
  have h1 := cutAt_pos 47 q.data.toList
  have HV := Lib.hid hv
  have HTr := Lib.hid (h.below hb1)
  clear hv ho hn h
  rcases findT_codes t q with h0 | h0 | h0
  · have HE : Hid (placeC t q = 18) := by show _ = _; unfold placeC; rw [if_pos h0]
    rw [h0] at HR
    clear h0
    go_wp2_with fail
    refine HR.mono ?_
    rintro e w2 ⟨rfl, rfl⟩
    go_wp2_with fail
    go_ret2
    exact ⟨by unfold placeV; rw [HE.out]; rfl, hb1⟩
  · have HE : Hid (placeC t q = 13) := by show _ = _; unfold placeC; rw [h0]; rfl
    rw [h0] at HR
    clear h0
    go_wp2_with fail
    refine HR.mono ?_
    rintro e w2 ⟨rfl, rfl⟩
    go_wp2_with fail
    go_ret2
    exact ⟨by unfold placeV; rw [HE.out]; rfl, hb1⟩
  · have HE : Hid (placeC t q = if parO q = ByteArray.empty ∨ (recAt t (parO q)).isSome = true then 0 else 12) := by show _ = _; unfold placeC; rw [if_neg (by rw [h0]; decide), if_neg (by rw [h0]; decide)]
    rw [h0] at HR
    clear h0
    generalize hN : (cutAt 47 q.data.toList).length = N at *
    have hw1 : IntKind.i64.wrap ((N : Int) - 1) = ((N - 1 : Nat) : Int) := by rw [IntKind.wrap_i64]; omega
    have hi1 : ((N - 1 : Nat) : Int) ≤ (cap : Int) := by omega
    have hi2 : (0 : Int) ≤ ((N - 1 : Nat) : Int) := by omega
    by_cases hr : parO q = ByteArray.empty
    · have HF : Hid (placeC t q = 0) := by show _ = _; rw [HE.out, if_pos (.inl hr)]
      have hN1 : N = 1 := by rw [← hN]; exact cut_one hp hr
      have HR2 := resolve_none (A ByteArray.empty) (.slice (some ⟨g, 0, none⟩) 0 cap) (show PartSl w1 _ [] from ⟨_, cap, rfl, Nat.zero_le _, fun h => by cases h⟩)
      unfold ptr at HR2
      subst hN1
      have HQ := Lib.hid hr
      clear hr HE hN
      go_wp2_with fail
      refine HR.mono ?_
      rintro e w2 ⟨rfl, rfl⟩
      go_wp2_with fail
      refine HR2.mono ?_
      rintro e w2 ⟨rfl, rfl⟩
      go_wp2_with fail
      go_ret2
      exact ⟨by unfold placeV; rw [HF.out, HQ.out]; rfl, hb1⟩
    · obtain ⟨hpp, hcut⟩ := cut_parO hp hr
      have hvt : PartSl w1 (.slice (some ⟨g, 0, none⟩) (N - 1) cap) (cutAt 47 (parO q).data.toList) := by
        rw [hcut]
        have hv := HV.out
        rw [← hN] at hv ⊢
        exact hv.take (by omega)
      have HR2 := resolve_any HTr.out ht hl _ hpp hvt
      unfold ptr resV at HR2
      have hz := findT_zero (t := t) (q := parO q)
      by_cases h0 : (findT t (parO q)).2 = 0
      · have HF : Hid (placeC t q = 0) := by show _ = _; rw [HE.out, if_pos (.inr (hz.1 h0))]
        rw [h0] at HR2
        clear hr HE hN h0 hz hcut hvt
        go_wp2_with fail
        refine HR.mono ?_
        rintro e w2 ⟨rfl, rfl⟩
        go_wp2_with fail
        refine HR2.mono ?_
        rintro e w2 ⟨rfl, rfl⟩
        go_wp2_with fail
        go_ret2
        exact ⟨by unfold placeV; rw [HF.out]; rfl, hb1⟩
      · have HF : Hid (placeC t q = 12) := by
          show _ = _
          rw [HE.out, if_neg]
          rintro (h2 | h2)
          · exact hr h2
          · exact h0 (hz.2 h2)
        have hd : ((findT t (parO q)).2 != 0) = true := by simpa using h0
        rw [if_neg h0] at HR2
        clear hr HE hN h0 hz hcut hvt
        go_wp2_with fail
        refine HR.mono ?_
        rintro e w2 ⟨rfl, rfl⟩
        go_wp2_with fail
        refine HR2.mono ?_
        rintro e w2 ⟨rfl, rfl⟩
        go_wp2_with fail
        go_ret2
        exact ⟨by unfold placeV; rw [HF.out]; rfl, hb1⟩
end
end Go.Proofs.YtciflchaepchiabGreatDoor.Recs
