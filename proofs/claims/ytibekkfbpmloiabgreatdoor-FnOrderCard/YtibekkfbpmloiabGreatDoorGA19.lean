/- Parts of several texts of mine in one file (each begins with its own remark). -/
import Derived.Test.YtibekkfbpmloiabGreatDoorGA1
import Derived.Test.YtibekkfbpmloiabGreatDoorGA2
import Derived.Test.YtibekkfbpmloiabGreatDoorGA3
import Derived.Test.YtibekkfbpmloiabGreatDoorGA4
import Derived.Test.YtibekkfbpmloiabGreatDoorGA5
import Derived.Test.YtibekkfbpmloiabGreatDoorGA8
import Derived.Test.YtibekkfbpmloiabGreatDoorChecked
import Derived.Deep.Slices
import Derived.OpenShut
import Derived.ShutString
import Derived.ChangeArms
import Derived.WideShapes
import Derived.Lib.LaidTab
import Derived.BigQuiet
import Derived.Deep.QuietTactic
import Derived.Deep.RegionHeld3
import Derived.StillTailTactics
import Derived.Deep.Draws
import Derived.Deep.LoopGhost
import Derived.WalkKit
import Derived.WalkSpells
import Derived.WalkSmall
import Derived.Lib.OthersKept
import Derived.Lib.Hide
import Derived.Lib.Strings
import Derived.Lib.Join
import Derived.Laws.OwnMore
import Derived.Laws.BytesArg
import Derived.BigRegion
import Derived.Lib.Overlaps
import Derived.Lib.AppendZerosOnto
import Derived.Laws.NewBlocks
import Derived.Laws.IdiomCopy
import Derived.Deep.RegionLaw
import Derived.OneCell
import Derived.Lib.SliceRun
import Derived.Deep.RegionWith
/- Trees as plain lists of nodes (records of which Opaque is false): the model's check, record by record, and what it says at once. -/
namespace Go.Proofs.YtibekkfbpmloiabGreatDoor.Recs
open Go.RowKit Paths

/-- What a tree is. -/
structure Tree (t : List R) : Prop where
  len : t.length ≤ 24
  kind : ∀ r ∈ t, r.k ≠ 4
  fault : ∀ r ∈ t, r.fault = 0
  sorted : Sorted t
  housed : Housed t
theorem Tree.is {t : List R} (h : Tree t) : IsTree t := ⟨h.sorted, h.housed, fun x hx => (fault_path (h.fault x hx)).1⟩
end Go.Proofs.YtibekkfbpmloiabGreatDoor.Recs

/- Resolving a path in a tree, part by part, and what comes out at once. -/
namespace Go.Proofs.YtibekkfbpmloiabGreatDoor.Recs
open Go.RowKit Paths

/-- The first i + 1 parts of a path. -/
def pre (q : ByteArray) (i : Nat) : ByteArray := ⟨(Lib.join ((cutAt 47 q.data.toList).take (i + 1)) [47]).toArray⟩
end Go.Proofs.YtibekkfbpmloiabGreatDoor.Recs

/- Adding a node to a tree and removing one, plain: where it goes, and that a tree stays a tree. -/
namespace Go.Proofs.YtibekkfbpmloiabGreatDoor.Recs
open Go.RowKit Paths

theorem lessR_trans {x y z : R} (h : lessR x y = true) (k : lessR y z = true) : lessR x z = true := lessP_trans _ _ _ h k
theorem lessR_asymm {x y : R} (h : lessR x y = true) : lessR y x = false := lessP_asymm _ _ h
theorem lessR_path {x y n : R} (h : x.p = y.p) : lessR x n = lessR y n := by unfold lessR; rw [h]
theorem put_head {t : List R} (h : Sorted t) (n : R) : t.takeWhile (fun x => lessR x n) = t.filter (fun x => lessR x n) := by
  induction t with
  | nil => rfl
  | cons x t ih =>
    unfold Sorted at h ih
    rw [List.pairwise_cons] at h
    rcases Bool.eq_false_or_eq_true (lessR x n) with hx | hx
    · rw [List.takeWhile_cons_of_pos (p := fun x => lessR x n) hx, List.filter_cons_of_pos (p := fun x => lessR x n) hx, ih h.2]
    · rw [List.takeWhile_cons_of_neg (p := fun x => lessR x n) (by simp [hx]), List.filter_cons_of_neg (p := fun x => lessR x n) (by simp [hx])]
      symm
      rw [List.filter_eq_nil_iff]
      intro y hy hn
      rw [lessR_trans (h.1 y hy) hn] at hx
      cases hx
theorem put_tail {t : List R} (h : Sorted t) (n : R) : t.filter (fun x => lessR n x) = (if (t.dropWhile (fun x => lessR x n)).head?.any (fun x => decide (x.p = n.p)) then (t.dropWhile (fun x => lessR x n)).tail else t.dropWhile (fun x => lessR x n)) := by
  induction t with
  | nil => rfl
  | cons x t ih =>
    unfold Sorted at h ih
    rw [List.pairwise_cons] at h
    rcases Bool.eq_false_or_eq_true (lessR x n) with hx | hx
    · rw [List.dropWhile_cons_of_pos (p := fun x => lessR x n) hx, List.filter_cons_of_neg (p := fun x => lessR n x) (by simp [lessR_asymm hx]), ih h.2]
    · rw [List.dropWhile_cons_of_neg (p := fun x => lessR x n) (by simp [hx])]
      simp only [List.head?_cons, Option.any_some, decide_eq_true_eq, List.tail_cons]
      by_cases he : x.p = n.p
      · rw [if_pos he, List.filter_cons_of_neg (p := fun x => lessR n x) (by rw [← lessR_path he, lessR_irrefl]; decide)]
        rw [List.filter_eq_self]
        intro y hy
        rw [← lessR_path he]
        exact h.1 y hy
      · rw [if_neg he]
        have hn : lessR n x = true := by
          rcases less_or he with h1 | h1
          · rw [h1] at hx; cases hx
          · exact h1
        rw [List.filter_cons_of_pos (p := fun x => lessR n x) hn]
        congr 1
        rw [List.filter_eq_self]
        intro y hy
        exact lessR_trans hn (h.1 y hy)
/-- The place where a node goes: behind those that are less. -/
def placeOf (t : List R) (n : R) : Nat := (t.takeWhile (fun x => lessR x n)).length
theorem place_take (t : List R) (n : R) : t.take (placeOf t n) = t.takeWhile (fun x => lessR x n) := by
  unfold placeOf
  conv => lhs; rw [← List.takeWhile_append_dropWhile (p := fun x => lessR x n) (l := t)]
  rw [List.takeWhile_append_dropWhile]
  conv => lhs; arg 2; rw [← List.takeWhile_append_dropWhile (p := fun x => lessR x n) (l := t)]
  rw [List.take_left' rfl]
theorem place_drop (t : List R) (n : R) : t.drop (placeOf t n) = t.dropWhile (fun x => lessR x n) := by
  unfold placeOf
  conv => lhs; arg 2; rw [← List.takeWhile_append_dropWhile (p := fun x => lessR x n) (l := t)]
  rw [List.drop_left' rfl]
/-- As the model puts it. -/
theorem put_is {t : List R} (h : Sorted t) (n : R) :
    putL t n = t.take (placeOf t n) ++ n :: (if (t[placeOf t n]?).any (fun x => decide (x.p = n.p)) then t.drop (placeOf t n + 1) else t.drop (placeOf t n)) := by
  unfold putL
  rw [← put_head h, put_tail h, place_take, place_drop]
  have e1 : (t.dropWhile (fun x => lessR x n)).head? = t[placeOf t n]? := by rw [← place_drop, List.head?_drop]
  have e2 : (t.dropWhile (fun x => lessR x n)).tail = t.drop (placeOf t n + 1) := by rw [← place_drop, List.tail_drop]
  rw [e1, e2]
end Go.Proofs.YtibekkfbpmloiabGreatDoor.Recs

/- Trees with what is directly below each node, plain. -/
namespace Go.Proofs.YtibekkfbpmloiabGreatDoor.Recs
open Go.RowKit Paths

/-- The last part of a path. -/
def lastB (p : ByteArray) : ByteArray := ⟨((cutAt 47 p.data.toList).getLast (cutAt_ne 47 _)).toArray⟩
/-- What the root of a tree is, as a node. -/
def rootR : R := ⟨3, 0, ByteArray.empty, ByteArray.empty, false⟩
/-- What is directly below a path. -/
def kids (t : List R) (p : ByteArray) : List R := t.filter fun c => decide (parO c.p = p)
theorem mem_kids {t : List R} {p : ByteArray} {c : R} : c ∈ kids t p ↔ c ∈ t ∧ parO c.p = p := by unfold kids; rw [List.mem_filter, decide_eq_true_eq]
theorem parO_empty {q : ByteArray} : parO q = ByteArray.empty ↔ parentL q.data.toList = [] := by
  constructor
  · intro h
    have := congrArg (fun b : ByteArray => b.data.toList) h
    rw [parO_data] at this
    exact this
  · intro h
    unfold parO
    rw [h]
    rfl
theorem path_nonempty {q : ByteArray} (h : pathB q.data.toList = true) : q ≠ ByteArray.empty := fun e => by
  rw [e] at h
  exact pathB_ne h rfl
theorem rootR_p : rootR.p = ByteArray.empty := rfl
theorem lastB_data (p : ByteArray) : (lastB p).data.toList = (cutAt 47 p.data.toList).getLast (cutAt_ne 47 _) := rfl
/-- A path is its parent and its last part. -/
theorem path_two {a b : ByteArray} (ha : pathB a.data.toList = true) (hb : pathB b.data.toList = true) (h1 : parO a = parO b) (h2 : lastB a = lastB b) : a = b := by
  have e1 : parentL a.data.toList = parentL b.data.toList := by rw [← parO_data, ← parO_data, h1]
  have e2 := congrArg (fun x : ByteArray => x.data.toList) h2
  simp only [lastB_data] at e2
  apply bytes_cut
  rw [cut_parent a.data.toList, cut_parent b.data.toList, e2]
  congr 1
  rcases parent_cases ha with ⟨a1, a2, _⟩ | ⟨_, a2, a3, _⟩ <;> rcases parent_cases hb with ⟨b1, b2, _⟩ | ⟨_, b2, b3, _⟩
  · rw [a2, b2]; rfl
  · exact absurd (e1.symm.trans a1) b3
  · exact absurd (e1.trans b1) a3
  · rw [← a2, ← b2, e1]
theorem sorted_filter {t : List R} (h : Sorted t) (f : R → Bool) : Sorted (t.filter f) := List.Pairwise.filter _ h
theorem up_self {q : ByteArray} (h : pathB q.data.toList = true) : q ∉ ups q := fun hm => by
  have := ups_less h q hm
  rw [lessP_irrefl] at this
  cases this
theorem ups_of_par {q : ByteArray} (h : pathB q.data.toList = true) (hp : parO q ≠ ByteArray.empty) : ups q = parO q :: ups (parO q) := by
  rw [ups_step h, if_neg (fun e => hp (parO_empty.2 e))]
end Go.Proofs.YtibekkfbpmloiabGreatDoor.Recs

/- Trees, plain: all that is below a path, by what is directly below it; what putting a node in and taking one out do to what is directly below. -/
namespace Go.Proofs.YtibekkfbpmloiabGreatDoor.Recs
open Go.RowKit Paths

theorem kids_sorted {t : List R} (h : Sorted t) (p : ByteArray) : Sorted (kids t p) := sorted_filter h _
/-- Where a node has no fellow: it goes between those that are less and those that are not. -/
theorem put_new {t : List R} (h : Sorted t) {n : R} (hn : recAt t n.p = none) : putL t n = t.take (placeOf t n) ++ n :: t.drop (placeOf t n) := by
  rw [put_is h, if_neg]
  intro e
  cases hg : t[placeOf t n]? with
  | none => rw [hg] at e; cases e
  | some x =>
    rw [hg] at e
    have hm := List.mem_of_getElem? hg
    exact recAt_none hn x hm (by simpa using e)
theorem kids_put {t : List R} (h : Sorted t) {n : R} (hn : recAt t n.p = none) (p : ByteArray) : kids (putL t n) p = if parO n.p = p then putL (kids t p) n else kids t p := by
  have e := put_new h hn
  by_cases hp : parO n.p = p
  · rw [if_pos hp]
    unfold putL kids
    rw [List.filter_append, List.filter_cons_of_pos (by simpa using hp)]
    simp only [List.filter_filter, Bool.and_comm]
  · rw [if_neg hp, e]
    conv => rhs; rw [← List.take_append_drop (placeOf t n) t]
    unfold kids
    rw [List.filter_append, List.filter_cons_of_neg (by simpa using hp), List.filter_append]
theorem recAt_kids {t : List R} {q p : ByteArray} (h : recAt t q = none) : recAt (kids t p) q = none := by
  unfold recAt at h ⊢
  rw [List.find?_eq_none] at h ⊢
  exact fun x hx => h x (mem_kids.1 hx).1
/-- What stays directly below one that stays. -/
theorem kids_without {t : List R} (ht : ∀ r ∈ t, pathB r.p.data.toList = true) {q : ByteArray} (hq : pathB q.data.toList = true) {p : ByteArray} (hp : p ≠ q ∧ q ∉ ups p) :
    kids (withoutL t q true) p = (kids t p).filter fun c => !(decide (parO q = p) && decide (lastB c.p = lastB q)) := by
  unfold kids withoutL
  rw [List.filter_filter, List.filter_filter]
  apply List.filter_congr
  intro x hx
  have hxp := ht x hx
  by_cases hpar : parO x.p = p
  · have hup : q ∉ ups x.p := by
      intro hm
      by_cases he : parO x.p = ByteArray.empty
      · rw [ups_step hxp, if_pos (parO_empty.1 he)] at hm; cases hm
      · rw [ups_of_par hxp he, hpar, List.mem_cons] at hm
        rcases hm with hm | hm
        · exact hp.1 hm.symm
        · exact hp.2 hm
    have h1 : isUp q x.p = false := isUp_no.2 hup
    rw [h1, decide_eq_true hpar]
    simp only [Bool.not_false, Bool.true_and, Bool.and_true]
    by_cases he : x.p = q
    · subst he
      simp [hpar]
    · have : ¬ (parO q = p ∧ lastB x.p = lastB q) := fun h => he (path_two hxp hq (hpar.trans h.1.symm) h.2)
      rw [decide_eq_false he]
      by_cases h1 : parO q = p
      · have h2 : ¬ lastB x.p = lastB q := fun e => this ⟨h1, e⟩
        simp [h1, h2]
      · simp [h1]
  · rw [decide_eq_false hpar]
    simp
end Go.Proofs.YtibekkfbpmloiabGreatDoor.Recs

/- A tree in memory: what each branch holds; finding a child of a branch, resolving parts. -/
namespace Go.Proofs.YtibekkfbpmloiabGreatDoor.Recs
set_option maxRecDepth 100000
open Go.RowKit Paths

/-- A branch's six cells. -/
def brCells (r : R) (s : Value) : Array Value := #[.string (lastB r.p), .int .i64 r.k, .string r.p, .string r.b, .int .i64 r.m, s]
def ptr (a : Nat) : Value := .pointer (some ⟨a, 0, none⟩)
def ptrs (A : ByteArray → Nat) (l : List R) : List Value := l.map fun c => ptr (A c.p)
/-- The tree t lies in memory from 'base' on: A tells the block of each branch, S its slice of what is directly below. -/
structure Tr (w : World) (base : Nat) (A : ByteArray → Nat) (S : ByteArray → Value) (t : List R) : Prop where
  block : ∀ r ∈ rootR :: t, w.heap[A r.p]? = some (.cells (brCells r (S r.p)) 197 (0, 0))
  own : ∀ r ∈ rootR :: t, base ≤ A r.p
  row : ∀ r ∈ rootR :: t, w.ownsRow base 146 1 (S r.p) (kids t r.p).length (ptrs A (kids t r.p))
  apart : ∀ r ∈ rootR :: t, ∀ x ∈ rootR :: t, r.p ≠ x.p → ∀ g, (S r.p).ownBlock = some g → (S x.p).ownBlock ≠ some g
section
variable {w w' : World} {base : Nat} {A : ByteArray → Nat} {S : ByteArray → Value} {t : List R} {r : R}
theorem Tr.lt (h : Tr w base A S t) (hr : r ∈ rootR :: t) : A r.p < w.heap.size := (Array.getElem?_eq_some_iff.1 (h.block r hr)).1
theorem Tr.below (h : Tr w base A S t) (hb : Below w.heap.size w w') : Tr w' base A S t :=
  ⟨fun r hr => (hb.block _ (h.lt hr)).trans (h.block r hr), h.own, fun r hr => own_below (h.row r hr) hb, h.apart⟩
theorem Tr.cells (h : Tr w base A S t) (hr : r ∈ rootR :: t) :
    w.cell? ⟨A r.p, 0, none⟩ = some (.string (lastB r.p)) ∧ w.cell? ⟨A r.p, 1, none⟩ = some (.int .i64 r.k) ∧ w.cell? ⟨A r.p, 2, none⟩ = some (.string r.p) ∧
    w.cell? ⟨A r.p, 3, none⟩ = some (.string r.b) ∧ w.cell? ⟨A r.p, 4, none⟩ = some (.int .i64 r.m) ∧ w.cell? ⟨A r.p, 5, none⟩ = some (S r.p) := by
  have := h.block r hr
  refine ⟨?_, ?_, ?_, ?_, ?_, ?_⟩ <;> (unfold World.cell?; simp only [this]; rfl)
theorem Tr.frozen (h : Tr w base A S t) (hr : r ∈ rootR :: t) (j : Nat) : w.frozen? ⟨A r.p, j, none⟩ = false := by
  have := h.block r hr
  unfold World.frozen?
  simp only [this]
  simp
theorem kid_mem {p : ByteArray} {c : R} (h : c ∈ kids t p) : c ∈ rootR :: t := List.mem_cons_of_mem _ (mem_kids.1 h).1
end

/-- A slice that reads as parts. -/
def PartSl (w : World) (v : Value) (L : List (List UInt8)) : Prop :=
  ∃ A cap, v = .slice A L.length cap ∧ L.length ≤ cap ∧ (0 < L.length → ∃ g, A = some ⟨g, 0, none⟩ ∧ g < w.heap.size ∧ ∀ i (hi : i < L.length), w.cell? ⟨g, i, none⟩ = some (strV L[i]))
theorem PartSl.below {w w' : World} {v : Value} {L : List (List UInt8)} (h : PartSl w v L) (hb : Below w.heap.size w w') : PartSl w' v L := by
  obtain ⟨A, cap, rfl, hc, h⟩ := h
  refine ⟨A, cap, rfl, hc, fun hn => ?_⟩
  obtain ⟨g, rfl, hlt, hcell⟩ := h hn
  exact ⟨g, rfl, Nat.lt_of_lt_of_le hlt hb.size, fun i hi => (hb.cell (p := ⟨g, i, none⟩) hlt).trans (hcell i hi)⟩
theorem PartSl.take {w : World} {sA : Option Addr} {cap : Nat} {L : List (List UInt8)} (h : PartSl w (.slice sA L.length cap) L) {k : Nat} (hk : k ≤ L.length) : PartSl w (.slice sA k cap) (L.take k) := by
  obtain ⟨A', cap', e, hc, h⟩ := h
  cases e
  refine ⟨sA, cap, by rw [List.length_take, Nat.min_eq_left hk], by rw [List.length_take]; omega, fun hn => ?_⟩
  rw [List.length_take] at hn
  obtain ⟨g, e, hb, hcell⟩ := h (by omega)
  refine ⟨g, e, hb, fun i hi => ?_⟩
  rw [List.length_take] at hi
  rw [hcell i (by omega), List.getElem_take]

end Go.Proofs.YtibekkfbpmloiabGreatDoor.Recs

/- slices.Insert of one pointer into a row of pointers of the call's own: what comes out, wherever it goes. -/
namespace Go.Proofs.YtibekkfbpmloiabGreatDoor.Recs
set_option maxRecDepth 100000
open Go.RowKit Paths

/-- 'copy' for the walk, where its run is known. -/
theorem wp_copy_known (w : World) {P : Program} {o : Oper} {a : Act} {K : Act → World → Prop} {Q : Exit → Act → World → Prop} (d s : Operand) (t t' : TypeId)
    (ho : o.op = .call { callee := .builtin .copy, args := #[d, s], argTypes := #[t, t'] }) (v u : Value) (hd : a.eval d = v) (hs : a.eval s = u) {v' : Value} {w' : World}
    (hr : (Builtin.copy_ #[t, t'] o.type #[v, u]).run P w = .ok v' w') (h : K (a.put o.dst v') w') : o.wp P a w K Q := by
  unfold Oper.wp execOp
  simp only [ho, resolve, invoke, builtin, Sem.run_bind, Sem.run_pure, Result.andThen_ok, List.map_toArray, List.map_cons, List.map_nil, hd, hs, hr]
  exact h
theorem wpList_copy_known (w : World) {P : Program} {ops : Array Oper} {rest : List Oper} {o : Oper} {a : Act} {Q : Exit → Act → World → Prop} (hgd : o.guard = none) (d s : Operand) (t t' : TypeId)
    (ho : o.op = .call { callee := .builtin .copy, args := #[d, s], argTypes := #[t, t'] }) (v u : Value) (hd : a.eval d = v) (hs : a.eval s = u) {v' : Value} {w' : World}
    (hr : (Builtin.copy_ #[t, t'] o.type #[v, u]).run P w = .ok v' w') (h : wpList P ops Q rest (a.put o.dst v') w') : wpList P ops Q (o :: rest) a w :=
  wpList_plain hgd fun _ hK => wp_copy_known w d s t t' ho v u hd hs hr (hK _ _ h)
end Go.Proofs.YtibekkfbpmloiabGreatDoor.Recs

/- slices.Insert of one pointer into a row of pointers of the call's own: without room in the middle; all ways together. -/
namespace Go.Proofs.YtibekkfbpmloiabGreatDoor.Recs
set_option maxRecDepth 100000
open Go.RowKit Paths

theorem alloc_at (w : World) (o : Obj) : (w.alloc o).heap[w.heap.size]? = some o := heap_alloc_new w o
end Go.Proofs.YtibekkfbpmloiabGreatDoor.Recs

/- A tree in memory: a node put into its place. -/
namespace Go.Proofs.YtibekkfbpmloiabGreatDoor.Recs
set_option maxRecDepth 100000
open Go.RowKit Paths

section
variable {w w' : World} {base : Nat} {A : ByteArray → Nat} {S : ByteArray → Value} {t : List R} {r x n : R}
theorem brCells_path {s s' : Value} (h : brCells r s = brCells x s') : r.p = x.p := by
  have := congrArg (fun c : Array Value => c[2]?) h
  simpa [brCells] using this
theorem Tr.inj (h : Tr w base A S t) (hr : r ∈ rootR :: t) (hx : x ∈ rootR :: t) (e : A r.p = A x.p) : r.p = x.p := by
  have h1 := h.block r hr
  rw [e, h.block x hx] at h1
  simp only [Option.some.injEq, Obj.cells.injEq, and_true] at h1
  exact (brCells_path h1).symm
theorem own_type {e : TypeId} {v : Value} {m : Nat} {xs : List Value} (h : w.ownsRow base e 1 v m xs) {g : Nat} (hg : v.ownBlock = some g) : ∃ cur, w.heap[g]? = some (.cells cur e (0, 0)) := by
  rcases h.2 with ⟨rfl, _⟩ | ⟨g', cap, cur, rfl, _, hh, _⟩
  · cases hg
  · cases hg; exact ⟨cur, hh⟩
theorem types_two : (146 : TypeId) ≠ 197 := by decide
theorem Tr.apart_row (h : Tr w base A S t) (hr : r ∈ rootR :: t) (hx : x ∈ rootR :: t) : (S x.p).ownBlock ≠ some (A r.p) := fun e => by
  obtain ⟨cur, hc⟩ := own_type (h.row x hx) e
  rw [h.block r hr] at hc
  simp only [Option.some.injEq, Obj.cells.injEq] at hc
  exact types_two hc.2.1.symm
theorem root_mem : rootR ∈ rootR :: t := List.mem_cons_self ..
theorem dom_once (hs : Sorted t) (hp : ∀ r ∈ t, pathB r.p.data.toList = true) (hr : r ∈ rootR :: t) (hx : x ∈ rootR :: t) (e : r.p = x.p) : r = x := by
  rcases List.mem_cons.1 hr with rfl | hr <;> rcases List.mem_cons.1 hx with rfl | hx
  · rfl
  · exact absurd e.symm (path_nonempty (hp x hx))
  · exact absurd e (path_nonempty (hp r hr))
  · exact sorted_mem_once hs hr hx e
theorem dom_new (hn : pathB n.p.data.toList = true) (hnew : recAt t n.p = none) (hr : r ∈ rootR :: t) : r.p ≠ n.p := by
  rcases List.mem_cons.1 hr with rfl | hr
  · exact fun e => path_nonempty hn e.symm
  · exact recAt_none hnew r hr
theorem par_ne (hn : pathB n.p.data.toList = true) : n.p ≠ parO n.p := fun e => by
  by_cases hp : parO n.p = ByteArray.empty
  · exact path_nonempty hn (e.trans hp)
  · have := up_self hn
    rw [ups_of_par hn hp, ← e] at this
    exact this (List.mem_cons_self ..)
theorem kids_new (ht : IsTree t) (hn : pathB n.p.data.toList = true) (hnew : recAt t n.p = none) : kids t n.p = [] := by
  unfold kids
  rw [List.filter_eq_nil_iff]
  intro c hc he
  have he := of_decide_eq_true he
  by_cases hp : parentL c.p.data.toList = []
  · exact path_nonempty hn (he.symm.trans (parO_empty.2 hp))
  · obtain ⟨x, hx, h1, _⟩ := ht.housed c hc hp
    exact recAt_none hnew x hx (h1.trans he)

def putAdr (A : ByteArray → Nat) (q : ByteArray) (a : Nat) : ByteArray → Nat := fun p => if p = q then a else A p
def putSl (S : ByteArray → Value) (x q : ByteArray) (v : Value) : ByteArray → Value := fun p => if p = x then v else if p = q then .slice none 0 0 else S p
theorem ptrs_put {l : List R} (a : Nat) (h : ∀ c ∈ l, c.p ≠ n.p) : ptrs (putAdr A n.p a) l = ptrs A l := by
  unfold ptrs putAdr
  exact List.map_congr_left fun c hc => by rw [if_neg (h c hc)]
theorem setCell_block {cur : Array Value} {e : TypeId} {fz : Nat × Nat} {g : Nat} (h : w.heap[g]? = some (.cells cur e fz)) (j : Nat) (u : Value) : (w.setCell ⟨g, j, none⟩ u).heap[g]? = some (.cells (cur.setIfInBounds j u) e fz) := by
  simp [World.setCell, Array.getElem?_modify, h]

theorem Tr.put {W w9 : World} (h : Tr W base A S t) (ht : IsTree t) (hn : pathB n.p.data.toList = true) (hx : x ∈ rootR :: t) (hxp : x.p = parO n.p) (hnew : recAt t n.p = none) {v' : Value} {a : Nat}
    (ha : W.heap[a]? = some (.cells (brCells n (.slice none 0 0)) 197 (0, 0))) (hab : base ≤ a)
    (hown : w9.ownsRow base 146 1 v' ((kids t x.p).length + 1) ((ptrs A (kids t x.p)).take (placeOf (kids t x.p) n) ++ ptr a :: (ptrs A (kids t x.p)).drop (placeOf (kids t x.p) n)))
    (hgrow : W.grownBy w9 (S x.p).ownBlock) (hwh : v'.ownBlock = (S x.p).ownBlock ∨ v'.ownBlock = some W.heap.size) :
    Tr (w9.setCell ⟨A x.p, 5, none⟩ v') base (putAdr A n.p a) (putSl S x.p n.p v') (putL t n) := by
  have hs := ht.sorted
  have hpath := ht.path
  have hnx : n.p ≠ x.p := by rw [hxp]; exact par_ne hn
  have hdn : ∀ r ∈ rootR :: t, r.p ≠ n.p := fun r hr => dom_new hn hnew hr
  have hA : ∀ r ∈ rootR :: t, putAdr A n.p a r.p = A r.p := fun r hr => if_neg (hdn r hr)
  have hAn : putAdr A n.p a n.p = a := if_pos rfl
  have hSx : putSl S x.p n.p v' x.p = v' := if_pos rfl
  have hSn : putSl S x.p n.p v' n.p = .slice none 0 0 := by unfold putSl; rw [if_neg hnx, if_pos rfl]
  have hS : ∀ r ∈ rootR :: t, r.p ≠ x.p → putSl S x.p n.p v' r.p = S r.p := fun r hr he => by unfold putSl; rw [if_neg he, if_neg (hdn r hr)]
  have hmem : ∀ r, r ∈ rootR :: putL t n → r = n ∨ r ∈ rootR :: t := fun r hr => by
    rcases List.mem_cons.1 hr with rfl | hr
    · exact .inr root_mem
    · rcases mem_put.1 hr with rfl | ⟨h1, _⟩
      · exact .inl rfl
      · exact .inr (List.mem_cons_of_mem _ h1)
  have hax : a ≠ A x.p := fun e => by
    have h1 := h.block x hx
    rw [← e, ha] at h1
    simp only [Option.some.injEq, Obj.cells.injEq, and_true] at h1
    exact hnx (brCells_path h1)
  have hasl : (S x.p).ownBlock ≠ some a := fun e => by
    obtain ⟨cur, hc⟩ := own_type (h.row x hx) e
    rw [ha] at hc
    simp only [Option.some.injEq, Obj.cells.injEq] at hc
    exact types_two hc.2.1.symm
  have hb9 : ∀ r ∈ rootR :: t, w9.heap[A r.p]? = W.heap[A r.p]? := fun r hr => hgrow.block _ (h.lt hr) (fun e => h.apart_row hr hx e.symm)
  have hvx : v'.ownBlock ≠ some (A x.p) := fun e => by
    obtain ⟨cur, hc⟩ := own_type hown e
    rw [hb9 x hx, h.block x hx] at hc
    simp only [Option.some.injEq, Obj.cells.injEq] at hc
    exact types_two hc.2.1.symm
  have hkid : ∀ p, kids (putL t n) p = if parO n.p = p then putL (kids t p) n else kids t p := fun p => kids_put hs hnew p
  refine ⟨fun r hr => ?_, fun r hr => ?_, fun r hr => ?_, fun r hr y hy hne g hg => ?_⟩
  · rcases hmem r hr with rfl | hrt
    · rw [hAn, hSn, Below.heap_setCell _ _ _ _ hax, hgrow.block a (Array.getElem?_eq_some_iff.1 ha).1 (fun e => hasl e.symm)]
      exact ha
    · rw [hA r hrt]
      by_cases he : r.p = x.p
      · obtain rfl := dom_once hs hpath hrt hx he
        rw [hSx]
        have := setCell_block ((hb9 r hrt).trans (h.block r hrt)) 5 v'
        rw [this]
        rfl
      · rw [hS r hrt he, Below.heap_setCell _ _ _ _ (fun e => he (h.inj hrt hx e)), hb9 r hrt]
        exact h.block r hrt
  · rcases hmem r hr with rfl | hrt
    · rw [hAn]; exact hab
    · rw [hA r hrt]; exact h.own r hrt
  · rcases hmem r hr with rfl | hrt
    · rw [hSn, hkid, if_neg (by rw [← hxp]; exact fun e => hnx e.symm), kids_new ht hn hnew]
      exact World.ownsRow_nil _ _ _ _
    · by_cases he : r.p = x.p
      · obtain rfl := dom_once hs hpath hrt hx he
        rw [hSx, hkid, if_pos hxp.symm, put_new (kids_sorted hs _) (recAt_kids hnew)]
        have hk : ∀ c ∈ kids t r.p, c.p ≠ n.p := fun c hc => hdn c (kid_mem hc)
        have e1 : ptrs (putAdr A n.p a) ((kids t r.p).take (placeOf (kids t r.p) n) ++ n :: (kids t r.p).drop (placeOf (kids t r.p) n)) = (ptrs A (kids t r.p)).take (placeOf (kids t r.p) n) ++ ptr a :: (ptrs A (kids t r.p)).drop (placeOf (kids t r.p) n) := by
          have e2 := ptrs_put (A := A) (n := n) (l := (kids t r.p).take (placeOf (kids t r.p) n)) a (fun c hc => hk c (List.mem_of_mem_take hc))
          have e3 := ptrs_put (A := A) (n := n) (l := (kids t r.p).drop (placeOf (kids t r.p) n)) a (fun c hc => hk c (List.mem_of_mem_drop hc))
          unfold ptrs at e2 e3 ⊢
          rw [List.map_append, List.map_cons, e2, e3, hAn, List.map_take, List.map_drop]
        have e4 : ((kids t r.p).take (placeOf (kids t r.p) n) ++ n :: (kids t r.p).drop (placeOf (kids t r.p) n)).length = (kids t r.p).length + 1 := by
          have : placeOf (kids t r.p) n ≤ (kids t r.p).length := by unfold placeOf; exact (List.takeWhile_prefix _).sublist.length_le
          rw [List.length_append, List.length_cons, List.length_take, List.length_drop]
          omega
        rw [e1, e4]
        exact ownsRow_setCell_other hown hvx _
      · rw [hS r hrt he, hkid, if_neg (by rw [← hxp]; exact fun e => he e.symm), ptrs_put a (fun c hc => hdn c (kid_mem hc))]
        have hk := (h.row r hrt).kept hgrow (by
          cases hc : (S r.p).ownBlock with
          | none => exact .inl rfl
          | some g => exact .inr fun e => h.apart r hrt x hx he g hc e.symm)
        exact ownsRow_setCell_other hk (h.apart_row hx hrt) _
  · rcases hmem r hr with rfl | hrt
    · rw [hSn] at hg; cases hg
    · rcases hmem y hy with rfl | hyt
      · rw [hSn]; intro e; cases e
      · by_cases her : r.p = x.p
        · have hey : y.p ≠ x.p := fun e => hne (her.trans e.symm)
          rw [her, hSx] at hg
          rw [hS y hyt hey]
          rcases hwh with h1 | h1
          · rw [h1] at hg
            exact h.apart x hx y hyt (fun e => hey e.symm) g hg
          · rw [h1] at hg
            cases hg
            intro e
            have := ((h.row y hyt).lt _ e).2
            omega
        · rw [hS r hrt her] at hg
          by_cases hey : y.p = x.p
          · rw [hey, hSx]
            rcases hwh with h1 | h1
            · rw [h1]
              exact h.apart r hrt x hx her g hg
            · rw [h1]
              intro e
              cases e
              have := ((h.row r hrt).lt _ hg).2
              omega
          · rw [hS y hyt hey]
            exact h.apart r hrt y hyt hne g hg
end
end Go.Proofs.YtibekkfbpmloiabGreatDoor.Recs

/- Nodes: opening one and a slice of them; the laws' own size, copy and comparison of a node. A node is a record of which Opaque is false. -/
namespace Go.Proofs.YtibekkfbpmloiabGreatDoor.Recs
set_option maxRecDepth 100000
open Go.RowKit Paths Go.WideShapes Go.ChangeShapes

section
variable {H : Type} {enc : TypeId × Value → H} {w : World} {base : Nat} {spare : Nat → Bool} {held : Bool}
end

/-- The four cells of a node, from a place on; it hides nothing. -/
def NodCells (w : World) (b off : Nat) (r : R) : Prop :=
  w.cell? ⟨b, off, none⟩ = some (.int .i64 r.k) ∧ w.cell? ⟨b, off + 1, none⟩ = some (.string r.p) ∧ w.cell? ⟨b, off + 2, none⟩ = some (.string r.b) ∧ w.cell? ⟨b, off + 3, none⟩ = some (.int .i64 r.m)
theorem NodCells.below {w w' : World} {B b off : Nat} {r : R} (h : NodCells w b off r) (hb : Below B w w') (hB : b < B) : NodCells w' b off r := by
  obtain ⟨h0, h1, h2, h3⟩ := h
  exact ⟨(hb.cell (p := ⟨b, off, none⟩) hB).trans h0, (hb.cell (p := ⟨b, off + 1, none⟩) hB).trans h1, (hb.cell (p := ⟨b, off + 2, none⟩) hB).trans h2, (hb.cell (p := ⟨b, off + 3, none⟩) hB).trans h3⟩
/-- A slice that reads as the nodes L, wherever it lies. -/
def NodSl (w : World) (v : Value) (L : List R) : Prop :=
  (∀ r ∈ L, r.o = false) ∧ ∃ A cap, v = .slice A L.length cap ∧ L.length ≤ cap ∧ (0 < L.length → ∃ b off, A = some ⟨b, off, none⟩ ∧ b < w.heap.size ∧ ∀ i r, L[i]? = some r → NodCells w b (off + i * 4) r)
theorem NodSl.below {w w' : World} {v : Value} {L : List R} (h : NodSl w v L) (hb : Below w.heap.size w w') : NodSl w' v L := by
  obtain ⟨ho, A, cap, rfl, hc, h⟩ := h
  refine ⟨ho, A, cap, rfl, hc, fun hn => ?_⟩
  obtain ⟨b, off, rfl, hlt, hcell⟩ := h hn
  exact ⟨b, off, rfl, Nat.lt_of_lt_of_le hlt hb.size, fun i r hi => (hcell i r hi).below hb hlt⟩

section
variable {H : Type} {enc : TypeId × Value → H} {w : World} {base : Nat} {spare : Nat → Bool} {held : Bool}

end
end Go.Proofs.YtibekkfbpmloiabGreatDoor.Recs

/- A tree in memory: attach, of the program. -/
namespace Go.Proofs.YtibekkfbpmloiabGreatDoor.Recs
set_option maxRecDepth 100000
open Go.RowKit Paths

theorem last_cell {q : ByteArray} (h : 0 < (cutAt 47 q.data.toList).length) : strV ((cutAt 47 q.data.toList)[(cutAt 47 q.data.toList).length - 1]'(by omega)) = .string (lastB q) := by
  unfold strV lastB
  rw [List.getLast_eq_getElem]
end Go.Proofs.YtibekkfbpmloiabGreatDoor.Recs
