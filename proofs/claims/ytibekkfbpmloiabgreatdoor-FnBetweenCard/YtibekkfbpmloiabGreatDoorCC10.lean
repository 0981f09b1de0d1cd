/- Parts of several texts of mine in one file (each begins with its own remark). -/
import Derived.Test.YtibekkfbpmloiabGreatDoorCA1
import Derived.Test.YtibekkfbpmloiabGreatDoorCA10
import Derived.Test.YtibekkfbpmloiabGreatDoorCA14
import Derived.Test.YtibekkfbpmloiabGreatDoorCA15
import Derived.Test.YtibekkfbpmloiabGreatDoorCA16
import Derived.Test.YtibekkfbpmloiabGreatDoorCA17
import Derived.Test.YtibekkfbpmloiabGreatDoorCA18
import Derived.Test.YtibekkfbpmloiabGreatDoorCA2
import Derived.Test.YtibekkfbpmloiabGreatDoorCA20
import Derived.Test.YtibekkfbpmloiabGreatDoorCA22
import Derived.Test.YtibekkfbpmloiabGreatDoorCA3
import Derived.Test.YtibekkfbpmloiabGreatDoorCA4
import Derived.Test.YtibekkfbpmloiabGreatDoorCA5
import Derived.Test.YtibekkfbpmloiabGreatDoorCA6
import Derived.Test.YtibekkfbpmloiabGreatDoorCA7
import Derived.Test.YtibekkfbpmloiabGreatDoorCA9
import Derived.Test.YtibekkfbpmloiabGreatDoorCC1
import Derived.Test.YtibekkfbpmloiabGreatDoorCC4
import Derived.Test.YtibekkfbpmloiabGreatDoorCC8
import Derived.Test.YtibekkfbpmloiabGreatDoorCC9
import Derived.Test.YtibekkfbpmloiabGreatDoorChecked
import Derived.Test.YtibekkfbpmloiabGreatDoorShelf
import Derived.Test.YtibekkfbpmloiabGreatDoorProg
import Derived.Test.YtibekkfbpmloiabGreatDoorRows
import Derived.Deep.RegionHeld3
import Derived.BigRegion
import Derived.StillTailTactics
import Derived.Deep.Slices
import Derived.OpenShut
import Derived.ShutString
import Derived.ChangeArms
import Derived.WideShapes
import Derived.Lib.LaidTab
import Derived.BigQuiet
import Derived.Deep.QuietTactic
import Derived.Deep.Draws
import Derived.Deep.LoopGhost
import Derived.WalkKit
import Derived.WalkSpells
import Derived.WalkSmall
import Derived.Lib.OthersKept
import Derived.Lib.Hide
import Derived.Lib.Strings
import Derived.Lib.Join
import Derived.WalkLawsBesides
import Derived.Laws.BytesArg
import Derived.Laws.OwnMore
import Derived.Stop.LaidErr
import Derived.LaidEql
import Derived.Stop.Asserts
import Derived.Below
import Derived.Stop.LaidTwo
import Derived.RangeFuncNested
import Derived.RangeFuncBound
import Derived.RangeFuncCalls
import Derived.RangeFuncLeaves
import Derived.RangeFuncBox
import Derived.Shelf.Abstract
import Derived.Shelf.RegionOpen
import Derived.OwnWalkIn
import Derived.TacticsInMore
import Derived.LoopNIn
import Derived.LoopIn
import Derived.ChangeVars
import Derived.Deep.DeepHandedRow
import Derived.Deep.RegionWith
import Derived.OneCell
import Derived.Lib.SliceRun
import Derived.Lib.Overlaps
import Derived.Lib.AppendZerosOnto
import Derived.Laws.NewBlocks
import Derived.Laws.IdiomCopy
import Derived.Deep.RegionLaw
import Derived.Maps.OwnIn
import Derived.Laws.AppendOwnNone
import Derived.RegionTactic
import Derived.Laws.IdiomRangeMap
import Derived.Maps.RangeWalk
import Derived.Maps.Ext
import Derived.Lib.SlMapFilter
/- The changes between two lists of nodes in the order of paths, of the program: the first path, the iterator. -/
namespace Go.Proofs.YtibekkfbpmloiabGreatDoor.Recs
set_option maxRecDepth 100000
open Go.RowKit Paths Errs Go.Shelf
attribute [local go_sem] Oper.semAt_some

theorem abide_below {β : Type} {K : Nat} {J : β → World → Prop} (hJ : AbidesFrom K J) {s : β} {W W' : World} (h : J s W) (hb : Below W.heap.size W W') : J s W' :=
  hJ s W W' none h ⟨hb.os, hb.tape, hb.output, hb.size, fun k hk _ => hb.block k hk⟩ (fun r e => by cases e)
/-- The path that comes first in two lists. -/
def fpQ : List R → List R → ByteArray
  | x :: _, [] => x.p
  | x :: _, y :: _ => if lessR x y then x.p else y.p
  | [], y :: _ => y.p
  | [], [] => ByteArray.empty
/-- A change as the iterator hands it out. -/
structure ItC (A B : List R) where
  c : Chg
  mem : c ∈ chgs A B
theorem nsl_of {w : World} {a : Option Addr} {n cap : Nat} {l : List R} (ho : ∀ r ∈ l, r.o = false) (hn : l.length = n) (hc : n ≤ cap) (h : 0 < n → ∃ b off, a = some ⟨b, off, none⟩ ∧ b < w.heap.size ∧ ∀ i r, l[i]? = some r → NodCells w b (off + i * 4) r) : NodSl w (.slice a n cap) l := by
  subst hn
  exact ⟨ho, a, cap, rfl, hc, h⟩
theorem ntail_more {w : World} {b off n cap : Nat} {x : R} {t : List R} (h : NodSl w (.slice (some ⟨b, off, none⟩) n cap) (x :: t)) : NodSl w (.slice (some ⟨b, off + 4, none⟩) (n - 1) (cap - 1)) t := by
  obtain ⟨ho, A, c, e, hc, h⟩ := h
  cases e
  obtain ⟨b', off', e, hb, hcell⟩ := h (by simp)
  cases e
  refine ⟨fun r hr => ho r (List.mem_cons_of_mem _ hr), _, _, rfl, by simp at hc; omega, fun _ => ⟨b, off + 4, rfl, hb, fun i r hi => ?_⟩⟩
  have := hcell (i + 1) r (by simpa using hi)
  have e : off + (i + 1) * 4 = off + 4 + i * 4 := by omega
  rw [e] at this
  exact this
theorem ntail_one {w : World} {b off n cap : Nat} {x : R} {t : List R} (h : NodSl w (.slice (some ⟨b, off, none⟩) n cap) (x :: t)) (hc1 : cap = 1) : NodSl w (.slice (some ⟨b, off, none⟩) 0 0) t := by
  obtain ⟨ho, A, c, e, hc, h⟩ := h
  cases e
  have : t = [] := List.eq_nil_of_length_eq_zero (by simp at hc; omega)
  subst this
  exact ⟨fun r hr => (by cases hr), _, 0, rfl, Nat.le_refl _, fun h => (by cases h)⟩
/-- A change's value, and a block that holds one. -/
def chgVN (c : Chg) : Value := .agg #[.string c.1, .int .i64 c.2.1.k, .string c.2.1.p, .string c.2.1.b, .int .i64 c.2.1.m, .int .i64 c.2.2.k, .string c.2.2.p, .string c.2.2.b, .int .i64 c.2.2.m]
def CbN (w : World) (B : Nat) (q : ByteArray) (x y : R) : Prop := w.heap[B]? = some (.cells #[.string q, .int .i64 x.k, .string x.p, .string x.b, .int .i64 x.m, .int .i64 y.k, .string y.p, .string y.b, .int .i64 y.m] 92 (0, 0))
set_option maxHeartbeats 400000 in
theorem pathOfN_any (kk mm : Int) (pp bb : ByteArray) (w : World) :
    Calls Tryz.prog 75 #[.agg #[.int .i64 kk, .string pp, .string bb, .int .i64 mm]] w fun e w' => e = .returned (.string pp) ∧ Below w.heap.size w w' := by
  go_enter Tryz.func75, Tryz.ntmps75
  go_wp2
  go_ret
  exact ⟨rfl, (Below.refl _ _).alloc (Nat.le_refl _) _⟩
theorem CbN.lt {w : World} {B : Nat} {q : ByteArray} {x y : R} (h : CbN w B q x y) : B < w.heap.size := (Array.getElem?_eq_some_iff.1 h).1
theorem CbN.below {w w' : World} {K B : Nat} {q : ByteArray} {x y : R} (h : CbN w B q x y) (hb : Below K w w') (hB : B < K) : CbN w' B q x y := (hb.block B hB).trans h
theorem CbN.cells {w : World} {B : Nat} {q : ByteArray} {x y : R} (h : CbN w B q x y) : w.cell? ⟨B, 0, none⟩ = some (.string q) ∧ w.cell? ⟨B, 1, none⟩ = some (.int .i64 x.k) ∧ w.cell? ⟨B, 2, none⟩ = some (.string x.p) ∧ w.cell? ⟨B, 3, none⟩ = some (.string x.b) ∧ w.cell? ⟨B, 4, none⟩ = some (.int .i64 x.m) ∧ w.cell? ⟨B, 5, none⟩ = some (.int .i64 y.k) ∧ w.cell? ⟨B, 6, none⟩ = some (.string y.p) ∧ w.cell? ⟨B, 7, none⟩ = some (.string y.b) ∧ w.cell? ⟨B, 8, none⟩ = some (.int .i64 y.m) := by
  refine ⟨?_, ?_, ?_, ?_, ?_, ?_, ?_, ?_, ?_⟩ <;> simp [World.cell?, show w.heap[B]? = _ from h]
theorem CbN.frozen {w : World} {B : Nat} {q : ByteArray} {x y : R} (h : CbN w B q x y) : w.frozen? ⟨B, 0, none⟩ = false ∧ w.frozen? ⟨B, 1, none⟩ = false ∧ w.frozen? ⟨B, 2, none⟩ = false ∧ w.frozen? ⟨B, 3, none⟩ = false ∧ w.frozen? ⟨B, 4, none⟩ = false ∧ w.frozen? ⟨B, 5, none⟩ = false ∧ w.frozen? ⟨B, 6, none⟩ = false ∧ w.frozen? ⟨B, 7, none⟩ = false ∧ w.frozen? ⟨B, 8, none⟩ = false := by
  refine ⟨?_, ?_, ?_, ?_, ?_, ?_, ?_, ?_, ?_⟩ <;> simp [World.frozen?, show w.heap[B]? = _ from h]
theorem CbN.one {w : World} {B : Nat} {q : ByteArray} {x y : R} (h : CbN w B q x y) (z : R) : CbN ((((w.setCell ⟨B, 1, none⟩ (.int .i64 z.k)).setCell ⟨B, 2, none⟩ (.string z.p)).setCell ⟨B, 3, none⟩ (.string z.b)).setCell ⟨B, 4, none⟩ (.int .i64 z.m)) B q z y := by
  have h0 := setCell_heap (j := 1) (u := .int .i64 z.k) h
  have h1 := setCell_heap (j := 2) (u := .string z.p) h0
  have h2 := setCell_heap (j := 3) (u := .string z.b) h1
  have h3 := setCell_heap (j := 4) (u := .int .i64 z.m) h2
  unfold CbN
  rw [h3]
  rfl
theorem CbN.two {w : World} {B : Nat} {q : ByteArray} {x y : R} (h : CbN w B q x y) (z : R) : CbN ((((w.setCell ⟨B, 5, none⟩ (.int .i64 z.k)).setCell ⟨B, 6, none⟩ (.string z.p)).setCell ⟨B, 7, none⟩ (.string z.b)).setCell ⟨B, 8, none⟩ (.int .i64 z.m)) B q x z := by
  have h0 := setCell_heap (j := 5) (u := .int .i64 z.k) h
  have h1 := setCell_heap (j := 6) (u := .string z.p) h0
  have h2 := setCell_heap (j := 7) (u := .string z.b) h1
  have h3 := setCell_heap (j := 8) (u := .int .i64 z.m) h2
  unfold CbN
  rw [h3]
  rfl

set_option maxHeartbeats 3200000 in
theorem firstPathN_any (u1 u2 : Value) (As Bs : List R) (w : World) (h1 : NodSl w u1 As) (h2 : NodSl w u2 Bs) (hne : 0 < As.length + Bs.length) (hp1 : ∀ r ∈ As, pathB r.p.data.toList = true) (hp2 : ∀ r ∈ Bs, pathB r.p.data.toList = true) :
    Calls Tryz.prog 141 #[u1, u2, .func (.func 75) #[] #[]] w fun e w' => e = .returned (.string (fpQ As Bs)) ∧ Below w.heap.size w w' := by
  obtain ⟨ho1, a1, cap1, rfl, hcap1, h1⟩ := h1
  obtain ⟨ho2, a2, cap2, rfl, hcap2, h2⟩ := h2
  have H1 := Lib.hid h1
  have H2 := Lib.hid h2
  have HPO : Hid (∀ (kk mm : Int) (pp bb : ByteArray) (W : World), Calls Tryz.prog 75 #[.agg #[.int .i64 kk, .string pp, .string bb, .int .i64 mm]] W fun e w' => e = .returned (.string pp) ∧ Below W.heap.size W w') := fun kk mm pp bb W => pathOfN_any kk mm pp bb W
  clear h1 h2
  cases As with
  | nil =>
    cases Bs with
    | nil => simp at hne
    | cons y b =>
      obtain ⟨b2, off2, rfl, hb2, hcell2⟩ := H2.out (by simp)
      have HC2 : Hid (∀ W, Below w.heap.size w W → NodCells W b2 off2 y) := fun W hW => by have := (hcell2 0 y rfl).below hW hb2; simpa using this
      obtain ⟨d0, d1, d2, d3⟩ := HC2.out w (Below.refl _ _)
      have hq2 : (0 : Int) < ((y :: b).length : Int) := by rw [List.length_cons]; omega
      have hqn2 : 0 < (y :: b).length := by simp
      clear hcell2
      have hz2 : (((y :: b).length : Int) == 0) = false := by simp; omega
      clear H1 H2 hp1 hp2 hne
      generalize (y :: b).length = n2 at *
      go_enter Tryz.func141, Tryz.ntmps141
      go_wp2_with fail
      go_quiet (fail)
      have hbq := below_drewN (Below.refl w.heap.size w) nq
      obtain ⟨d0, d1, d2, d3⟩ := HC2.out _ hbq
      generalize w.drewN nq = W at *
      go_wp2_with fail
      refine (HPO.out _ _ _ _ _).mono ?_
      rintro e w1 ⟨rfl, hb1⟩
      go_wp2_with fail
      go_ret
      exact ⟨rfl, hbq.trans (hb1.mono hbq.size)⟩
  | cons x a =>
    cases Bs with
    | nil =>
      obtain ⟨b1, off1, rfl, hb1, hcell1⟩ := H1.out (by simp)
      have HC1 : Hid (∀ W, Below w.heap.size w W → NodCells W b1 off1 x) := fun W hW => by have := (hcell1 0 x rfl).below hW hb1; simpa using this
      obtain ⟨c0, c1, c2, c3⟩ := HC1.out w (Below.refl _ _)
      have hq1 : (0 : Int) < ((x :: a).length : Int) := by rw [List.length_cons]; omega
      have hqn1 : 0 < (x :: a).length := by simp
      clear hcell1
      clear H1 H2 hp1 hp2 hne
      generalize (x :: a).length = n1 at *
      go_enter Tryz.func141, Tryz.ntmps141
      go_wp2_with fail
      go_quiet (fail)
      have hbq := below_drewN (Below.refl w.heap.size w) nq
      obtain ⟨c0, c1, c2, c3⟩ := HC1.out _ hbq
      generalize w.drewN nq = W at *
      go_wp2_with fail
      refine (HPO.out _ _ _ _ _).mono ?_
      rintro e w1 ⟨rfl, hb1⟩
      go_wp2_with fail
      go_ret
      exact ⟨rfl, hbq.trans (hb1.mono hbq.size)⟩
    | cons y b =>
      obtain ⟨b1, off1, rfl, hb1, hcell1⟩ := H1.out (by simp)
      have HC1 : Hid (∀ W, Below w.heap.size w W → NodCells W b1 off1 x) := fun W hW => by have := (hcell1 0 x rfl).below hW hb1; simpa using this
      obtain ⟨c0, c1, c2, c3⟩ := HC1.out w (Below.refl _ _)
      have hq1 : (0 : Int) < ((x :: a).length : Int) := by rw [List.length_cons]; omega
      have hqn1 : 0 < (x :: a).length := by simp
      clear hcell1
      obtain ⟨b2, off2, rfl, hb2, hcell2⟩ := H2.out (by simp)
      have HC2 : Hid (∀ W, Below w.heap.size w W → NodCells W b2 off2 y) := fun W hW => by have := (hcell2 0 y rfl).below hW hb2; simpa using this
      obtain ⟨d0, d1, d2, d3⟩ := HC2.out w (Below.refl _ _)
      have hq2 : (0 : Int) < ((y :: b).length : Int) := by rw [List.length_cons]; omega
      have hqn2 : 0 < (y :: b).length := by simp
      clear hcell2
      have hz2 : (((y :: b).length : Int) == 0) = false := by simp; omega
      have HLE : Hid (∀ W, Calls Tryz.prog 44 #[.string x.p, .string y.p] W fun e w' => e = .returned (.bool (lessR x y)) ∧ Below W.heap.size W w') := fun W => by
        have h1 := hp1 x (by simp)
        have h2 := hp2 y (by simp)
        have := pathLess_impl x.p y.p W (path_max h1) (path_max h2)
        rw [lessB_yes h1 h2] at this
        exact this
      have HFQ : Hid (fpQ (x :: a) (y :: b) = if lessR x y then x.p else y.p) := rfl
      have HKS : Hid (∀ W, Below w.heap.size w W → W.cell? ⟨b1, off1, none⟩ = some (.int .i64 x.k) ∧ W.cell? ⟨b1, off1 + 1, none⟩ = some (.string x.p) ∧ W.cell? ⟨b1, off1 + 2, none⟩ = some (.string x.b) ∧ W.cell? ⟨b1, off1 + 3, none⟩ = some (.int .i64 x.m) ∧ W.cell? ⟨b2, off2, none⟩ = some (.int .i64 y.k) ∧ W.cell? ⟨b2, off2 + 1, none⟩ = some (.string y.p) ∧ W.cell? ⟨b2, off2 + 2, none⟩ = some (.string y.b) ∧ W.cell? ⟨b2, off2 + 3, none⟩ = some (.int .i64 y.m)) := fun W hW => by
        obtain ⟨c0, c1, c2, c3⟩ := HC1.out W hW
        obtain ⟨d0, d1, d2, d3⟩ := HC2.out W hW
        exact ⟨c0, c1, c2, c3, d0, d1, d2, d3⟩
      have hbd : Below w.heap.size w w.drew := (Below.refl _ _).drew
      clear H1 H2 hp1 hp2 hne
      generalize (x :: a).length = n1 at *
      generalize (y :: b).length = n2 at *
      rcases Bool.eq_false_or_eq_true (lessR x y) with hls | hls
      all_goals
        rw [hls] at HLE HFQ
        clear hls
        go_enter Tryz.func141, Tryz.ntmps141
        go_wp2_with fail
        go_region_held3 (fun W => W.cell? ⟨b1, off1, none⟩ = some (.int .i64 x.k) ∧ W.cell? ⟨b1, off1 + 1, none⟩ = some (.string x.p) ∧ W.cell? ⟨b1, off1 + 2, none⟩ = some (.string x.b) ∧ W.cell? ⟨b1, off1 + 3, none⟩ = some (.int .i64 x.m) ∧ W.cell? ⟨b2, off2, none⟩ = some (.int .i64 y.k) ∧ W.cell? ⟨b2, off2 + 1, none⟩ = some (.string y.p) ∧ W.cell? ⟨b2, off2 + 2, none⟩ = some (.string y.b) ∧ W.cell? ⟨b2, off2 + 3, none⟩ = some (.int .i64 y.m)) (first | exact HKS.out _ c5 | exact HKS.out _ c4 | exact HKS.out _ c3 | exact HKS.out _ hbd | go_keep) (first
          | (go_at_call 75; have z0 := c3; refine (HPO.out _ _ _ _ _).mono ?_; rintro e w4 ⟨rfl, hb4⟩; have c4 := z0.trans (hb4.mono z0.size))
          | (go_at_call 75; refine (HPO.out _ _ _ _ _).mono ?_; rintro e w3 ⟨rfl, hb3⟩; have c3 := hbd.trans (hb3.mono hbd.size))
          | (go_at_call 44; refine (HLE.out _).mono ?_; rintro e w5 ⟨rfl, hb5⟩; have c5 := c4.trans (hb5.mono c4.size)))
        clear c0 c1 c2 c3 d0 d1 d2 d3
        obtain ⟨c0, c1, c2, c3⟩ := HC1.out _ c5
        obtain ⟨d0, d1, d2, d3⟩ := HC2.out _ c5
        go_wp2_with fail
        refine (HPO.out _ _ _ _ _).mono ?_
        rintro e w6 ⟨rfl, hb6⟩
        go_wp2_with fail
        go_ret
        exact ⟨by rw [HFQ.out]; rfl, c5.trans (hb6.mono c5.size)⟩

theorem changesN_any (A1 A2 : Option Addr) (n1 n2 c1 c2 : Nat) (w : World) :
    Calls Tryz.prog 74 #[.slice A1 n1 c1, .slice A2 n2 c2, .func (.func 75) #[] #[]] w fun e w' => e = .returned (.func (.func 140) #[] #[.pointer (some ⟨w.heap.size, 0, none⟩), .pointer (some ⟨w.heap.size + 1, 0, none⟩), .pointer (some ⟨w.heap.size + 2, 0, none⟩)]) ∧ w' = ((w.alloc (.cells #[.slice A1 n1 c1] 23)).alloc (.cells #[.slice A2 n2 c2] 23)).alloc (.cells #[.func (.func 75) #[] #[]] 90) := by
  go_enter Tryz.func74, Tryz.ntmps74
  go_wp2_with fail
  go_ret
  exact ⟨rfl, rfl⟩
end Go.Proofs.YtibekkfbpmloiabGreatDoor.Recs

/- The paths above a path, the record of a change, a look into the map of a tree: of the program. -/
namespace Go.Proofs.YtibekkfbpmloiabGreatDoor.Recs
set_option maxRecDepth 100000
open Go.RowKit Paths

theorem ups_range {q : ByteArray} (h : pathB q.data.toList = true) : (ups q).reverse = (List.range (nparts q - 1)).map (pre q) := by
  refine ups_ext (ups_order h) ?_ fun x => ?_
  · unfold Ups
    rw [List.pairwise_map]
    refine (List.pairwise_iff_getElem.2 fun i j hi hj hij => ?_)
    rw [List.getElem_range, List.getElem_range]
    rw [List.length_range] at hj
    exact ups_less (pre_path h j) _ (pre_up h hij (by omega))
  · rw [List.mem_reverse, List.mem_map]
    constructor
    · intro hx
      obtain ⟨i, hi, rfl⟩ := ups_pre h hx
      exact ⟨i, List.mem_range.2 (by omega), rfl⟩
    · rintro ⟨i, hi, rfl⟩
      exact pre_ups h (by have := List.mem_range.1 hi; omega)
/-- Paths as values. -/
def sv (P : List ByteArray) : List Value := P.map Value.string
theorem sv_snoc (P : List ByteArray) (q : ByteArray) : sv (P ++ [q]) = sv P ++ [.string q] := by unfold sv; rw [List.map_append]; rfl
theorem pre_join (q : ByteArray) (i : Nat) : strV (Lib.join ((cutAt 47 q.data.toList).take (i + 1)) [47]) = .string (pre q i) := rfl
theorem join_short {q : ByteArray} (h : pathB q.data.toList = true) (i : Nat) : (Lib.join ((cutAt 47 q.data.toList).take (i + 1)) [47]).length ≤ 140737488355328 := by
  have := pathB_len (pre_path h i)
  rw [pre_data] at this
  omega

set_option maxHeartbeats 1000000 in
theorem pathsAbove_any (q : ByteArray) (w : World) (hq : pathB q.data.toList = true) :
    Calls Tryz.prog 133 #[.string q] w fun e w' => ∃ v, e = .returned v ∧ Below w.heap.size w w' ∧ w'.ownsRow w.heap.size 9 1 v (ups q).length (sv (ups q).reverse) := by
  obtain ⟨i0, hi, hz0, hz1, hz2⟩ := info_parts strInfo
  have hqs : q.size ≤ maxLen := path_max hq
  have HUP := Lib.hid (ups_range hq)
  have HJS := Lib.hid (join_short hq)
  have hlen := (pathB_parts hq).1
  have hpos := cutAt_pos 47 q.data.toList
  have HPT : Hid (partsOf q.data.toList = cutAt 47 q.data.toList) := partsOf_yes hq
  have HNP : Hid (nparts q = (cutAt 47 q.data.toList).length) := rfl
  clear hq
  go_enter Tryz.func133, Tryz.ntmps133
  go_wp2_with fail
  refine (splitPath_any q _ hqs).mono ?_
  rintro e w1 ⟨v, rfl, hb1, ho1, -, -⟩
  rw [HPT.out] at ho1
  generalize hL : cutAt 47 q.data.toList = L at *
  have HPJ : Hid (∀ i, strV (Lib.join (L.take (i + 1)) [47]) = .string (pre q i)) := fun i => by rw [← hL]; exact pre_join q i
  clear hL
  obtain ⟨g, cap, rfl, hcap, hg0, hg1, hcell⟩ := own_slice ho1 (by omega)
  have HO1 := Lib.hid ho1
  clear hcell ho1
  go_wp2_with fail
  go_loopw [4, 5] (fun f i wr => ∃ (k : Nat) (P : List ByteArray), 1 ≤ k ∧ k ≤ L.length ∧ i = .int .i64 k ∧ Hid (P = (List.range (k - 1)).map (pre q)) ∧ Hid (P.length + 1 = k) ∧ wr.ownsRow w1.heap.size 9 1 f P.length (sv P) ∧ Below w1.heap.size w1 wr) (fun _ i _ => L.length - (intOf i).toNat)
  case atStart => exact ⟨1, [], by omega, by omega, rfl, rfl, rfl, World.ownsRow_nil _ _ _ _, Below.refl _ _⟩
  case round =>
    obtain ⟨k, P, hk1, hk, rfl, HP, HPL, hrow, hbw⟩ := hrel
    obtain ⟨fA, fcap, rfl⟩ := own_form hrow
    by_cases hlt : k < L.length
    · have hki : (k : Int) < (L.length : Int) := by omega
      have hk0 : (0 : Int) ≤ (k : Int) := by omega
      have hkc : (k : Int) ≤ (cap : Int) := by omega
      have hst := (Strs.own (own_below HO1.out hbw)).take (k := k) (by omega)
      have HST := Lib.hid hst
      have HN : Hid (P ++ [pre q (k - 1)] = (List.range (k + 1 - 1)).map (pre q)) := by
        show _ = _
        obtain ⟨m, rfl⟩ : ∃ m, k = m + 1 := ⟨k - 1, by omega⟩
        have hp := HP.out
        rw [show m + 1 - 1 = m from rfl] at hp
        rw [show m + 1 + 1 - 1 = m + 1 from rfl, show m + 1 - 1 = m from rfl, List.range_succ, List.map_append, hp]
        rfl
      have HJ := join_any _ (L.take k) wr HST.out (by have := HJS.out (k - 1); rw [Nat.sub_add_cancel hk1] at this; exact this) (by rw [List.length_take]; omega)
      have hj1 := HPJ.out (k - 1)
      rw [Nat.sub_add_cancel hk1] at hj1
      rw [hj1] at HJ
      have hPl : P.length ≤ 4 := by have := HPL.out; omega
      have hsz := hbw.size
      clear hst hj1
      go_wp2_with fail
      refine HJ.mono ?_
      rintro e w2 ⟨rfl, hb2⟩
      have c2 := hbw.trans (hb2.mono hbw.size)
      have hr2 := own_below hrow hb2
      have hsz2 := c2.size
      go_wp2_with (first
        | (at_builtin; refine wpList_append_own _ rfl _ _ 32 rfl w1.heap.size 9 i0 (.string ByteArray.empty) 1 16 Tryz.underlying32 hi hz0 hz1 hz2 rfl (by decide) _ _ _ rfl (hr2.alloc _) ⟨w2.heap.size, 0, none⟩ 1 1 [.string (pre q (k - 1))] rfl rfl (cell_one_new _ _ _) (fun x hx => by simp at hx; subst hx; rfl) (by unfold maxLen; omega) (by omega) (by simp; omega) ?_; intro v' w9 hown' hgrow9 hnil9))
      exact ⟨⟨k + 1, P ++ [pre q (k - 1)], by omega, by omega, by go_num, HN, by show _ = _; rw [List.length_append, List.length_singleton]; have := HPL.out; omega, by rw [List.length_append, sv_snoc]; exact hown', (c2.alloc c2.size _).grown hgrow9 (c2.alloc c2.size _).size (fun j hj => (hr2.lt j hj).1)⟩, by simp [intOf]; omega⟩
    · obtain rfl : k = L.length := by omega
      have HF : Hid (P = (ups q).reverse) := by show _ = _; rw [HP.out, HUP.out, HNP.out]
      go_wp2
      go_ret
      refine ⟨_, rfl, hb1.trans (hbw.mono hb1.size), ?_⟩
      rw [← HF.out, show (ups q).length = P.length by rw [HF.out, List.length_reverse]]
      exact own_le hrow hb1.size

/-- The record of a change; the node behind it is none or a valid one. -/
theorem recordAfter_any (c : Chg) (w : World) (ho : c.2.2.o = false) (hz : c.2.2 = zR ∨ 1 ≤ c.2.2.k) :
    Calls Tryz.prog 135 #[chgVN c] w fun e w' => e = .returned (aftR c).val ∧ Below w.heap.size w w' := by
  obtain ⟨q, x, y⟩ := c
  simp only at ho hz
  unfold chgVN
  simp only
  rcases hz with hz | hk
  · subst hz
    have HA : Hid (aftR (q, x, zR) = whiteR q) := if_pos rfl
    unfold zR
    go_enter Tryz.func135, Tryz.ntmps135
    go_wp2_with fail
    refine bodyPost_ret (v := .agg #[.int .i64 4, .string q, .string ⟨#[]⟩, .int .i64 0, .bool false]) (by simp [results, Tryz.results135, go_sem]) rfl ⟨?_, ?_⟩
    · show _ = Ending.returned (aftR (q, x, zR)).val
      rw [HA.out]
      rfl
    · repeat (first | refine Below.setCell ?_ (by simp) _ | refine Below.alloc ?_ (by simp <;> omega) _)
      exact Below.refl _ _
  · have HA : Hid (aftR (q, x, y) = y) := by
      have hne : y ≠ zR := fun e => by rw [e] at hk; exact absurd hk (by decide)
      show (if y = zR then whiteR q else nodeOf y) = y
      rw [if_neg hne]
      obtain ⟨k, m, p, b, o⟩ := y
      simp only at ho
      subst ho
      rfl
    have f0 : (y.k == 0) = false := by simp; omega
    have HREC := fun W => recordOfNode_any y ho W
    unfold R.nod R.val at HREC
    rw [ho] at HREC
    have HV : Hid ((aftR (q, x, y)).val = .agg #[.int .i64 y.k, .string y.p, .string y.b, .int .i64 y.m, .bool false]) := by show _ = _; rw [HA.out]; unfold R.val; rw [ho]
    have HRB : Hid (Rbox ((w.alloc (.cells #[.string q, .int .i64 x.k, .string x.p, .string x.b, .int .i64 x.m, .int .i64 y.k, .string y.p, .string y.b, .int .i64 y.m] 92)).alloc (.cells #[.int .i64 0, .string ⟨#[]⟩, .string ⟨#[]⟩, .int .i64 0, .bool false] 53)) (w.heap.size + 1) zR) := by
      have h := alloc_here (w.alloc (.cells #[.string q, .int .i64 x.k, .string x.p, .string x.b, .int .i64 x.m, .int .i64 y.k, .string y.p, .string y.b, .int .i64 y.m] 92)) (.cells #[.int .i64 0, .string ⟨#[]⟩, .string ⟨#[]⟩, .int .i64 0, .bool false] 53)
      rw [World.size_alloc] at h
      exact h
    have hb0 : Below w.heap.size w ((w.alloc (.cells #[.string q, .int .i64 x.k, .string x.p, .string x.b, .int .i64 x.m, .int .i64 y.k, .string y.p, .string y.b, .int .i64 y.m] 92)).alloc (.cells #[.int .i64 0, .string ⟨#[]⟩, .string ⟨#[]⟩, .int .i64 0, .bool false] 53)) := ((Below.refl _ _).alloc (Nat.le_refl _) _).alloc (by simp) _
    clear hk ho
    go_enter Tryz.func135, Tryz.ntmps135
    go_wp2_with fail
    refine (HREC _).mono ?_
    rintro e w1 ⟨rfl, hb1⟩
    have hrb := HRB.out.below hb1 (by simp)
    have c1 := hb0.trans (hb1.mono hb0.size)
    obtain ⟨⟨c0, c1', c2, c3, c4⟩, g0, g1, g2, g3, g4⟩ := hrb.facts
    simp only [zR] at c0 c1' c2 c3 c4
    have HFI : Hid (Rbox (((((w1.setCell ⟨w.heap.size + 1, 0, none⟩ (.int .i64 y.k)).setCell ⟨w.heap.size + 1, 1, none⟩ (.string y.p)).setCell ⟨w.heap.size + 1, 2, none⟩ (.string y.b)).setCell ⟨w.heap.size + 1, 3, none⟩ (.int .i64 y.m)).setCell ⟨w.heap.size + 1, 4, none⟩ (.bool false)) (w.heap.size + 1) { y with o := false }) := hrb.set { y with o := false }
    have HBE : Hid (Below w.heap.size w (((((w1.setCell ⟨w.heap.size + 1, 0, none⟩ (.int .i64 y.k)).setCell ⟨w.heap.size + 1, 1, none⟩ (.string y.p)).setCell ⟨w.heap.size + 1, 2, none⟩ (.string y.b)).setCell ⟨w.heap.size + 1, 3, none⟩ (.int .i64 y.m)).setCell ⟨w.heap.size + 1, 4, none⟩ (.bool false))) := by
      show Below _ _ _
      repeat (refine Below.setCell ?_ (by simp) _)
      exact c1
    clear hrb c1
    go_wp2_with fail
    have hfi := HFI.out
    have hbe := HBE.out
    clear HFI HBE
    generalize (((((w1.setCell ⟨w.heap.size + 1, 0, none⟩ (.int .i64 y.k)).setCell ⟨w.heap.size + 1, 1, none⟩ (.string y.p)).setCell ⟨w.heap.size + 1, 2, none⟩ (.string y.b)).setCell ⟨w.heap.size + 1, 3, none⟩ (.int .i64 y.m)).setCell ⟨w.heap.size + 1, 4, none⟩ (.bool false)) = WF at *
    obtain ⟨⟨q0, q1, q2, q3, q4⟩, -⟩ := hfi.facts
    exact bodyPost_ret (v := .agg #[.int .i64 y.k, .string y.p, .string y.b, .int .i64 y.m, .bool false]) (by simp [results, Tryz.results135, go_sem, q0, q1, q2, q3, q4]) rfl ⟨by rw [HV.out], hbe⟩

/-- A look into the map of a tree. -/
theorem MapT.look {w : World} {b n : Nat} {t : List R} (h : MapT w b n t) (q : ByteArray) (hq : q.size ≤ maxLen) :
    ∃ r : R, (Instr.lookup 150 (.map (some b)) (.string q) false).run Tryz.prog w = .ok r.nod w ∧ ((r ∈ t ∧ r.p = q) ∨ ((∀ x ∈ t, x.p ≠ q) ∧ r = zR)) := by
  obtain ⟨⟨es, h1, h2⟩, h3⟩ := h
  obtain ⟨v, ps, hrun, hv⟩ := h1.lookup keyed Tryz.underlying150 (z := zR.nod) (Tryz.zeroValue68 w) (zd := nodD zR) (zp := []) (readN_nod zR) (key := .string q) (kl := .string q.data.toList) (WideMaps.keyOf_string_mk (P := Tryz.prog) Tryz.underlying9 hq)
  obtain ⟨r, hro, rfl, hr⟩ := readN_inv hv
  refine ⟨r, hrun, ?_⟩
  have hat : (DataW.map es).atKey (.string q.data.toList) (nodD zR) = nodD r := (Prod.mk.inj hr).1
  unfold DataW.atKey at hat
  cases hf : es.find? (fun p => p.1.sameKey (.string q.data.toList)) with
  | some p =>
    simp only [hf] at hat
    obtain ⟨x, hx, rfl⟩ := (h2 p).1 (List.mem_of_find?_eq_some hf)
    have hk := List.find?_some hf
    rw [kd_key] at hk
    have hxr : x = r := nodD_inj (h3 x hx) hro hat
    exact .inl ⟨hxr ▸ hx, hxr ▸ (of_decide_eq_true hk)⟩
  | none =>
    simp only [hf] at hat
    refine .inr ⟨fun x hx e => ?_, (nodD_inj rfl hro hat).symm⟩
    have := List.find?_eq_none.1 hf (kd x) ((h2 _).2 ⟨x, hx, rfl⟩)
    rw [kd_key, decide_eq_true e] at this
    exact this rfl
end Go.Proofs.YtibekkfbpmloiabGreatDoor.Recs

/- The layer between two trees, of the program: what it gathers. -/
namespace Go.Proofs.YtibekkfbpmloiabGreatDoor.Recs
set_option maxRecDepth 100000
open Go.RowKit Paths Errs Go.Shelf
attribute [local go_sem] Oper.semAt_some

/-- The root as a node. -/
def rootN : R := ⟨3, 0, ⟨#[]⟩, ⟨#[]⟩, false⟩
theorem parO_root {q : ByteArray} (h : parentL q.data.toList = []) : parO q = ⟨#[]⟩ := by unfold parO; rw [h]
theorem empty_of {q : ByteArray} (h : parO q = ⟨#[]⟩) : parentL q.data.toList = [] := by
  have := congrArg (fun b : ByteArray => b.data.toList) h
  simpa [parO_data] using this
/-- What the program finds at the parent's path tells whether it is a directory or the root. -/
theorem look_homed {B : List R} (hb : IsTree B) {q : ByteArray} {r : R} (h : (r ∈ rootN :: B ∧ r.p = parO q) ∨ ((∀ x ∈ rootN :: B, x.p ≠ parO q) ∧ r = zR)) : homed B q = decide (r.k = 3) := by
  unfold homed
  by_cases hp : parentL q.data.toList = []
  · rw [decide_eq_true hp, Bool.true_or]
    rcases h with ⟨hr, he⟩ | ⟨hn, _⟩
    · rcases List.mem_cons.1 hr with rfl | hr
      · rfl
      · rw [parO_root hp] at he
        have := hb.path r hr
        rw [he] at this
        exact absurd rfl (pathB_ne this)
    · exact absurd (parO_root hp).symm (hn rootN (List.mem_cons_self ..))
  · rw [decide_eq_false hp, Bool.false_or]
    rcases h with ⟨hr, he⟩ | ⟨hn, rfl⟩
    · rcases List.mem_cons.1 hr with rfl | hr
      · exact absurd (empty_of he.symm) hp
      · rw [← he, recAt_of hb.sorted hr]
        rfl
    · have : recAt B (parO q) = none := by
        cases hc : recAt B (parO q) with
        | none => rfl
        | some x =>
          obtain ⟨h1, h2⟩ := recAt_mem hc
          exact absurd h2 (hn x (List.mem_cons_of_mem _ h1))
      rw [this]
      rfl
theorem look_rec {B : List R} (hb : IsTree B) (hoB : ∀ r ∈ B, r.o = false) {q a : ByteArray} (hq : pathB q.data.toList = true) (hh : homed B q = true) (ha : a ∈ ups q) {r : R} (h : (r ∈ rootN :: B ∧ r.p = a) ∨ ((∀ x ∈ rootN :: B, x.p ≠ a) ∧ r = zR)) : recB B a = r ∧ r.o = false := by
  obtain ⟨n, hn, _⟩ := homed_up hb hq hh a ha
  obtain ⟨hnm, hnp⟩ := recAt_mem hn
  rcases h with ⟨hr, he⟩ | ⟨hno, _⟩
  · rcases List.mem_cons.1 hr with rfl | hr
    · have := ups_path hq a ha
      rw [← he] at this
      exact absurd rfl (pathB_ne this)
    · have hra := recAt_of hb.sorted hr
      rw [he] at hra
      have ho := hoB r hr
      refine ⟨?_, ho⟩
      rw [recB_some hra]
      obtain ⟨k, m, p, b, o⟩ := r
      simp only at ho
      subst ho
      rfl
  · exact absurd hnp (hno n (List.mem_cons_of_mem _ hnm))

def lbL (B : List R) (cs : List Chg) : List R := cs.foldl (stepB B) []
theorem lbL_snoc (B : List R) (cs : List Chg) (c : Chg) : lbL B (cs ++ [c]) = stepB B (lbL B cs) c := by unfold lbL; rw [List.foldl_append]; rfl
theorem addB_len (B : List R) : ∀ (ds : List ByteArray) (L : List R), (ds.foldl (addB B) L).length ≤ L.length + ds.length
  | [], L => by simp
  | d :: ds, L => by
    have h := addB_len B ds (addB B L d)
    have h2 : (addB B L d).length ≤ L.length + 1 := by
      cases hd : recAt L d with
      | none => rw [addB_none hd]; simp
      | some y => rw [addB_some hd]; omega
    rw [List.foldl_cons, List.length_cons]
    omega
theorem ups_3 {q : ByteArray} (h : pathB q.data.toList = true) : (ups q).length ≤ 3 := by
  have := congrArg List.length (ups_range h)
  rw [List.length_reverse, List.length_map, List.length_range] at this
  have h4 := (pathB_parts h).1
  unfold nparts at this
  omega
theorem lbL_len (B : List R) : ∀ cs : List Chg, (∀ c ∈ cs, pathB c.1.data.toList = true) → (lbL B cs).length ≤ 4 * cs.length := by
  intro cs
  suffices H : ∀ (cs : List Chg) (L : List R), (∀ c ∈ cs, pathB c.1.data.toList = true) → (cs.foldl (stepB B) L).length ≤ L.length + 4 * cs.length by
    intro h
    have := H cs [] h
    simpa [lbL] using this
  intro cs
  induction cs with
  | nil => intro L _; simp
  | cons c cs ih =>
    intro L h
    have h1 := ih (stepB B L c) (fun d hd => h d (List.mem_cons_of_mem _ hd))
    have h2 : (stepB B L c).length ≤ L.length + 4 := by
      unfold stepB
      split
      · have := addB_len B (ups c.1).reverse L
        have h3 := ups_3 (h c (by simp))
        rw [List.length_reverse] at this
        rw [List.length_append, List.length_singleton]
        omega
      · omega
    rw [List.foldl_cons, List.length_cons]
    omega
end Go.Proofs.YtibekkfbpmloiabGreatDoor.Recs
