/- Parts of several texts of mine in one file (each begins with its own remark). -/
import Derived.Test.YtciflchaepchiabGreatDoorUA1
import Derived.Test.YtciflchaepchiabGreatDoorUA10
import Derived.Test.YtciflchaepchiabGreatDoorUA12
import Derived.Test.YtciflchaepchiabGreatDoorUA14
import Derived.Test.YtciflchaepchiabGreatDoorUA16
import Derived.Test.YtciflchaepchiabGreatDoorUA17
import Derived.Test.YtciflchaepchiabGreatDoorUA2
import Derived.Test.YtciflchaepchiabGreatDoorUA3
import Derived.Test.YtciflchaepchiabGreatDoorUA4
import Derived.Test.YtciflchaepchiabGreatDoorUA5
import Derived.Test.YtciflchaepchiabGreatDoorUA6
import Derived.Test.YtciflchaepchiabGreatDoorUA7
import Derived.Test.YtciflchaepchiabGreatDoorUA8
import Derived.Test.YtciflchaepchiabGreatDoorUA9
import Derived.Test.YtciflchaepchiabGreatDoorChecked
import Derived.Test.YtciflchaepchiabGreatDoorShelf
import Derived.Test.YtciflchaepchiabGreatDoorProg
import Derived.Test.YtciflchaepchiabGreatDoorRows
import Derived.Deep.RegionHeld3
import Derived.BigRegion
import Derived.StillTailTactics
import Derived.Deep.Slices
import Derived.OpenShut
import Derived.ShutString
import Derived.ChangeArms
import Derived.WideShapes
import Derived.Lib.LaidTab
import Derived.BigQuiet
import Derived.Deep.QuietTactic
import Derived.Deep.Draws
import Derived.Deep.LoopGhost
import Derived.WalkKit
import Derived.WalkSpells
import Derived.WalkSmall
import Derived.Lib.OthersKept
import Derived.Lib.Hide
import Derived.Lib.Strings
import Derived.Lib.Join
import Derived.WalkLawsBesides
import Derived.Laws.BytesArg
import Derived.Laws.OwnMore
import Derived.Stop.LaidErr
import Derived.LaidEql
import Derived.Stop.Asserts
import Derived.Below
import Derived.Stop.LaidTwo
import Derived.RangeFuncNested
import Derived.RangeFuncBound
import Derived.RangeFuncCalls
import Derived.RangeFuncLeaves
import Derived.RangeFuncBox
import Derived.Shelf.Abstract
import Derived.Shelf.RegionOpen
import Derived.OwnWalkIn
import Derived.TacticsInMore
import Derived.LoopNIn
import Derived.LoopIn
import Derived.ChangeVars
import Derived.Deep.DeepHandedRow
import Derived.Deep.RegionWith
import Derived.OneCell
import Derived.Lib.SliceRun
import Derived.Lib.Overlaps
import Derived.Lib.AppendZerosOnto
import Derived.Laws.NewBlocks
import Derived.Laws.IdiomCopy
import Derived.Deep.RegionLaw
import Derived.Maps.RangeWalk
import Derived.Maps.Ext
import Derived.Lib.SlMapFilter
import Derived.Laws.IdiomRangeMap
/- The changes between two lists of nodes in the order of paths, of the program: the first path, the iterator. -/
namespace Go.Proofs.YtciflchaepchiabGreatDoor.Recs
set_option maxRecDepth 100000
open Go.RowKit Paths Errs Go.Shelf
attribute [local go_sem] Oper.semAt_some

theorem abide_below {β : Type} {K : Nat} {J : β → World → Prop} (hJ : AbidesFrom K J) {s : β} {W W' : World} (h : J s W) (hb : Below W.heap.size W W') : J s W' :=
  hJ s W W' none h ⟨hb.os, hb.tape, hb.output, hb.size, fun k hk _ => hb.block k hk⟩ (fun r e => by cases e)
/-- The path that comes first in two lists. -/
def fpQ : List R → List R → ByteArray
  | x :: _, [] => x.p
  | x :: _, y :: _ => if lessR x y then x.p else y.p
  | [], y :: _ => y.p
  | [], [] => ByteArray.empty
/-- A change as the iterator hands it out. -/
structure ItC (A B : List R) where
  c : Chg
  mem : c ∈ chgs A B
theorem nsl_of {w : World} {a : Option Addr} {n cap : Nat} {l : List R} (ho : ∀ r ∈ l, r.o = false) (hn : l.length = n) (hc : n ≤ cap) (h : 0 < n → ∃ b off, a = some ⟨b, off, none⟩ ∧ b < w.heap.size ∧ ∀ i r, l[i]? = some r → NodCells w b (off + i * 4) r) : NodSl w (.slice a n cap) l := by
  subst hn
  exact ⟨ho, a, cap, rfl, hc, h⟩
theorem ntail_more {w : World} {b off n cap : Nat} {x : R} {t : List R} (h : NodSl w (.slice (some ⟨b, off, none⟩) n cap) (x :: t)) : NodSl w (.slice (some ⟨b, off + 4, none⟩) (n - 1) (cap - 1)) t := by
  obtain ⟨ho, A, c, e, hc, h⟩ := h
  cases e
  obtain ⟨b', off', e, hb, hcell⟩ := h (by simp)
  cases e
  refine ⟨fun r hr => ho r (List.mem_cons_of_mem _ hr), _, _, rfl, by simp at hc; omega, fun _ => ⟨b, off + 4, rfl, hb, fun i r hi => ?_⟩⟩
  have := hcell (i + 1) r (by simpa using hi)
  have e : off + (i + 1) * 4 = off + 4 + i * 4 := by omega
  rw [e] at this
  exact this
theorem ntail_one {w : World} {b off n cap : Nat} {x : R} {t : List R} (h : NodSl w (.slice (some ⟨b, off, none⟩) n cap) (x :: t)) (hc1 : cap = 1) : NodSl w (.slice (some ⟨b, off, none⟩) 0 0) t := by
  obtain ⟨ho, A, c, e, hc, h⟩ := h
  cases e
  have : t = [] := List.eq_nil_of_length_eq_zero (by simp at hc; omega)
  subst this
  exact ⟨fun r hr => (by cases hr), _, 0, rfl, Nat.le_refl _, fun h => (by cases h)⟩
/-- A change's value, and a block that holds one. -/
def chgVN (c : Chg) : Value := .agg #[.string c.1, .int .i64 c.2.1.k, .string c.2.1.p, .string c.2.1.b, .int .i64 c.2.1.m, .int .i64 c.2.2.k, .string c.2.2.p, .string c.2.2.b, .int .i64 c.2.2.m]
def CbN (w : World) (B : Nat) (q : ByteArray) (x y : R) : Prop := w.heap[B]? = some (.cells #[.string q, .int .i64 x.k, .string x.p, .string x.b, .int .i64 x.m, .int .i64 y.k, .string y.p, .string y.b, .int .i64 y.m] 133 (0, 0))
set_option maxHeartbeats 400000 in
theorem pathOfN_any (kk mm : Int) (pp bb : ByteArray) (w : World) :
    Calls Tryz.prog 109 #[.agg #[.int .i64 kk, .string pp, .string bb, .int .i64 mm]] w fun e w' => e = .returned (.string pp) ∧ Below w.heap.size w w' := by
  go_enter Tryz.func109, Tryz.ntmps109
  go_wp2
  go_ret
  exact ⟨rfl, (Below.refl _ _).alloc (Nat.le_refl _) _⟩
theorem CbN.lt {w : World} {B : Nat} {q : ByteArray} {x y : R} (h : CbN w B q x y) : B < w.heap.size := (Array.getElem?_eq_some_iff.1 h).1
theorem CbN.below {w w' : World} {K B : Nat} {q : ByteArray} {x y : R} (h : CbN w B q x y) (hb : Below K w w') (hB : B < K) : CbN w' B q x y := (hb.block B hB).trans h
theorem CbN.cells {w : World} {B : Nat} {q : ByteArray} {x y : R} (h : CbN w B q x y) : w.cell? ⟨B, 0, none⟩ = some (.string q) ∧ w.cell? ⟨B, 1, none⟩ = some (.int .i64 x.k) ∧ w.cell? ⟨B, 2, none⟩ = some (.string x.p) ∧ w.cell? ⟨B, 3, none⟩ = some (.string x.b) ∧ w.cell? ⟨B, 4, none⟩ = some (.int .i64 x.m) ∧ w.cell? ⟨B, 5, none⟩ = some (.int .i64 y.k) ∧ w.cell? ⟨B, 6, none⟩ = some (.string y.p) ∧ w.cell? ⟨B, 7, none⟩ = some (.string y.b) ∧ w.cell? ⟨B, 8, none⟩ = some (.int .i64 y.m) := by
  refine ⟨?_, ?_, ?_, ?_, ?_, ?_, ?_, ?_, ?_⟩ <;> simp [World.cell?, show w.heap[B]? = _ from h]
theorem CbN.frozen {w : World} {B : Nat} {q : ByteArray} {x y : R} (h : CbN w B q x y) : w.frozen? ⟨B, 0, none⟩ = false ∧ w.frozen? ⟨B, 1, none⟩ = false ∧ w.frozen? ⟨B, 2, none⟩ = false ∧ w.frozen? ⟨B, 3, none⟩ = false ∧ w.frozen? ⟨B, 4, none⟩ = false ∧ w.frozen? ⟨B, 5, none⟩ = false ∧ w.frozen? ⟨B, 6, none⟩ = false ∧ w.frozen? ⟨B, 7, none⟩ = false ∧ w.frozen? ⟨B, 8, none⟩ = false := by
  refine ⟨?_, ?_, ?_, ?_, ?_, ?_, ?_, ?_, ?_⟩ <;> simp [World.frozen?, show w.heap[B]? = _ from h]
theorem CbN.one {w : World} {B : Nat} {q : ByteArray} {x y : R} (h : CbN w B q x y) (z : R) : CbN ((((w.setCell ⟨B, 1, none⟩ (.int .i64 z.k)).setCell ⟨B, 2, none⟩ (.string z.p)).setCell ⟨B, 3, none⟩ (.string z.b)).setCell ⟨B, 4, none⟩ (.int .i64 z.m)) B q z y := by
  have h0 := setCell_heap (j := 1) (u := .int .i64 z.k) h
  have h1 := setCell_heap (j := 2) (u := .string z.p) h0
  have h2 := setCell_heap (j := 3) (u := .string z.b) h1
  have h3 := setCell_heap (j := 4) (u := .int .i64 z.m) h2
  unfold CbN
  rw [h3]
  rfl
theorem CbN.two {w : World} {B : Nat} {q : ByteArray} {x y : R} (h : CbN w B q x y) (z : R) : CbN ((((w.setCell ⟨B, 5, none⟩ (.int .i64 z.k)).setCell ⟨B, 6, none⟩ (.string z.p)).setCell ⟨B, 7, none⟩ (.string z.b)).setCell ⟨B, 8, none⟩ (.int .i64 z.m)) B q x z := by
  have h0 := setCell_heap (j := 5) (u := .int .i64 z.k) h
  have h1 := setCell_heap (j := 6) (u := .string z.p) h0
  have h2 := setCell_heap (j := 7) (u := .string z.b) h1
  have h3 := setCell_heap (j := 8) (u := .int .i64 z.m) h2
  unfold CbN
  rw [h3]
  rfl

set_option maxHeartbeats 3200000 in
theorem firstPathN_any (u1 u2 : Value) (As Bs : List R) (w : World) (h1 : NodSl w u1 As) (h2 : NodSl w u2 Bs) (hne : 0 < As.length + Bs.length) (hp1 : ∀ r ∈ As, pathB r.p.data.toList = true) (hp2 : ∀ r ∈ Bs, pathB r.p.data.toList = true) :
    Calls Tryz.prog 163 #[u1, u2, .func (.func 109) #[] #[]] w fun e w' => e = .returned (.string (fpQ As Bs)) ∧ Below w.heap.size w w' := by
  obtain ⟨ho1, a1, cap1, rfl, hcap1, h1⟩ := h1
  obtain ⟨ho2, a2, cap2, rfl, hcap2, h2⟩ := h2
  have H1 := Lib.hid h1
  have H2 := Lib.hid h2
  have HPO : Hid (∀ (kk mm : Int) (pp bb : ByteArray) (W : World), Calls Tryz.prog 109 #[.agg #[.int .i64 kk, .string pp, .string bb, .int .i64 mm]] W fun e w' => e = .returned (.string pp) ∧ Below W.heap.size W w') := fun kk mm pp bb W => pathOfN_any kk mm pp bb W
  clear h1 h2
  cases As with
  | nil =>
    cases Bs with
    | nil => simp at hne
    | cons y b =>
      obtain ⟨b2, off2, rfl, hb2, hcell2⟩ := H2.out (by simp)
      have HC2 : Hid (∀ W, Below w.heap.size w W → NodCells W b2 off2 y) := fun W hW => by have := (hcell2 0 y rfl).below hW hb2; simpa using this
      obtain ⟨d0, d1, d2, d3⟩ := HC2.out w (Below.refl _ _)
      have hq2 : (0 : Int) < ((y :: b).length : Int) := by rw [List.length_cons]; omega
      have hqn2 : 0 < (y :: b).length := by simp
      clear hcell2
      have hz2 : (((y :: b).length : Int) == 0) = false := by simp; omega
      clear H1 H2 hp1 hp2 hne
      generalize (y :: b).length = n2 at *
      go_enter Tryz.func163, Tryz.ntmps163
      go_wp2_with fail
      go_quiet (fail)
      have hbq := below_drewN (Below.refl w.heap.size w) nq
      obtain ⟨d0, d1, d2, d3⟩ := HC2.out _ hbq
      generalize w.drewN nq = W at *
      go_wp2_with fail
      refine (HPO.out _ _ _ _ _).mono ?_
      rintro e w1 ⟨rfl, hb1⟩
      go_wp2_with fail
      go_ret
      exact ⟨rfl, hbq.trans (hb1.mono hbq.size)⟩
  | cons x a =>
    cases Bs with
    | nil =>
      obtain ⟨b1, off1, rfl, hb1, hcell1⟩ := H1.out (by simp)
      have HC1 : Hid (∀ W, Below w.heap.size w W → NodCells W b1 off1 x) := fun W hW => by have := (hcell1 0 x rfl).below hW hb1; simpa using this
      obtain ⟨c0, c1, c2, c3⟩ := HC1.out w (Below.refl _ _)
      have hq1 : (0 : Int) < ((x :: a).length : Int) := by rw [List.length_cons]; omega
      have hqn1 : 0 < (x :: a).length := by simp
      clear hcell1
      clear H1 H2 hp1 hp2 hne
      generalize (x :: a).length = n1 at *
      go_enter Tryz.func163, Tryz.ntmps163
      go_wp2_with fail
      go_quiet (fail)
      have hbq := below_drewN (Below.refl w.heap.size w) nq
      obtain ⟨c0, c1, c2, c3⟩ := HC1.out _ hbq
      generalize w.drewN nq = W at *
      go_wp2_with fail
      refine (HPO.out _ _ _ _ _).mono ?_
      rintro e w1 ⟨rfl, hb1⟩
      go_wp2_with fail
      go_ret
      exact ⟨rfl, hbq.trans (hb1.mono hbq.size)⟩
    | cons y b =>
      obtain ⟨b1, off1, rfl, hb1, hcell1⟩ := H1.out (by simp)
      have HC1 : Hid (∀ W, Below w.heap.size w W → NodCells W b1 off1 x) := fun W hW => by have := (hcell1 0 x rfl).below hW hb1; simpa using this
      obtain ⟨c0, c1, c2, c3⟩ := HC1.out w (Below.refl _ _)
      have hq1 : (0 : Int) < ((x :: a).length : Int) := by rw [List.length_cons]; omega
      have hqn1 : 0 < (x :: a).length := by simp
      clear hcell1
      obtain ⟨b2, off2, rfl, hb2, hcell2⟩ := H2.out (by simp)
      have HC2 : Hid (∀ W, Below w.heap.size w W → NodCells W b2 off2 y) := fun W hW => by have := (hcell2 0 y rfl).below hW hb2; simpa using this
      obtain ⟨d0, d1, d2, d3⟩ := HC2.out w (Below.refl _ _)
      have hq2 : (0 : Int) < ((y :: b).length : Int) := by rw [List.length_cons]; omega
      have hqn2 : 0 < (y :: b).length := by simp
      clear hcell2
      have hz2 : (((y :: b).length : Int) == 0) = false := by simp; omega
      have HLE : Hid (∀ W, Calls Tryz.prog 41 #[.string x.p, .string y.p] W fun e w' => e = .returned (.bool (lessR x y)) ∧ Below W.heap.size W w') := fun W => by
        have h1 := hp1 x (by simp)
        have h2 := hp2 y (by simp)
        have := pathLess_impl x.p y.p W (path_max h1) (path_max h2)
        rw [lessB_yes h1 h2] at this
        exact this
      have HFQ : Hid (fpQ (x :: a) (y :: b) = if lessR x y then x.p else y.p) := rfl
      have HKS : Hid (∀ W, Below w.heap.size w W → W.cell? ⟨b1, off1, none⟩ = some (.int .i64 x.k) ∧ W.cell? ⟨b1, off1 + 1, none⟩ = some (.string x.p) ∧ W.cell? ⟨b1, off1 + 2, none⟩ = some (.string x.b) ∧ W.cell? ⟨b1, off1 + 3, none⟩ = some (.int .i64 x.m) ∧ W.cell? ⟨b2, off2, none⟩ = some (.int .i64 y.k) ∧ W.cell? ⟨b2, off2 + 1, none⟩ = some (.string y.p) ∧ W.cell? ⟨b2, off2 + 2, none⟩ = some (.string y.b) ∧ W.cell? ⟨b2, off2 + 3, none⟩ = some (.int .i64 y.m)) := fun W hW => by
        obtain ⟨c0, c1, c2, c3⟩ := HC1.out W hW
        obtain ⟨d0, d1, d2, d3⟩ := HC2.out W hW
        exact ⟨c0, c1, c2, c3, d0, d1, d2, d3⟩
      have hbd : Below w.heap.size w w.drew := (Below.refl _ _).drew
      clear H1 H2 hp1 hp2 hne
      generalize (x :: a).length = n1 at *
      generalize (y :: b).length = n2 at *
      rcases Bool.eq_false_or_eq_true (lessR x y) with hls | hls
      all_goals
        rw [hls] at HLE HFQ
        clear hls
        go_enter Tryz.func163, Tryz.ntmps163
        go_wp2_with fail
        go_region_held3 (fun W => W.cell? ⟨b1, off1, none⟩ = some (.int .i64 x.k) ∧ W.cell? ⟨b1, off1 + 1, none⟩ = some (.string x.p) ∧ W.cell? ⟨b1, off1 + 2, none⟩ = some (.string x.b) ∧ W.cell? ⟨b1, off1 + 3, none⟩ = some (.int .i64 x.m) ∧ W.cell? ⟨b2, off2, none⟩ = some (.int .i64 y.k) ∧ W.cell? ⟨b2, off2 + 1, none⟩ = some (.string y.p) ∧ W.cell? ⟨b2, off2 + 2, none⟩ = some (.string y.b) ∧ W.cell? ⟨b2, off2 + 3, none⟩ = some (.int .i64 y.m)) (first | exact HKS.out _ c5 | exact HKS.out _ c4 | exact HKS.out _ c3 | exact HKS.out _ hbd | go_keep) (first
          | (go_at_call 109; have z0 := c3; refine (HPO.out _ _ _ _ _).mono ?_; rintro e w4 ⟨rfl, hb4⟩; have c4 := z0.trans (hb4.mono z0.size))
          | (go_at_call 109; refine (HPO.out _ _ _ _ _).mono ?_; rintro e w3 ⟨rfl, hb3⟩; have c3 := hbd.trans (hb3.mono hbd.size))
          | (go_at_call 41; refine (HLE.out _).mono ?_; rintro e w5 ⟨rfl, hb5⟩; have c5 := c4.trans (hb5.mono c4.size)))
        clear c0 c1 c2 c3 d0 d1 d2 d3
        obtain ⟨c0, c1, c2, c3⟩ := HC1.out _ c5
        obtain ⟨d0, d1, d2, d3⟩ := HC2.out _ c5
        go_wp2_with fail
        refine (HPO.out _ _ _ _ _).mono ?_
        rintro e w6 ⟨rfl, hb6⟩
        go_wp2_with fail
        go_ret
        exact ⟨by rw [HFQ.out]; rfl, c5.trans (hb6.mono c5.size)⟩

theorem changesN_any (A1 A2 : Option Addr) (n1 n2 c1 c2 : Nat) (w : World) :
    Calls Tryz.prog 108 #[.slice A1 n1 c1, .slice A2 n2 c2, .func (.func 109) #[] #[]] w fun e w' => e = .returned (.func (.func 162) #[] #[.pointer (some ⟨w.heap.size, 0, none⟩), .pointer (some ⟨w.heap.size + 1, 0, none⟩), .pointer (some ⟨w.heap.size + 2, 0, none⟩)]) ∧ w' = ((w.alloc (.cells #[.slice A1 n1 c1] 30)).alloc (.cells #[.slice A2 n2 c2] 30)).alloc (.cells #[.func (.func 109) #[] #[]] 131) := by
  go_enter Tryz.func108, Tryz.ntmps108
  go_wp2_with fail
  go_ret
  exact ⟨rfl, rfl⟩
end Go.Proofs.YtciflchaepchiabGreatDoor.Recs

/- A tree as a map of paths: what the map in memory holds, and what a store, a deletion and a sweep make of it. -/
namespace Go.Proofs.YtciflchaepchiabGreatDoor.Recs
set_option maxRecDepth 100000
open Go.RowKit Paths Go.ChangeMaps

theorem bytes_eq {a b : ByteArray} (h : a.data.toList = b.data.toList) : a = b := by
  cases a; cases b
  simp only [Array.toList_inj] at h
  rw [h]

/-- How a node reads as an element of a map. -/
def nodD (r : R) : DataW Unit := .agg [.lit (.int .i64 r.k), .lit (.string r.p.data.toList), .lit (.string r.b.data.toList), .lit (.int .i64 r.m)]
def readN : Value → Option (DataW Unit × List MemPlace)
  | .agg cs => match cs.toList with
    | [.int .i64 k, .string p, .string b, .int .i64 m] => some (nodD ⟨k, m, p, b, false⟩, [])
    | _ => none
  | _ => none
theorem readN_nod (r : R) : readN r.nod = some (nodD r, []) := rfl
theorem readN_inv {v : Value} {y : DataW Unit × List MemPlace} (h : readN v = some y) : ∃ r : R, r.o = false ∧ v = r.nod ∧ y = (nodD r, []) := by
  unfold readN at h
  split at h
  · rename_i cs
    split at h
    · rename_i k p b m e
      cases h
      refine ⟨⟨k, m, p, b, false⟩, rfl, ?_, rfl⟩
      unfold R.nod
      rw [← Array.toArray_toList (xs := cs), e]
    · cases h
  · cases h
theorem nodD_inj {r s : R} (hr : r.o = false) (hs : s.o = false) (h : nodD r = nodD s) : r = s := by
  obtain ⟨k, m, p, b, o⟩ := r
  obtain ⟨k', m', p', b', o'⟩ := s
  simp only at hr hs
  simp only [nodD, DataW.agg.injEq, List.cons.injEq, DataW.lit.injEq, Lit.int.injEq, Lit.string.injEq, true_and, and_true] at h
  obtain ⟨h1, h2, h3, h4⟩ := h
  rw [h1, h4, bytes_eq h2, bytes_eq h3, hr, hs]

def kd (r : R) : Lit × DataW Unit := (.string r.p.data.toList, nodD r)
/-- Block b is a map whose elements are the nodes t, each under its path. -/
def MapT (w : World) (b n : Nat) (t : List R) : Prop :=
  (∃ es, w.ownsMap Tryz.prog 9 readN b n (.map es) ∧ ∀ p, p ∈ es ↔ ∃ x ∈ t, p = kd x) ∧ ∀ x ∈ t, x.o = false
theorem keyed : Maps.Keyed Tryz.prog 9 := Maps.string_keyed Tryz.underlying9
theorem MapT.made (w : World) : MapT (w.alloc (.map #[] 0)) w.heap.size 0 [] :=
  ⟨⟨[], World.ownsMap_made w _ _ _, fun p => by simp⟩, fun x hx => by cases hx⟩
theorem MapT.congr {w : World} {b n : Nat} {t t' : List R} (h : MapT w b n t) (he : ∀ x, x ∈ t' ↔ x ∈ t) : MapT w b n t' := by
  obtain ⟨⟨es, h1, h2⟩, h3⟩ := h
  exact ⟨⟨es, h1, fun p => (h2 p).trans ⟨fun ⟨x, hx, e⟩ => ⟨x, (he x).2 hx, e⟩, fun ⟨x, hx, e⟩ => ⟨x, (he x).1 hx, e⟩⟩⟩, fun x hx => h3 x ((he x).1 hx)⟩
theorem MapT.kept {w w' : World} {b n : Nat} {t : List R} {row : Option Nat} (h : MapT w b n t) (hg : w.grownBy w' row) (hne : some b ≠ row) : MapT w' b n t := by
  obtain ⟨⟨es, h1, h2⟩, h3⟩ := h
  exact ⟨⟨es, h1.kept hg hne, h2⟩, h3⟩
theorem MapT.mono {w : World} {b n n' : Nat} {t : List R} (h : MapT w b n t) (hn : n ≤ n') : MapT w b n' t := by
  obtain ⟨⟨es, h1, h2⟩, h3⟩ := h
  exact ⟨⟨es, h1.mono hn, h2⟩, h3⟩
theorem MapT.lt {w : World} {b n : Nat} {t : List R} (h : MapT w b n t) : b < w.heap.size := by
  obtain ⟨⟨es, h1, h2⟩, h3⟩ := h
  exact h1.lt
theorem below_grown {w w' : World} (h : Below w.heap.size w w') : w.grownBy w' none := ⟨h.os, h.tape, h.output, h.size, fun k hk _ => h.block k hk⟩
theorem MapT.below {w w' : World} {b n : Nat} {t : List R} (h : MapT w b n t) (hb : Below w.heap.size w w') : MapT w' b n t := h.kept (below_grown hb) (by simp)

theorem same_str {l m : List UInt8} : (Lit.string l).sameKey (.string m) = true ↔ l = m :=
  ⟨fun h => by have := WideAt.sameKey_eq h; cases this; rfl, fun h => by rw [h]; exact WideAt.sameKey_self trivial⟩
theorem kd_key {x : R} {q : ByteArray} : (kd x).1.sameKey (.string q.data.toList) = decide (x.p = q) := by
  rw [Bool.eq_iff_iff, kd, same_str, decide_eq_true_iff]
  exact ⟨bytes_eq, fun e => by rw [e]⟩
theorem MapT.put {w' : World} {b n : Nat} {es : List (Lit × DataW Unit)} {t : List R} (r : R) (hes : ∀ p, p ∈ es ↔ ∃ x ∈ t, p = kd x) (ht : ∀ x ∈ t, x.o = false) (hr : r.o = false)
    (ho : w'.ownsMap Tryz.prog 9 readN b n ((DataW.map es).put (.string r.p.data.toList) (nodD r))) : MapT w' b n (r :: t.filter fun x => decide (x.p ≠ r.p)) := by
  refine ⟨⟨_, ho, fun p => ?_⟩, fun x hx => ?_⟩
  · show p ∈ putKey _ _ es ↔ _
    unfold putKey
    rw [mem_insert_iff, List.mem_filter, hes]
    constructor
    · rintro (rfl | ⟨⟨x, hx, rfl⟩, hn⟩)
      · exact ⟨r, List.mem_cons_self, rfl⟩
      · refine ⟨x, List.mem_cons_of_mem _ (List.mem_filter.2 ⟨hx, ?_⟩), rfl⟩
        rw [notKey, kd_key] at hn
        simpa using hn
    · rintro ⟨x, hx, rfl⟩
      rcases List.mem_cons.1 hx with rfl | hx
      · exact .inl rfl
      · obtain ⟨h1, h2⟩ := List.mem_filter.1 hx
        refine .inr ⟨⟨x, h1, rfl⟩, ?_⟩
        rw [notKey, kd_key]
        simpa using h2
  · rcases List.mem_cons.1 hx with rfl | hx
    · exact hr
    · exact ht x (List.mem_filter.1 hx).1
theorem MapT.del {w' : World} {b n : Nat} {es : List (Lit × DataW Unit)} {t : List R} {q : ByteArray} (hes : ∀ p, p ∈ es ↔ ∃ x ∈ t, p = kd x) (ht : ∀ x ∈ t, x.o = false)
    (ho : w'.ownsMap Tryz.prog 9 readN b n ((DataW.map es).del (.string q.data.toList))) : MapT w' b n (t.filter fun x => decide (x.p ≠ q)) := by
  refine ⟨⟨_, ho, fun p => ?_⟩, fun x hx => ht x (List.mem_filter.1 hx).1⟩
  show p ∈ delKey _ es ↔ _
  unfold delKey
  rw [List.mem_filter, hes]
  constructor
  · rintro ⟨⟨x, hx, rfl⟩, hn⟩
    refine ⟨x, List.mem_filter.2 ⟨hx, ?_⟩, rfl⟩
    rw [notKey, kd_key] at hn
    simpa using hn
  · rintro ⟨x, hx, rfl⟩
    obtain ⟨h1, h2⟩ := List.mem_filter.1 hx
    refine ⟨⟨x, h1, rfl⟩, ?_⟩
    rw [notKey, kd_key]
    simpa using h2
/-- What a sweep asks of an entry. -/
def belowK (q : ByteArray) (kl : Lit) (_ : DataW Unit) : Bool := match kl with
  | .string l => isBelowB ⟨l.toArray⟩ q
  | _ => false
theorem belowK_kd (q : ByteArray) (x : R) : belowK q (kd x).1 (kd x).2 = isBelowB x.p q := rfl
theorem MapT.sweep {w' : World} {b n : Nat} {es : List (Lit × DataW Unit)} {t : List R} {q : ByteArray} (hes : ∀ p, p ∈ es ↔ ∃ x ∈ t, p = kd x) (ht : ∀ x ∈ t, x.o = false)
    (ho : w'.ownsMap Tryz.prog 9 readN b n (Lib.deleteFuncD (belowK q) (.map es))) : MapT w' b n (t.filter fun x => !isBelowB x.p q) := by
  refine ⟨⟨_, ho, fun p => ?_⟩, fun x hx => ht x (List.mem_filter.1 hx).1⟩
  rw [List.mem_filter, hes]
  constructor
  · rintro ⟨⟨x, hx, rfl⟩, hn⟩
    rw [belowK_kd] at hn
    exact ⟨x, List.mem_filter.2 ⟨hx, hn⟩, rfl⟩
  · rintro ⟨x, hx, rfl⟩
    obtain ⟨h1, h2⟩ := List.mem_filter.1 hx
    exact ⟨⟨x, h1, rfl⟩, by rw [belowK_kd]; exact h2⟩
end Go.Proofs.YtciflchaepchiabGreatDoor.Recs

/- The program's map of paths: made of a tree, swept below a path, a layer applied to it. -/
namespace Go.Proofs.YtciflchaepchiabGreatDoor.Recs
set_option maxRecDepth 100000
open Go.RowKit Paths

theorem nodeOfRecord_any (r : R) (w : World) :
    Calls Tryz.prog 184 #[r.val] w fun e w' => e = .returned r.nod ∧ Below w.heap.size w w' := by
  unfold R.nod R.val
  go_enter Tryz.func184, Tryz.ntmps184
  go_wp2_with fail
  refine bodyPost_ret (v := .agg #[.int .i64 r.k, .string r.p, .string r.b, .int .i64 r.m]) (by simp [results, Tryz.results184, go_sem]) rfl ⟨rfl, ?_⟩
  exact ((Below.refl _ _).alloc (Nat.le_refl _) _).alloc (by simp) _

theorem take_put {l : List R} (hs : Sorted l) {k : Nat} (hk : k < l.length) (x : R) : x ∈ l.take (k + 1) ↔ x ∈ l[k] :: (l.take k).filter (fun x => decide (x.p ≠ l[k].p)) := by
  rw [List.take_succ_eq_append_getElem hk, List.mem_append, List.mem_singleton, List.mem_cons, List.mem_filter]
  constructor
  · rintro (h | h)
    · obtain ⟨i, hi, rfl⟩ := List.mem_take_iff_getElem.1 h
      refine .inr ⟨h, ?_⟩
      simpa using less_ne (sorted_get hs hk (by omega))
    · exact .inl h
  · rintro (h | ⟨h, _⟩)
    · exact .inr h
    · exact .inl h

set_option maxHeartbeats 1000000 in
theorem mapOfTree_any (v : Value) (l : List R) (w : World) (h : NodSl w v l) (hl : l.length ≤ 1048576) (hs : Sorted l) (hp : ∀ r ∈ l, r.p.size ≤ maxLen) :
    Calls Tryz.prog 149 #[v] w fun e w' => e = .returned (.map (some w.heap.size)) ∧ Below w.heap.size w w' ∧ MapT w' w.heap.size l.length l := by
  obtain ⟨ho, sA, cap, rfl, hcap, h⟩ := h
  have H := Lib.hid h
  have HO := Lib.hid ho
  have HP := Lib.hid hp
  have HS := Lib.hid hs
  clear h ho hp hs
  have hmm := @run_makeMap Tryz.prog
  have hb0 : Below w.heap.size w (w.alloc (.map #[] 0)) := (Below.refl _ _).alloc (Nat.le_refl _) _
  go_enter Tryz.func149, Tryz.ntmps149
  go_wp2
  go_loopw [9] (fun i wr => ∃ k : Nat, k ≤ l.length ∧ i = .int .i64 k ∧ Below w.heap.size w wr ∧ MapT wr w.heap.size k (l.take k)) (fun i _ => l.length - (intOf i).toNat)
  case atStart => exact ⟨0, by omega, rfl, hb0, MapT.made w⟩
  case round =>
    obtain ⟨k, hk, rfl, hbw, ⟨es, hown, hes⟩, hMo⟩ := hrel
    by_cases hlt : k < l.length
    · obtain ⟨b, off, rfl, hb, hcell⟩ := H.out (by omega)
      obtain ⟨c0, c1, c2, c3⟩ := (hcell k l[k] (by simp [hlt])).below hbw hb
      clear hcell
      have HES := Lib.hid hes
      have HMO := Lib.hid hMo
      have hi1 : (k : Int) < (l.length : Int) := by omega
      have hi0 : (0 : Int) ≤ (k : Int) := by omega
      have hkey := WideMaps.keyOf_string_mk (P := Tryz.prog) Tryz.underlying9 (HP.out _ (List.getElem_mem hlt))
      have hval := readN_nod l[k]
      have hle := hbw.size
      unfold R.nod at hval
      clear hes hMo
      go_wp2_with (first
        | (at_mapUpdate; refine wpList_mapUpdate_own _ rfl _ _ _ 169 rfl 9 84 keyed Tryz.underlying169 readN w.heap.size k (.map es) rfl (hown.alloc _) (by unfold maxLen; omega) _ _ _ rfl rfl hkey _ [] hval ?_; intro w1 hown1 hgrow1)
        | go_in)
      go_roundw
      case rel => exact ⟨k + 1, by omega, by go_num, (hbw.alloc hbw.size _).grown hgrow1 (by simp; omega) (fun j hj => by cases hj; exact Nat.le_refl _), (MapT.put l[k] HES.out HMO.out (HO.out _ (List.getElem_mem hlt)) hown1).congr (take_put HS.out hlt)⟩
      case measure => simp [intOf]; omega
    · obtain rfl : k = l.length := by omega
      rw [List.take_of_length_le (Nat.le_refl _)] at hes hMo
      have HM : Hid (MapT wr w.heap.size l.length l) := ⟨⟨es, hown, hes⟩, hMo⟩
      clear hown hes hMo
      go_wp2
      go_ret
      exact ⟨rfl, hbw, HM.out⟩

set_option maxHeartbeats 2000000 in
theorem removeBelow_any (b n : Nat) (t : List R) (q : ByteArray) (w : World) (hM : MapT w b n t) (hq : q.size ≤ maxLen) :
    Calls Tryz.prog 183 #[.map (some b), .string q] w fun e w' => e = .returned (.tuple #[]) ∧ w.grownBy w' (some b) ∧ MapT w' b n (t.filter fun x => !isBelowB x.p q) := by
  obtain ⟨⟨es0, hown, hes⟩, hMo⟩ := hM
  obtain ⟨es', he, hap, hkeys⟩ := hown.entries keyed
  cases he
  have HES := Lib.hid hes
  have HMO := Lib.hid hMo
  have HAP := Lib.hid hap
  have HKS := Lib.hid hkeys
  clear hes hMo hap hkeys
  go_enter Tryz.func183, Tryz.ntmps183
  go_wp2_with (first
    | (at_range; refine wpList_range_own _ rfl _ 169 rfl 9 84 keyed Tryz.underlying169 readN b n _ rfl hown ?_; intro w0 hrg0 hg0 hs0)
    | go_in)
  go_frame
  go_loopw [] (fun wr => ∃ (left : Lit → Bool) (cnt : Nat), wr.ranges Tryz.prog 9 readN b w.heap.size n (Maps.Fk (belowK q) es0 left) left cnt ∧ w.grownBy wr (some b))
    (fun wr => wr.rangeLeft b w.heap.size)
  case atStart => exact ⟨_, _, by rw [Maps.Fk_start HKS.out]; exact hrg0, hg0.but _⟩
  case round =>
    obtain ⟨left, cnt, hrg, hgw⟩ := hrel
    go_wp2_with (first
      | (at_next; refine wpList_next_ranges _ rfl _ rfl 9 keyed readN Value.string R.nod (fun key kl hk => (by obtain ⟨s, rfl, _⟩ := WideMaps.string_of_keyOf Tryz.underlying9 hk; exact ⟨s, rfl⟩)) (fun v y hv => (by obtain ⟨r, _, rfl, _⟩ := readN_inv hv; exact ⟨r, rfl⟩)) b w.heap.size n _ _ _ rfl hrg ?_ ?_)
      | go_in)
    · intro _ hl0
      go_wp2
      go_end0
      exact ⟨rfl, hgw, MapT.sweep HES.out HMO.out (by rw [← Maps.Fk_end hl0]; exact hrg.owns)⟩
    · intro s c kl yd yp w1 cnt1 hkey hlx hv hat hrg1 hlt hg1 hs1 hen
      obtain ⟨s', es, rfl, hss⟩ := WideMaps.string_of_keyOf Tryz.underlying9 hkey
      cases es
      have hgw1 := hgw.andThen hg1 (fun j hj => by cases hj; exact Or.inl (Nat.le_refl _))
      have hc := isBelow_impl s q w1 hss hq
      have HAT := Lib.hid hat
      have HLX := Lib.hid hlx
      clear hat hlx
      unfold R.nod at hen
      cases hp : isBelowB s q <;> rw [hp] at hc
      · have hp' : Hid (belowK q (.string s.data.toList) yd = false) := hp
        clear hp
        go_wp2_with fail
        refine hc.mono ?_
        rintro e w2 ⟨rfl, hb2⟩
        have hg2 := below_grown hb2
        have hrg2 := hrg1.kept hg2 (by simp) (by simp)
        go_wp2_with fail
        go_roundw
        case rel => exact ⟨_, cnt1, by rw [← Maps.Fk_stays HAP.out (keyed.key hkey) HLX.out hp'.out HAT.out]; exact hrg2, hgw1.andThen hg2 (fun j hj => by cases hj)⟩
        case measure => rw [hrg2.left_eq, hrg.left_eq]; exact hlt
      · have hp' : Hid (belowK q (.string s.data.toList) yd = true) := hp
        clear hp
        go_wp2_with fail
        refine hc.mono ?_
        rintro e w2 ⟨rfl, hb2⟩
        have hg2 := below_grown hb2
        have hrg2 := hrg1.kept hg2 (by simp) (by simp)
        go_wp2_with (first
          | (at_delete; refine wpList_delete_ranges _ rfl _ _ 169 9 rfl 84 keyed Tryz.underlying169 readN b w.heap.size n _ _ _ rfl hrg2 _ _ rfl hkey ?_; intro w3 cnt3 hrg3 hle hturn; go_frame)
          | go_in)
        rw [Maps.strike_twice] at hrg3
        go_roundw
        case rel => exact ⟨_, cnt3, by rw [← Maps.Fk_struck HAP.out (keyed.key hkey) HLX.out hp'.out HAT.out]; exact hrg3, (hgw1.andThen hg2 (fun j hj => by cases hj)).andThen hturn.grown (fun j hj => by cases hj; exact Or.inr rfl)⟩
        case measure => rw [hrg3.left_eq, hrg.left_eq]; omega
end Go.Proofs.YtciflchaepchiabGreatDoor.Recs
