/- Parts of several texts of mine in one file (each begins with its own remark). -/
import Derived.Test.YtcnjiphoahoojaaDoorCA1
import Derived.Test.YtcnjiphoahoojaaDoorCA10
import Derived.Test.YtcnjiphoahoojaaDoorCA11
import Derived.Test.YtcnjiphoahoojaaDoorCA12
import Derived.Test.YtcnjiphoahoojaaDoorCA13
import Derived.Test.YtcnjiphoahoojaaDoorCA2
import Derived.Test.YtcnjiphoahoojaaDoorCA3
import Derived.Test.YtcnjiphoahoojaaDoorCA4
import Derived.Test.YtcnjiphoahoojaaDoorCA6
import Derived.Test.YtcnjiphoahoojaaDoorCA7
import Derived.Test.YtcnjiphoahoojaaDoorCA8
import Derived.Test.YtcnjiphoahoojaaDoorChecked
import Derived.Test.YtcnjiphoahoojaaDoorShelf
import Derived.Test.YtcnjiphoahoojaaDoorProg
import Derived.Test.YtcnjiphoahoojaaDoorRows
import Derived.Deep.RegionHeld3
import Derived.BigRegion
import Derived.StillTailTactics
import Derived.Deep.Slices
import Derived.OpenShut
import Derived.ShutString
import Derived.ChangeArms
import Derived.WideShapes
import Derived.Lib.LaidTab
import Derived.BigQuiet
import Derived.Deep.QuietTactic
import Derived.Deep.Draws
import Derived.Deep.LoopGhost
import Derived.WalkKit
import Derived.WalkSpells
import Derived.WalkSmall
import Derived.Lib.OthersKept
import Derived.Lib.Hide
import Derived.Lib.Strings
import Derived.Lib.Join
import Derived.WalkLawsBesides
import Derived.Laws.BytesArg
import Derived.Laws.OwnMore
import Derived.Stop.LaidErr
import Derived.LaidEql
import Derived.Stop.Asserts
import Derived.Below
import Derived.Stop.LaidTwo
import Derived.RangeFuncNested
import Derived.RangeFuncBound
import Derived.RangeFuncCalls
import Derived.RangeFuncLeaves
import Derived.RangeFuncBox
import Derived.Shelf.Abstract
import Derived.Shelf.RegionOpen
import Derived.OwnWalkIn
import Derived.TacticsInMore
import Derived.LoopNIn
import Derived.LoopIn
import Derived.ChangeVars
import Derived.Deep.DeepHandedRow
import Derived.Deep.RegionWith
import Derived.OneCell
import Derived.Lib.SliceRun
import Derived.Lib.Overlaps
import Derived.Lib.AppendZerosOnto
import Derived.Laws.NewBlocks
import Derived.Laws.IdiomCopy
import Derived.Deep.RegionLaw
/- The changes between two lists of nodes in the order of paths, of the program: the first path, the iterator. -/
namespace Go.Proofs.YtcnjiphoahoojaaDoor.Recs
set_option maxRecDepth 100000
open Go.RowKit Paths Errs Go.Shelf
attribute [local go_sem] Oper.semAt_some

theorem abide_below {β : Type} {K : Nat} {J : β → World → Prop} (hJ : AbidesFrom K J) {s : β} {W W' : World} (h : J s W) (hb : Below W.heap.size W W') : J s W' :=
  hJ s W W' none h ⟨hb.os, hb.tape, hb.output, hb.size, fun k hk _ => hb.block k hk⟩ (fun r e => by cases e)
/-- The path that comes first in two lists. -/
def fpQ : List R → List R → ByteArray
  | x :: _, [] => x.p
  | x :: _, y :: _ => if lessR x y then x.p else y.p
  | [], y :: _ => y.p
  | [], [] => ByteArray.empty
/-- A change as the iterator hands it out. -/
structure ItC (A B : List R) where
  c : Chg
  mem : c ∈ chgs A B
theorem nsl_of {w : World} {a : Option Addr} {n cap : Nat} {l : List R} (ho : ∀ r ∈ l, r.o = false) (hn : l.length = n) (hc : n ≤ cap) (h : 0 < n → ∃ b off, a = some ⟨b, off, none⟩ ∧ b < w.heap.size ∧ ∀ i r, l[i]? = some r → NodCells w b (off + i * 4) r) : NodSl w (.slice a n cap) l := by
  subst hn
  exact ⟨ho, a, cap, rfl, hc, h⟩
theorem ntail_more {w : World} {b off n cap : Nat} {x : R} {t : List R} (h : NodSl w (.slice (some ⟨b, off, none⟩) n cap) (x :: t)) : NodSl w (.slice (some ⟨b, off + 4, none⟩) (n - 1) (cap - 1)) t := by
  obtain ⟨ho, A, c, e, hc, h⟩ := h
  cases e
  obtain ⟨b', off', e, hb, hcell⟩ := h (by simp)
  cases e
  refine ⟨fun r hr => ho r (List.mem_cons_of_mem _ hr), _, _, rfl, by simp at hc; omega, fun _ => ⟨b, off + 4, rfl, hb, fun i r hi => ?_⟩⟩
  have := hcell (i + 1) r (by simpa using hi)
  have e : off + (i + 1) * 4 = off + 4 + i * 4 := by omega
  rw [e] at this
  exact this
theorem ntail_one {w : World} {b off n cap : Nat} {x : R} {t : List R} (h : NodSl w (.slice (some ⟨b, off, none⟩) n cap) (x :: t)) (hc1 : cap = 1) : NodSl w (.slice (some ⟨b, off, none⟩) 0 0) t := by
  obtain ⟨ho, A, c, e, hc, h⟩ := h
  cases e
  have : t = [] := List.eq_nil_of_length_eq_zero (by simp at hc; omega)
  subst this
  exact ⟨fun r hr => (by cases hr), _, 0, rfl, Nat.le_refl _, fun h => (by cases h)⟩
/-- A change's value, and a block that holds one. -/
def chgVN (c : Chg) : Value := .agg #[.string c.1, .int .i64 c.2.1.k, .string c.2.1.p, .string c.2.1.b, .int .i64 c.2.1.m, .int .i64 c.2.2.k, .string c.2.2.p, .string c.2.2.b, .int .i64 c.2.2.m]
def CbN (w : World) (B : Nat) (q : ByteArray) (x y : R) : Prop := w.heap[B]? = some (.cells #[.string q, .int .i64 x.k, .string x.p, .string x.b, .int .i64 x.m, .int .i64 y.k, .string y.p, .string y.b, .int .i64 y.m] 84 (0, 0))
set_option maxHeartbeats 400000 in
theorem pathOfN_any (kk mm : Int) (pp bb : ByteArray) (w : World) :
    Calls Tryd.prog 44 #[.agg #[.int .i64 kk, .string pp, .string bb, .int .i64 mm]] w fun e w' => e = .returned (.string pp) ∧ Below w.heap.size w w' := by
  go_enter Tryd.func44, Tryd.ntmps44
  go_wp2
  go_ret
  exact ⟨rfl, (Below.refl _ _).alloc (Nat.le_refl _) _⟩
theorem CbN.lt {w : World} {B : Nat} {q : ByteArray} {x y : R} (h : CbN w B q x y) : B < w.heap.size := (Array.getElem?_eq_some_iff.1 h).1
theorem CbN.below {w w' : World} {K B : Nat} {q : ByteArray} {x y : R} (h : CbN w B q x y) (hb : Below K w w') (hB : B < K) : CbN w' B q x y := (hb.block B hB).trans h
theorem CbN.cells {w : World} {B : Nat} {q : ByteArray} {x y : R} (h : CbN w B q x y) : w.cell? ⟨B, 0, none⟩ = some (.string q) ∧ w.cell? ⟨B, 1, none⟩ = some (.int .i64 x.k) ∧ w.cell? ⟨B, 2, none⟩ = some (.string x.p) ∧ w.cell? ⟨B, 3, none⟩ = some (.string x.b) ∧ w.cell? ⟨B, 4, none⟩ = some (.int .i64 x.m) ∧ w.cell? ⟨B, 5, none⟩ = some (.int .i64 y.k) ∧ w.cell? ⟨B, 6, none⟩ = some (.string y.p) ∧ w.cell? ⟨B, 7, none⟩ = some (.string y.b) ∧ w.cell? ⟨B, 8, none⟩ = some (.int .i64 y.m) := by
  refine ⟨?_, ?_, ?_, ?_, ?_, ?_, ?_, ?_, ?_⟩ <;> simp [World.cell?, show w.heap[B]? = _ from h]
theorem CbN.frozen {w : World} {B : Nat} {q : ByteArray} {x y : R} (h : CbN w B q x y) : w.frozen? ⟨B, 0, none⟩ = false ∧ w.frozen? ⟨B, 1, none⟩ = false ∧ w.frozen? ⟨B, 2, none⟩ = false ∧ w.frozen? ⟨B, 3, none⟩ = false ∧ w.frozen? ⟨B, 4, none⟩ = false ∧ w.frozen? ⟨B, 5, none⟩ = false ∧ w.frozen? ⟨B, 6, none⟩ = false ∧ w.frozen? ⟨B, 7, none⟩ = false ∧ w.frozen? ⟨B, 8, none⟩ = false := by
  refine ⟨?_, ?_, ?_, ?_, ?_, ?_, ?_, ?_, ?_⟩ <;> simp [World.frozen?, show w.heap[B]? = _ from h]
theorem CbN.one {w : World} {B : Nat} {q : ByteArray} {x y : R} (h : CbN w B q x y) (z : R) : CbN ((((w.setCell ⟨B, 1, none⟩ (.int .i64 z.k)).setCell ⟨B, 2, none⟩ (.string z.p)).setCell ⟨B, 3, none⟩ (.string z.b)).setCell ⟨B, 4, none⟩ (.int .i64 z.m)) B q z y := by
  have h0 := setCell_heap (j := 1) (u := .int .i64 z.k) h
  have h1 := setCell_heap (j := 2) (u := .string z.p) h0
  have h2 := setCell_heap (j := 3) (u := .string z.b) h1
  have h3 := setCell_heap (j := 4) (u := .int .i64 z.m) h2
  unfold CbN
  rw [h3]
  rfl
theorem CbN.two {w : World} {B : Nat} {q : ByteArray} {x y : R} (h : CbN w B q x y) (z : R) : CbN ((((w.setCell ⟨B, 5, none⟩ (.int .i64 z.k)).setCell ⟨B, 6, none⟩ (.string z.p)).setCell ⟨B, 7, none⟩ (.string z.b)).setCell ⟨B, 8, none⟩ (.int .i64 z.m)) B q x z := by
  have h0 := setCell_heap (j := 5) (u := .int .i64 z.k) h
  have h1 := setCell_heap (j := 6) (u := .string z.p) h0
  have h2 := setCell_heap (j := 7) (u := .string z.b) h1
  have h3 := setCell_heap (j := 8) (u := .int .i64 z.m) h2
  unfold CbN
  rw [h3]
  rfl

set_option maxHeartbeats 3200000 in
theorem firstPathN_any (u1 u2 : Value) (As Bs : List R) (w : World) (h1 : NodSl w u1 As) (h2 : NodSl w u2 Bs) (hne : 0 < As.length + Bs.length) (hp1 : ∀ r ∈ As, pathB r.p.data.toList = true) (hp2 : ∀ r ∈ Bs, pathB r.p.data.toList = true) :
    Calls Tryd.prog 59 #[u1, u2, .func (.func 44) #[] #[]] w fun e w' => e = .returned (.string (fpQ As Bs)) ∧ Below w.heap.size w w' := by
  obtain ⟨ho1, a1, cap1, rfl, hcap1, h1⟩ := h1
  obtain ⟨ho2, a2, cap2, rfl, hcap2, h2⟩ := h2
  have H1 := Lib.hid h1
  have H2 := Lib.hid h2
  have HPO : Hid (∀ (kk mm : Int) (pp bb : ByteArray) (W : World), Calls Tryd.prog 44 #[.agg #[.int .i64 kk, .string pp, .string bb, .int .i64 mm]] W fun e w' => e = .returned (.string pp) ∧ Below W.heap.size W w') := fun kk mm pp bb W => pathOfN_any kk mm pp bb W
  clear h1 h2
  cases As with
  | nil =>
    cases Bs with
    | nil => simp at hne
    | cons y b =>
      obtain ⟨b2, off2, rfl, hb2, hcell2⟩ := H2.out (by simp)
      have HC2 : Hid (∀ W, Below w.heap.size w W → NodCells W b2 off2 y) := fun W hW => by have := (hcell2 0 y rfl).below hW hb2; simpa using this
      obtain ⟨d0, d1, d2, d3⟩ := HC2.out w (Below.refl _ _)
      have hq2 : (0 : Int) < ((y :: b).length : Int) := by rw [List.length_cons]; omega
      have hqn2 : 0 < (y :: b).length := by simp
      clear hcell2
      have hz2 : (((y :: b).length : Int) == 0) = false := by simp; omega
      clear H1 H2 hp1 hp2 hne
      generalize (y :: b).length = n2 at *
      go_enter Tryd.func59, Tryd.ntmps59
      go_wp2_with fail
      go_quiet (fail)
      have hbq := below_drewN (Below.refl w.heap.size w) nq
      obtain ⟨d0, d1, d2, d3⟩ := HC2.out _ hbq
      generalize w.drewN nq = W at *
      go_wp2_with fail
      refine (HPO.out _ _ _ _ _).mono ?_
      rintro e w1 ⟨rfl, hb1⟩
      go_wp2_with fail
      go_ret
      exact ⟨rfl, hbq.trans (hb1.mono hbq.size)⟩
  | cons x a =>
    cases Bs with
    | nil =>
      obtain ⟨b1, off1, rfl, hb1, hcell1⟩ := H1.out (by simp)
      have HC1 : Hid (∀ W, Below w.heap.size w W → NodCells W b1 off1 x) := fun W hW => by have := (hcell1 0 x rfl).below hW hb1; simpa using this
      obtain ⟨c0, c1, c2, c3⟩ := HC1.out w (Below.refl _ _)
      have hq1 : (0 : Int) < ((x :: a).length : Int) := by rw [List.length_cons]; omega
      have hqn1 : 0 < (x :: a).length := by simp
      clear hcell1
      clear H1 H2 hp1 hp2 hne
      generalize (x :: a).length = n1 at *
      go_enter Tryd.func59, Tryd.ntmps59
      go_wp2_with fail
      go_quiet (fail)
      have hbq := below_drewN (Below.refl w.heap.size w) nq
      obtain ⟨c0, c1, c2, c3⟩ := HC1.out _ hbq
      generalize w.drewN nq = W at *
      go_wp2_with fail
      refine (HPO.out _ _ _ _ _).mono ?_
      rintro e w1 ⟨rfl, hb1⟩
      go_wp2_with fail
      go_ret
      exact ⟨rfl, hbq.trans (hb1.mono hbq.size)⟩
    | cons y b =>
      obtain ⟨b1, off1, rfl, hb1, hcell1⟩ := H1.out (by simp)
      have HC1 : Hid (∀ W, Below w.heap.size w W → NodCells W b1 off1 x) := fun W hW => by have := (hcell1 0 x rfl).below hW hb1; simpa using this
      obtain ⟨c0, c1, c2, c3⟩ := HC1.out w (Below.refl _ _)
      have hq1 : (0 : Int) < ((x :: a).length : Int) := by rw [List.length_cons]; omega
      have hqn1 : 0 < (x :: a).length := by simp
      clear hcell1
      obtain ⟨b2, off2, rfl, hb2, hcell2⟩ := H2.out (by simp)
      have HC2 : Hid (∀ W, Below w.heap.size w W → NodCells W b2 off2 y) := fun W hW => by have := (hcell2 0 y rfl).below hW hb2; simpa using this
      obtain ⟨d0, d1, d2, d3⟩ := HC2.out w (Below.refl _ _)
      have hq2 : (0 : Int) < ((y :: b).length : Int) := by rw [List.length_cons]; omega
      have hqn2 : 0 < (y :: b).length := by simp
      clear hcell2
      have hz2 : (((y :: b).length : Int) == 0) = false := by simp; omega
      have HLE : Hid (∀ W, Calls Tryd.prog 72 #[.string x.p, .string y.p] W fun e w' => e = .returned (.bool (lessR x y)) ∧ Below W.heap.size W w') := fun W => by
        have h1 := hp1 x (by simp)
        have h2 := hp2 y (by simp)
        have := pathLess_impl x.p y.p W (path_max h1) (path_max h2)
        rw [lessB_yes h1 h2] at this
        exact this
      have HFQ : Hid (fpQ (x :: a) (y :: b) = if lessR x y then x.p else y.p) := rfl
      have HKS : Hid (∀ W, Below w.heap.size w W → W.cell? ⟨b1, off1, none⟩ = some (.int .i64 x.k) ∧ W.cell? ⟨b1, off1 + 1, none⟩ = some (.string x.p) ∧ W.cell? ⟨b1, off1 + 2, none⟩ = some (.string x.b) ∧ W.cell? ⟨b1, off1 + 3, none⟩ = some (.int .i64 x.m) ∧ W.cell? ⟨b2, off2, none⟩ = some (.int .i64 y.k) ∧ W.cell? ⟨b2, off2 + 1, none⟩ = some (.string y.p) ∧ W.cell? ⟨b2, off2 + 2, none⟩ = some (.string y.b) ∧ W.cell? ⟨b2, off2 + 3, none⟩ = some (.int .i64 y.m)) := fun W hW => by
        obtain ⟨c0, c1, c2, c3⟩ := HC1.out W hW
        obtain ⟨d0, d1, d2, d3⟩ := HC2.out W hW
        exact ⟨c0, c1, c2, c3, d0, d1, d2, d3⟩
      have hbd : Below w.heap.size w w.drew := (Below.refl _ _).drew
      clear H1 H2 hp1 hp2 hne
      generalize (x :: a).length = n1 at *
      generalize (y :: b).length = n2 at *
      rcases Bool.eq_false_or_eq_true (lessR x y) with hls | hls
      all_goals
        rw [hls] at HLE HFQ
        clear hls
        go_enter Tryd.func59, Tryd.ntmps59
        go_wp2_with fail
        go_region_held3 (fun W => W.cell? ⟨b1, off1, none⟩ = some (.int .i64 x.k) ∧ W.cell? ⟨b1, off1 + 1, none⟩ = some (.string x.p) ∧ W.cell? ⟨b1, off1 + 2, none⟩ = some (.string x.b) ∧ W.cell? ⟨b1, off1 + 3, none⟩ = some (.int .i64 x.m) ∧ W.cell? ⟨b2, off2, none⟩ = some (.int .i64 y.k) ∧ W.cell? ⟨b2, off2 + 1, none⟩ = some (.string y.p) ∧ W.cell? ⟨b2, off2 + 2, none⟩ = some (.string y.b) ∧ W.cell? ⟨b2, off2 + 3, none⟩ = some (.int .i64 y.m)) (first | exact HKS.out _ c5 | exact HKS.out _ c4 | exact HKS.out _ c3 | exact HKS.out _ hbd | go_keep) (first
          | (go_at_call 44; have z0 := c3; refine (HPO.out _ _ _ _ _).mono ?_; rintro e w4 ⟨rfl, hb4⟩; have c4 := z0.trans (hb4.mono z0.size))
          | (go_at_call 44; refine (HPO.out _ _ _ _ _).mono ?_; rintro e w3 ⟨rfl, hb3⟩; have c3 := hbd.trans (hb3.mono hbd.size))
          | (go_at_call 72; refine (HLE.out _).mono ?_; rintro e w5 ⟨rfl, hb5⟩; have c5 := c4.trans (hb5.mono c4.size)))
        clear c0 c1 c2 c3 d0 d1 d2 d3
        obtain ⟨c0, c1, c2, c3⟩ := HC1.out _ c5
        obtain ⟨d0, d1, d2, d3⟩ := HC2.out _ c5
        go_wp2_with fail
        refine (HPO.out _ _ _ _ _).mono ?_
        rintro e w6 ⟨rfl, hb6⟩
        go_wp2_with fail
        go_ret
        exact ⟨by rw [HFQ.out]; rfl, c5.trans (hb6.mono c5.size)⟩

theorem changesN_any (A1 A2 : Option Addr) (n1 n2 c1 c2 : Nat) (w : World) :
    Calls Tryd.prog 43 #[.slice A1 n1 c1, .slice A2 n2 c2, .func (.func 44) #[] #[]] w fun e w' => e = .returned (.func (.func 58) #[] #[.pointer (some ⟨w.heap.size, 0, none⟩), .pointer (some ⟨w.heap.size + 1, 0, none⟩), .pointer (some ⟨w.heap.size + 2, 0, none⟩)]) ∧ w' = ((w.alloc (.cells #[.slice A1 n1 c1] 45)).alloc (.cells #[.slice A2 n2 c2] 45)).alloc (.cells #[.func (.func 44) #[] #[]] 82) := by
  go_enter Tryd.func43, Tryd.ntmps43
  go_wp2_with fail
  go_ret
  exact ⟨rfl, rfl⟩
end Go.Proofs.YtcnjiphoahoojaaDoor.Recs
