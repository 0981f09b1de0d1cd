/- Parts of several texts of mine in one file (each begins with its own remark). -/
import Derived.Test.YtibekkfbpmloiabGreatDoorGA1
import Derived.Test.YtibekkfbpmloiabGreatDoorGA11
import Derived.Test.YtibekkfbpmloiabGreatDoorGA12
import Derived.Test.YtibekkfbpmloiabGreatDoorGA15
import Derived.Test.YtibekkfbpmloiabGreatDoorGA16
import Derived.Test.YtibekkfbpmloiabGreatDoorGA19
import Derived.Test.YtibekkfbpmloiabGreatDoorGA2
import Derived.Test.YtibekkfbpmloiabGreatDoorGA20
import Derived.Test.YtibekkfbpmloiabGreatDoorGA23
import Derived.Test.YtibekkfbpmloiabGreatDoorGA29
import Derived.Test.YtibekkfbpmloiabGreatDoorGA3
import Derived.Test.YtibekkfbpmloiabGreatDoorGA30
import Derived.Test.YtibekkfbpmloiabGreatDoorGA33
import Derived.Test.YtibekkfbpmloiabGreatDoorGA4
import Derived.Test.YtibekkfbpmloiabGreatDoorGA5
import Derived.Test.YtibekkfbpmloiabGreatDoorGA7
import Derived.Test.YtibekkfbpmloiabGreatDoorGA8
import Derived.Test.YtibekkfbpmloiabGreatDoorGA9
import Derived.Test.YtibekkfbpmloiabGreatDoorChecked
import Derived.Test.YtibekkfbpmloiabGreatDoorShelf
import Derived.Test.YtibekkfbpmloiabGreatDoorRows
import Derived.Test.YtibekkfbpmloiabGreatDoorProg
import Derived.Test.YtibekkfbpmloiabGreatDoorShelf2
import Derived.Deep.RegionHeld3
import Derived.Laws.IdiomRangeMap
import Derived.StillTailTactics
import Derived.Deep.Slices
import Derived.OpenShut
import Derived.ShutString
import Derived.ChangeArms
import Derived.WideShapes
import Derived.Lib.LaidTab
import Derived.BigQuiet
import Derived.Deep.QuietTactic
import Derived.Deep.Draws
import Derived.Deep.LoopGhost
import Derived.WalkKit
import Derived.WalkSpells
import Derived.WalkSmall
import Derived.Lib.OthersKept
import Derived.Lib.Hide
import Derived.Lib.Strings
import Derived.Maps.RangeWalk
import Derived.Maps.Ext
import Derived.Lib.SlMapFilter
import Derived.Laws.OwnMore
import Derived.BigRegion
import Derived.Lib.Join
import Derived.Laws.BytesArg
import Derived.WalkLawsBesides
import Derived.Deep.Cut
import Derived.Deep.CutRange
import Derived.Deep.CutBlock
import Derived.Deep.RegionWith
import Derived.OneCell
import Derived.Lib.SliceRun
import Derived.Lib.Overlaps
import Derived.Lib.AppendZerosOnto
import Derived.Laws.NewBlocks
import Derived.Laws.IdiomCopy
import Derived.Deep.RegionLaw
import Derived.ChangeVars
import Derived.Deep.DeepHandedRow
import Derived.LaidEql
import Derived.Stop.Asserts
import Derived.Below
import Derived.Stop.LaidErr
import Derived.Stop.LaidTwo
import Derived.RangeFuncNested
import Derived.RangeFuncBound
import Derived.RangeFuncCalls
import Derived.RangeFuncLeaves
import Derived.RangeFuncBox
import Derived.Shelf.Abstract
import Derived.Shelf.RegionOpen
import Derived.OwnWalkIn
import Derived.TacticsInMore
import Derived.LoopNIn
import Derived.LoopIn
import Derived.Maps.OwnIn
import Derived.Maps.AppendAt
import Derived.Sort.MapsRangeIn
import Derived.Sort.KeysCollected
import Derived.Sort.Grow
import Derived.Deep.AppendLies
import Derived.Laws.EntriesVeiled
import Derived.Shelf.SlSortCmp.NoneTotal
import Derived.Sort.OwnSorted
import Derived.Laws.AppendOwnNone
/- The program's map of paths: a layer applied to it. -/
namespace Go.Proofs.YtibekkfbpmloiabGreatDoor.Recs
set_option maxRecDepth 100000
open Go.RowKit Paths

theorem MapT.nocell {w : World} {b n : Nat} {t : List R} (h : MapT w b n t) (off : Nat) : w.cell? ⟨b, off, none⟩ = none := by
  obtain ⟨⟨_, ⟨es, clock, hb, _⟩, _⟩, _⟩ := h
  simp [World.cell?, hb]
theorem cell_turned {w w' : World} {b n : Nat} {t : List R} (hg : w.grownBy w' (some b)) (hm : MapT w b n t) {g off : Nat} {u : Value} (h : w.cell? ⟨g, off, none⟩ = some u) : w'.cell? ⟨g, off, none⟩ = some u :=
  hg.cell h (fun e => by cases e; rw [hm.nocell] at h; cases h)
theorem RecSl.turned {w w' : World} {v : Value} {L : List R} {b n : Nat} {t : List R} (h : RecSl w v L) (hg : w.grownBy w' (some b)) (hm : MapT w b n t) : RecSl w' v L := by
  obtain ⟨A, cap, rfl, hc, h⟩ := h
  refine ⟨A, cap, rfl, hc, fun hn => ?_⟩
  obtain ⟨g, off, rfl, hlt, hcell⟩ := h hn
  refine ⟨g, off, rfl, Nat.lt_of_lt_of_le hlt hg.size, fun i r hi => ?_⟩
  obtain ⟨h0, h1, h2, h3, h4⟩ := hcell i r hi
  exact ⟨cell_turned hg hm h0, cell_turned hg hm h1, cell_turned hg hm h2, cell_turned hg hm h3, cell_turned hg hm h4⟩
theorem box_cells (w : World) (r : R) (t : TypeId) : RecCells (w.alloc (.cells #[.int .i64 r.k, .string r.p, .string r.b, .int .i64 r.m, .bool r.o] t)) w.heap.size 0 r := by
  have h := rec_cells_new w r t
  exact ⟨h 0 _ rfl, h 1 _ rfl, h 2 _ rfl, h 3 _ rfl, h 4 _ rfl⟩
theorem RecCells.turned {w w' : World} {g off b n : Nat} {r : R} {t : List R} (h : RecCells w g off r) (hg : w.grownBy w' (some b)) (hm : MapT w b n t) : RecCells w' g off r := by
  obtain ⟨h0, h1, h2, h3, h4⟩ := h
  exact ⟨cell_turned hg hm h0, cell_turned hg hm h1, cell_turned hg hm h2, cell_turned hg hm h3, cell_turned hg hm h4⟩
theorem RecCells.grown {w w' : World} {g off b : Nat} {r : R} (h : RecCells w g off r) (hg : w.grownBy w' (some b)) (hne : g ≠ b) : RecCells w' g off r := by
  obtain ⟨h0, h1, h2, h3, h4⟩ := h
  have hn : ∀ o : Nat, some (⟨g, o, none⟩ : Addr).block ≠ some b := fun o e => hne (by cases e; rfl)
  exact ⟨hg.cell h0 (hn _), hg.cell h1 (hn _), hg.cell h2 (hn _), hg.cell h3 (hn _), hg.cell h4 (hn _)⟩
end Go.Proofs.YtibekkfbpmloiabGreatDoor.Recs

/- Trees: a node put into its place, of the model. -/
namespace Go.Proofs.YtibekkfbpmloiabGreatDoor.Recs
set_option maxRecDepth 100000
open Go.RowKit Paths

/-- A block that holds one node. -/
def Item (w : World) (g : Nat) (n : R) : Prop := w.heap[g]? = some (.cells #[.int .i64 n.k, .string n.p, .string n.b, .int .i64 n.m] 68 (0, 0))
theorem Item.new (w : World) (n : R) : Item (w.alloc (.cells #[.int .i64 n.k, .string n.p, .string n.b, .int .i64 n.m] 68)) w.heap.size n := alloc_at w _
theorem Item.lt {w : World} {g : Nat} {n : R} (h : Item w g n) : g < w.heap.size := (Array.getElem?_eq_some_iff.1 h).1
theorem Item.below {w w' : World} {g : Nat} {n : R} (h : Item w g n) (hb : Below w.heap.size w w') : Item w' g n := (hb.block _ h.lt).trans h
theorem Item.grown {w w' : World} {g : Nat} {n : R} {row : Option Nat} (h : Item w g n) (hg : w.grownBy w' row) (hne : row ≠ some g) : Item w' g n := (hg.block g h.lt (fun e => hne e.symm)).trans h
theorem Item.cells {w : World} {g : Nat} {n : R} (h : Item w g n) : ∀ j u, n.ns[j]? = some u → w.cell? ((⟨g, 0, none⟩ : Addr).add j) = some u := by
  intro j u hj
  rw [Addr.add_lit, Nat.zero_add]
  unfold World.cell?
  unfold Item at h
  simp only [h]
  match j, hj with
  | 0, hj => cases hj; rfl
  | 1, hj => cases hj; rfl
  | 2, hj => cases hj; rfl
  | 3, hj => cases hj; rfl
  | j + 4, hj => simp [R.ns] at hj
end Go.Proofs.YtibekkfbpmloiabGreatDoor.Recs

/- The program's map of paths: the library's iterator over its values, and these values appended to a slice. -/
namespace Go.Proofs.YtibekkfbpmloiabGreatDoor.Recs
set_option maxRecDepth 100000
open Go.RowKit Paths Go.Shelf
attribute [local go_sem] Oper.semAt_some

/-- What has come of the nodes t: those that are not left. -/
def Coll (t : List R) (left : Lit → Bool) (ps : List R) : Prop := ps.Nodup ∧ ∀ x, x ∈ ps ↔ x ∈ t ∧ left (kd x).1 = false
def AllT (t ps : List R) : Prop := ps.Nodup ∧ ∀ x, x ∈ ps ↔ x ∈ t
theorem Coll.start {es : List (Lit × DataW Unit)} {t : List R} (hes : ∀ p, p ∈ es ↔ ∃ x ∈ t, p = kd x) : Coll t (Maps.has (.map es)) [] := by
  refine ⟨List.nodup_nil, fun x => ⟨(fun h => by cases h), fun ⟨hx, hl⟩ => ?_⟩⟩
  have : Maps.has (DataW.map es) (kd x).1 = true := List.any_eq_true.2 ⟨kd x, (hes _).2 ⟨x, hx, rfl⟩, WideAt.sameKey_self trivial⟩
  rw [this] at hl
  cases hl
theorem Coll.step {t ps : List R} {left : Lit → Bool} {x : R} (h : Coll t left ps) (hx : x ∈ t) (hl : left (kd x).1 = true) (once : ∀ y ∈ t, (kd y).1 = (kd x).1 → y = x) : Coll t (fun z => left z && !z.sameKey (kd x).1) (ps ++ [x]) := by
  have hnx : x ∉ ps := fun hm => by rw [((h.2 x).1 hm).2] at hl; cases hl
  refine ⟨List.nodup_append.2 ⟨h.1, by simp, fun a ha b hb => ?_⟩, fun y => ?_⟩
  · rw [List.mem_singleton.1 hb]
    exact fun e => hnx (e ▸ ha)
  · rw [List.mem_append, List.mem_singleton, h.2 y]
    constructor
    · rintro (⟨h1, h2⟩ | rfl)
      · exact ⟨h1, by simp [h2]⟩
      · exact ⟨hx, by simp [WideAt.sameKey_self (a := (kd y).1) trivial]⟩
    · rintro ⟨h1, h2⟩
      cases hly : left (kd y).1 with
      | false => exact .inl ⟨h1, rfl⟩
      | true =>
        refine .inr (once y h1 (WideAt.sameKey_eq ?_))
        simpa [hly] using h2
theorem Coll.all {t ps : List R} {left : Lit → Bool} (h : Coll t left ps) (hl : ∀ kl, left kl = false) : AllT t ps := ⟨h.1, fun x => by rw [h.2 x, hl]; simp⟩
end Go.Proofs.YtibekkfbpmloiabGreatDoor.Recs

/- PartOK and splitPath of the program: what they leave, and that nothing drawn is given back. -/
namespace Go.Proofs.YtibekkfbpmloiabGreatDoor.Paths
open Go.RowKit

/-- New memory only, and nothing drawn is given back. -/
structure Bel (B : Nat) (w w' : World) : Prop where
  b : Below B w w'
  d : w.drawn ≤ w'.drawn
theorem Bel.refl (B : Nat) (w : World) : Bel B w w := ⟨Below.refl _ _, Nat.le_refl _⟩
theorem Bel.trans {B : Nat} {a b c : World} (h : Bel B a b) (k : Bel B b c) : Bel B a c := ⟨h.b.trans k.b, Nat.le_trans h.d k.d⟩
theorem Bel.mono {B B' : Nat} {w w' : World} (h : Bel B w w') (hB : B' ≤ B) : Bel B' w w' := ⟨h.b.mono hB, h.d⟩
theorem Bel.alloc {B : Nat} {a w : World} (h : Bel B a w) (hB : B ≤ w.heap.size) (o : Obj) : Bel B a (w.alloc o) := ⟨h.b.alloc hB o, h.d⟩
theorem Bel.size {B : Nat} {a w : World} (h : Bel B a w) : a.heap.size ≤ w.heap.size := h.b.size
theorem Bel.grown {B : Nat} {a w w' : World} {row : Option Nat} (h : Bel B a w) (hg : w.grownBy w' row) (hd : w.drawn ≤ w'.drawn) (hB : B ≤ w.heap.size) (hr : ∀ k, row = some k → B ≤ k) : Bel B a w' :=
  ⟨h.b.grown hg hB hr, Nat.le_trans h.d hd⟩
/-- The same, as the world grown by new blocks. -/
theorem Bel.world {w w' : World} (h : Bel w.heap.size w w') : ∃ q os, w' = Go.Sort.grow (w.drewN q) os := by
  refine ⟨w'.drawn - w.drawn, w'.heap.extract w.heap.size w'.heap.size, ?_⟩
  obtain ⟨⟨ho, ht, hou, hs, hb⟩, hd⟩ := h
  obtain ⟨h', t', d', o', u'⟩ := w'
  obtain ⟨h0, t0, d0, o0, u0⟩ := w
  simp only at ho ht hou hs hb hd
  subst ho ht hou
  have hd' : d0 + (d' - d0) = d' := by omega
  have hh : h' = h0 ++ h'.extract h0.size h'.size := by
    apply Array.ext_getElem?
    intro i
    by_cases hi : i < h0.size
    · rw [Array.getElem?_append_left hi]
      exact hb i hi
    · rw [Array.getElem?_append_right (by omega), Array.getElem?_extract]
      by_cases hi2 : i < h'.size
      · rw [if_pos (by omega)]
        congr 1
        omega
      · rw [if_neg (by omega)]
        exact Array.getElem?_eq_none (by omega)
  unfold Go.Sort.grow World.drewN
  simp only [World.mk.injEq, hd', and_true]
  exact hh
def SplitBel (l : List UInt8) (w w' : World) (v : Value) : Prop :=
  Bel w.heap.size w w' ∧ w'.ownsRow w.heap.size 9 1 v (partsOf l).length ((partsOf l).map strV) ∧ (pathB l = false → v = .slice none 0 0) ∧ (pathB l = true → v ≠ .slice none 0 0)

theorem SplitBel.bad {l : List UInt8} {w w' : World} (h : pathB l = false) (hb : Bel w.heap.size w w') : SplitBel l w w' (.slice none 0 0) := by
  refine ⟨hb, ?_, fun _ => rfl, fun h2 => by rw [h] at h2; cases h2⟩
  simp [partsOf, h]
  exact World.ownsRow_nil _ _ _ _

theorem SplitBel.good {l : List UInt8} {P : List (List UInt8)} {R : ByteArray} {w w' : World} {v : Value} (h : cutAt 47 l = P ++ cutAt 47 R.data.toList) (hP : P.length < 4) (ha : P.all partB = true) (hB : partB R.data.toList = true)
    (hb : Bel w.heap.size w w') (hown : w'.ownsRow w.heap.size 9 1 v (P.length + 1) (P.map strV ++ [.string R])) (hn : v ≠ .slice none 0 0) : SplitBel l w w' v := by
  obtain ⟨h1, h2⟩ := pathB_good h hP ha hB
  refine ⟨hb, ?_, fun h3 => (by rw [h1] at h3; cases h3), fun _ => hn⟩
  unfold partsOf
  rw [if_pos h1, h2]
  simpa [strV_data] using hown

end Go.Proofs.YtibekkfbpmloiabGreatDoor.Paths

/- Trees: the place of a path, comparison of two, of the model. DRAFT (made out of the texts on records; not built yet: no seat had nodes). -/
namespace Go.Proofs.YtibekkfbpmloiabGreatDoor.Recs
set_option maxRecDepth 100000
open Go.RowKit Paths

theorem NodSl.take {w : World} {A : Option Addr} {cap : Nat} {l : List R} {k : Nat} (h : NodSl w (.slice A l.length cap) l) (hk : k ≤ l.length) : NodSl w (.slice A k cap) (l.take k) := by
  obtain ⟨ho, A', cap', e, hc, h⟩ := h
  cases e
  refine ⟨fun r hr => ho r (List.mem_of_mem_take hr), A, cap, by rw [List.length_take, Nat.min_eq_left hk], by rw [List.length_take]; omega, fun hn => ?_⟩
  rw [List.length_take] at hn
  obtain ⟨b, off, e, hb, hcell⟩ := h (by omega)
  refine ⟨b, off, e, hb, fun j p hj => hcell j p ?_⟩
  rw [List.getElem?_take] at hj
  split at hj
  · exact hj
  · cases hj
/-- Two nodes are alike, or one field is the first that is not. -/
theorem four (x y : R) : (x.k == y.k) = false ∨ ((x.k == y.k) = true ∧ (x.p.toList == y.p.toList) = false) ∨ ((x.k == y.k) = true ∧ (x.p.toList == y.p.toList) = true ∧ (x.b.toList == y.b.toList) = false) ∨
    ((x.k == y.k) = true ∧ (x.p.toList == y.p.toList) = true ∧ (x.b.toList == y.b.toList) = true ∧ (x.m == y.m) = false) ∨ ((x.k == y.k) = true ∧ (x.p.toList == y.p.toList) = true ∧ (x.b.toList == y.b.toList) = true ∧ (x.m == y.m) = true) := by
  cases (x.k == y.k) <;> cases (x.p.toList == y.p.toList) <;> cases (x.b.toList == y.b.toList) <;> cases (x.m == y.m) <;> simp

end Go.Proofs.YtibekkfbpmloiabGreatDoor.Recs

/- Trees: ListDir, of the program and of its model. Conditions (of the program's): the table of kinds, the two sentinels. -/
namespace Go.Proofs.YtibekkfbpmloiabGreatDoor.Recs
set_option maxRecDepth 100000
open Go.RowKit Paths Errs

theorem cut_last {p : ByteArray} {w : World} {g : Nat} (h : ∀ i (hi : i < (cutAt 47 p.data.toList).length), w.cell? ⟨g, i, none⟩ = some (strV (cutAt 47 p.data.toList)[i])) : w.cell? ⟨g, (cutAt 47 p.data.toList).length - 1, none⟩ = some (.string (lastB p)) := by
  have hp := cutAt_pos 47 p.data.toList
  rw [h _ (by omega), last_cell hp]

end Go.Proofs.YtibekkfbpmloiabGreatDoor.Recs

/- A tree in memory: a node taken out, with all that is below it. -/
namespace Go.Proofs.YtibekkfbpmloiabGreatDoor.Recs
set_option maxRecDepth 100000
open Go.RowKit Paths

theorem ups_nil : ups ByteArray.empty = [] := by decide
section
variable {base : Nat} {A : ByteArray → Nat} {S : ByteArray → Value} {t : List R} {x : R} {q : ByteArray}
/-- Those directly below one that stay without a last part. -/
def kidsBut (t : List R) (p q : ByteArray) : List R := (kids t p).filter fun c => !decide (lastB c.p = lastB q)
theorem Tr.cut {W w9 : World} (h : Tr W base A S t) (ht : IsTree t) (hq : pathB q.data.toList = true) (hx : x ∈ rootR :: t) (hxp : x.p = parO q) {v' : Value}
    (hown : w9.ownsRow base 146 1 v' (kidsBut t x.p q).length (ptrs A (kidsBut t x.p q)))
    (hgrow : W.grownBy w9 (S x.p).ownBlock) (hwh : v'.ownBlock = (S x.p).ownBlock) :
    Tr (w9.setCell ⟨A x.p, 5, none⟩ v') base A (fun p => if p = x.p then v' else S p) (withoutL t q true) := by
  have hs := ht.sorted
  have hpath := ht.path
  have hmem : ∀ r, r ∈ rootR :: withoutL t q true → r ∈ rootR :: t ∧ r.p ≠ q ∧ q ∉ ups r.p := fun r hr => by
    rcases List.mem_cons.1 hr with rfl | hr
    · refine ⟨root_mem, fun e => path_nonempty hq e.symm, ?_⟩
      rw [rootR_p, ups_nil]
      simp
    · obtain ⟨h1, h2, h3⟩ := mem_without.1 hr
      exact ⟨List.mem_cons_of_mem _ h1, h3 rfl, h2⟩
  have hb9 : ∀ r ∈ rootR :: t, w9.heap[A r.p]? = W.heap[A r.p]? := fun r hr => hgrow.block _ (h.lt hr) (fun e => h.apart_row hr hx e.symm)
  have hvx : v'.ownBlock ≠ some (A x.p) := by rw [hwh]; exact h.apart_row hx hx
  have hkid : ∀ r ∈ rootR :: withoutL t q true, kids (withoutL t q true) r.p = if r.p = x.p then kidsBut t x.p q else kids t r.p := fun r hr => by
    obtain ⟨_, h2, h3⟩ := hmem r hr
    rw [kids_without hpath hq ⟨h2, h3⟩]
    by_cases he : r.p = x.p
    · rw [if_pos he, he, hxp]
      unfold kidsBut
      simp
    · rw [if_neg he]
      have : ¬ parO q = r.p := fun e => he (by rw [hxp, e])
      simp [this]
  refine ⟨fun r hr => ?_, fun r hr => h.own r (hmem r hr).1, fun r hr => ?_, fun r hr y hy hne g hg => ?_⟩
  · have hrt := (hmem r hr).1
    by_cases he : r.p = x.p
    · obtain rfl := dom_once hs hpath hrt hx he
      rw [if_pos rfl, setCell_block ((hb9 r hrt).trans (h.block r hrt)) 5 v']
      rfl
    · rw [if_neg he, Below.heap_setCell _ _ _ _ (fun e => he (h.inj hrt hx e)), hb9 r hrt]
      exact h.block r hrt
  · have hrt := (hmem r hr).1
    rw [hkid r hr]
    by_cases he : r.p = x.p
    · rw [if_pos he, if_pos he]
      exact ownsRow_setCell_other hown hvx _
    · rw [if_neg he, if_neg he]
      have hk := (h.row r hrt).kept hgrow (by
        cases hc : (S r.p).ownBlock with
        | none => exact .inl rfl
        | some g => exact .inr fun e => h.apart r hrt x hx he g hc e.symm)
      exact ownsRow_setCell_other hk (h.apart_row hx hrt) _
  · have hrt := (hmem r hr).1
    have hyt := (hmem y hy).1
    by_cases her : r.p = x.p
    · have hey : y.p ≠ x.p := fun e => hne (her.trans e.symm)
      rw [if_pos her, hwh] at hg
      rw [if_neg hey]
      exact h.apart x hx y hyt (fun e => hey e.symm) g hg
    · rw [if_neg her] at hg
      by_cases hey : y.p = x.p
      · rw [if_pos hey, hwh]
        exact h.apart r hrt x hx her g hg
      · rw [if_neg hey]
        exact h.apart r hrt y hyt hne g hg
end
end Go.Proofs.YtibekkfbpmloiabGreatDoor.Recs

/- A tree in memory: remove, of the program. -/
namespace Go.Proofs.YtibekkfbpmloiabGreatDoor.Recs
set_option maxRecDepth 100000
open Go.RowKit Paths

theorem str_eq_dec (a b : ByteArray) : (a.toList == b.toList) = decide (a = b) := by
  by_cases h : a = b
  · subst h; simp
  · rw [decide_eq_false h, Bool.eq_false_iff]
    exact fun e => h (str_eq_of e)
end Go.Proofs.YtibekkfbpmloiabGreatDoor.Recs

/- Applying layers to trees, of the model: a record, a layer, a stack. -/
namespace Go.Proofs.YtibekkfbpmloiabGreatDoor.Recs
set_option maxRecDepth 100000
open Go.RowKit Paths

theorem put_le (t : List R) (n : R) : (putL t n).length ≤ t.length + 1 := by
  unfold putL
  rw [List.length_append, List.length_cons]
  have h : ∀ l : List R, (l.filter fun x => lessR x n).length + (l.filter fun x => lessR n x).length ≤ l.length := by
    intro l
    induction l with
    | nil => simp
    | cons x l ih =>
      have hx : ¬ (lessR x n = true ∧ lessR n x = true) := fun ⟨h1, h2⟩ => by
        unfold lessR at h1 h2
        rw [lessP_asymm _ _ h1] at h2
        cases h2
      rw [List.filter_cons, List.filter_cons, List.length_cons]
      by_cases h1 : lessR x n = true
      · by_cases h2 : lessR n x = true
        · exact absurd ⟨h1, h2⟩ hx
        · rw [if_pos h1, if_neg h2, List.length_cons]; omega
      · by_cases h2 : lessR n x = true
        · rw [if_neg h1, if_pos h2, List.length_cons]; omega
        · rw [if_neg h1, if_neg h2]; omega
  have := h t
  omega
end Go.Proofs.YtibekkfbpmloiabGreatDoor.Recs

/- Applying layers to trees, of the model: a layer, a stack. -/
namespace Go.Proofs.YtibekkfbpmloiabGreatDoor.Recs
set_option maxRecDepth 100000
open Go.RowKit Paths

theorem RowN.down {w : World} {base base' : Nat} {v : Value} {n : Nat} {M : List R} (h : RowN w base v n M) (hb : base' ≤ base) : RowN w base' v n M := ⟨h.1, own_down h.2.1 hb, h.2.2⟩
end Go.Proofs.YtibekkfbpmloiabGreatDoor.Recs

/- Apply, Changes of the program. Conditions: the table of kinds, the two sentinels. -/
namespace Go.Proofs.YtibekkfbpmloiabGreatDoor.Recs
set_option maxRecDepth 100000
open Go.RowKit Paths Errs

theorem RecSl.form {w : World} {v : Value} {l : List R} (h : RecSl w v l) : ∃ A cap, v = .slice A l.length cap := by
  obtain ⟨A, cap, rfl, _⟩ := h
  exact ⟨A, cap, rfl⟩
end Go.Proofs.YtibekkfbpmloiabGreatDoor.Recs

/- Stacks of drawn layers, plain: combining all, in one pass or in parts; a part replaced by its combination. -/
namespace Go.Proofs.YtibekkfbpmloiabGreatDoor.Recs
open Go.RowKit Paths

theorem stk_small {LL : List (List R)} (h5 : LL.length ≤ 5) (h : ∀ l ∈ LL, layerOK l = true) : stackOK LL = true ∧ codeS LL = 0 := by
  have hs : stackOK LL = true := by
    unfold stackOK
    rw [Bool.and_eq_true, decide_eq_true_eq, List.all_eq_true]
    exact ⟨h5, h⟩
  refine ⟨hs, ?_⟩
  unfold codeS
  rw [if_neg (by omega), if_pos hs]
theorem all_cases {LL : List (List R)} (h5 : LL.length ≤ 5) (h : ∀ l ∈ LL, layerOK l = true) :
    (sqaC LL = 7 ∧ sqaR LL = []) ∨ (sqaC LL = 0 ∧ sqaR LL = squashAllL LL ∧ layerOK (squashAllL LL) = true) := by
  obtain ⟨_, h0⟩ := stk_small h5 h
  by_cases h16 : 16 < (squashAllL LL).length
  · exact .inl (sqa_full h0 h16)
  · obtain ⟨h1, h2⟩ := sqa_fine h0 h16
    exact .inr ⟨h1, h2, fine_ok (squashAll_canon fun l hl => fine_layer (h l hl)).isFine (by omega)⟩
theorem merge_all {LL : List (List R)} (h5 : LL.length ≤ 5) (h : ∀ l ∈ LL, layerOK l = true) : mmC LL = sqaC LL ∧ mmR LL = sqaR LL := by
  obtain ⟨_, h0⟩ := stk_small h5 h
  have e : mmL LL = squashAllL LL := merge_squash (fun l hl => fine_layer (h l hl)) (fun l hl => layer_len (h l hl)) h5
  unfold mmC mmR sqaC sqaR
  rw [e]
  exact ⟨rfl, rfl⟩
/-- Two parts, each combined: together they are the whole. -/
theorem parts_all {LL : List (List R)} (h5 : LL.length ≤ 5) (h : ∀ l ∈ LL, layerOK l = true) (k : Nat) (ha : layerOK (squashAllL (LL.take k)) = true) (hb : layerOK (squashAllL (LL.drop k)) = true) :
    sqC (squashAllL (LL.take k)) (squashAllL (LL.drop k)) = sqaC LL ∧ sqR (squashAllL (LL.take k)) (squashAllL (LL.drop k)) = sqaR LL := by
  obtain ⟨_, h0⟩ := stk_small h5 h
  have ha16 := layer_len ha
  have hb16 := layer_len hb
  have hsl := squash16 (LL := LL) fun l hl => layer_len (h l hl)
  have e := squash_parts (A := LL.take k) (B := LL.drop k) (fun l hl => fine_layer (h l (List.mem_of_mem_take hl))) (fun l hl => fine_layer (h l (List.mem_of_mem_drop hl))) (by rw [List.take_append_drop]; omega)
  rw [List.take_append_drop] at e
  have hc : codeBB (squashAllL (LL.take k)) (squashAllL (LL.drop k)) = 0 := by
    unfold codeBB
    rw [if_neg (by omega), ha, hb]
    rfl
  unfold sqC sqR sqaC sqaR
  rw [if_pos hc, if_pos hc, if_pos h0, if_pos h0, e]
  exact ⟨rfl, rfl⟩
end Go.Proofs.YtibekkfbpmloiabGreatDoor.Recs

/- A record put into a layer as the model's draws put it (what is above it is made, what is no directory gives way): a layer stays one. -/
namespace Go.Proofs.YtibekkfbpmloiabGreatDoor.Recs
open Go.RowKit Paths

/-- Sorted, housed, each record valid: a layer but for its length. -/
structure Lays (l : List R) : Prop where
  sorted : Sorted l
  housed : Housed l
  fault : ∀ r ∈ l, r.fault = 0
theorem layer_lays {l : List R} (h : layerOK l = true) : Lays l := ⟨layer_sorted h, layer_housed h, fun _ hr => layer_rec h hr⟩
theorem Lays.ok {l : List R} (h : Lays l) (hl : l.length ≤ 16) : layerOK l = true := layerOK_of hl h.fault h.sorted h.housed

/-- What stays beside the record r. -/
def keepX (r x : R) : Bool := decide (x.p ≠ r.p) && (decide (r.k = 3) || !isUp r.p x.p)
/-- The model's loop: behind 'done' the record has been laid. -/
def baseFrom (r : R) : List R → Bool → List R
  | [], done => if done then [] else [r]
  | x :: t, done => (if !done && lessR r x then [r] else []) ++ ((if keepX r x then [x] else []) ++ baseFrom r t (done || lessR r x))
theorem base_done (r : R) : ∀ l : List R, baseFrom r l true = l.filter (keepX r)
  | [] => rfl
  | x :: t => by
    simp only [baseFrom, Bool.not_true, Bool.false_and, Bool.true_or, base_done r t]
    rcases Bool.eq_false_or_eq_true (keepX r x) with h | h
    · simp [h]
    · simp [h]
theorem put_front {s : List R} {r : R} (h : ∀ y ∈ s, lessR r y = true) : putL s r = r :: s := by
  unfold putL
  have e1 : s.filter (fun x => lessR x r) = [] := by
    rw [List.filter_eq_nil_iff]
    intro y hy hn
    rw [lessR_asymm (h y hy)] at hn
    cases hn
  have e2 : s.filter (fun x => lessR r x) = s := by rw [List.filter_eq_self]; exact h
  rw [e1, e2]
  rfl
theorem put_cons {s : List R} {x r : R} (h : lessR x r = true) : putL (x :: s) r = x :: putL s r := by
  unfold putL
  rw [List.filter_cons_of_pos (p := fun y => lessR y r) h, List.filter_cons_of_neg (p := fun y => lessR r y) (by simp [lessR_asymm h])]
  rfl
theorem base_is (r : R) : ∀ l : List R, Sorted l → baseFrom r l false = putL (l.filter (keepX r)) r
  | [], _ => rfl
  | x :: t, hs => by
    unfold Sorted at hs
    rw [List.pairwise_cons] at hs
    simp only [baseFrom, Bool.not_false, Bool.true_and, Bool.false_or]
    rcases Bool.eq_false_or_eq_true (lessR r x) with h | h
    · rw [if_pos h, h, base_done]
      have hall : ∀ y ∈ (x :: t).filter (keepX r), lessR r y = true := by
        intro y hy
        rcases List.mem_cons.1 (List.mem_filter.1 hy).1 with rfl | hy2
        · exact h
        · exact lessR_trans h (hs.1 y hy2)
      rw [put_front hall]
      rcases Bool.eq_false_or_eq_true (keepX r x) with hk | hk
      · rw [List.filter_cons_of_pos hk, if_pos hk]; rfl
      · rw [List.filter_cons_of_neg (by rw [hk]; decide), if_neg (by rw [hk]; decide)]; rfl
    · rw [if_neg (by rw [h]; decide), h, base_is r t hs.2]
      rcases Bool.eq_false_or_eq_true (keepX r x) with hk | hk
      · have hne : x.p ≠ r.p := by
          unfold keepX at hk
          rw [Bool.and_eq_true, decide_eq_true_eq] at hk
          exact hk.1
        have hless : lessR x r = true := by
          rcases less_or hne with h1 | h1
          · exact h1
          · rw [h1] at h; cases h
        rw [List.filter_cons_of_pos hk, if_pos hk, put_cons hless]; rfl
      · rw [List.filter_cons_of_neg (by rw [hk]; decide), if_neg (by rw [hk]; decide)]; rfl
def baseL (l : List R) (r : R) : List R := baseFrom r l false
theorem mem_base {l : List R} (h : Sorted l) {r x : R} : x ∈ baseL l r ↔ x = r ∨ x ∈ l ∧ x.p ≠ r.p ∧ (r.k = 3 ∨ r.p ∉ ups x.p) := by
  unfold baseL
  rw [base_is r l h, mem_put, List.mem_filter]
  unfold keepX
  simp only [Bool.and_eq_true, Bool.or_eq_true, decide_eq_true_eq, Bool.not_eq_true', isUp_no]
  constructor
  · rintro (h1 | ⟨⟨h1, h2, h3⟩, _⟩)
    · exact .inl h1
    · exact .inr ⟨h1, h2, h3⟩
  · rintro (h1 | ⟨h1, h2, h3⟩)
    · exact .inl h1
    · exact .inr ⟨⟨h1, h2, h3⟩, h2⟩
theorem base_sorted {l : List R} (h : Sorted l) (r : R) : Sorted (baseL l r) := by
  unfold baseL
  rw [base_is r l h]
  exact put_sorted (List.Pairwise.filter _ h) r
theorem not_self {q : ByteArray} (h : pathB q.data.toList = true) : q ∉ ups q := fun hq => by
  have := ups_less h q hq
  rw [lessP_irrefl] at this
  cases this
theorem base_lays {l : List R} (h : Lays l) {r : R} (hr : r.fault = 0) (hhome : parentL r.p.data.toList ≠ [] → ∃ x ∈ l, x.p = parO r.p ∧ x.k = 3) : Lays (baseL l r) := by
  have hrp := (fault_path hr).1
  refine ⟨base_sorted h.sorted r, fun x hx hp => ?_, fun x hx => ?_⟩
  · rcases (mem_base h.sorted).1 hx with rfl | ⟨h1, h2, h3⟩
    · obtain ⟨y, hy, hyp, hyk⟩ := hhome hp
      have hup : parO x.p ∈ ups x.p := by rw [ups_step hrp, if_neg hp]; exact List.mem_cons_self ..
      refine ⟨y, (mem_base h.sorted).2 (.inr ⟨hy, fun e => not_self hrp (by have hh := hup; rw [hyp.symm.trans e] at hh; exact hh), .inr fun hq => ?_⟩), hyp, hyk⟩
      rw [hyp] at hq
      exact not_self (ups_path hrp _ hup) (ups_trans (ups_path hrp _ hup) _ _ hq hup)
    · have hxp := (fault_path (h.fault x h1)).1
      obtain ⟨y, hy, hyp, hyk⟩ := h.housed x h1 hp
      have hup : parO x.p ∈ ups x.p := by rw [ups_step hxp, if_neg hp]; exact List.mem_cons_self ..
      by_cases he : y.p = r.p
      · have hk : r.k = 3 := h3.resolve_right (fun hn => hn (by rw [← he, hyp]; exact hup))
        exact ⟨r, (mem_base h.sorted).2 (.inl rfl), by rw [← he, hyp], hk⟩
      · refine ⟨y, (mem_base h.sorted).2 (.inr ⟨hy, he, ?_⟩), hyp, hyk⟩
        rcases h3 with h3 | h3
        · exact .inl h3
        · refine .inr fun hq => h3 ?_
          rw [hyp] at hq
          exact ups_trans hxp _ _ hup hq
  · rcases (mem_base h.sorted).1 hx with rfl | ⟨h1, _⟩
    · exact hr
    · exact h.fault x h1

/-- The directory that is made above a record. -/
def dirR (q : ByteArray) : R := ⟨3, 493, q, ByteArray.empty, false⟩
theorem dir_fault {q : ByteArray} (h : pathB q.data.toList = true) : (dirR q).fault = 0 := by
  unfold R.fault dirR faultI
  simp [h]
/-- The record's parent is a directory of the list, or there is none. -/
def homed (l : List R) (q : ByteArray) : Bool := decide (parentL q.data.toList = []) || (recAt l (parO q)).any fun x => decide (x.k = 3)
/-- A record put into its place; n bounds how far up directories are made. -/
def lputF : Nat → List R → R → List R
  | 0, l, r => baseL l r
  | n + 1, l, r => baseL (if homed l r.p then l else lputF n l (dirR (parO r.p))) r
def lputL (l : List R) (r : R) : List R := lputF 4 l r
theorem lput_lays : ∀ (n : Nat) {l : List R} {r : R}, Lays l → r.fault = 0 → (cutAt 47 r.p.data.toList).length ≤ n → Lays (lputF n l r) ∧ r ∈ lputF n l r := by
  intro n
  induction n with
  | zero =>
    intro l r _ hr hn
    have := cutAt_pos 47 r.p.data.toList
    omega
  | succ n ih =>
    intro l r hl hr hn
    have hp := (fault_path hr).1
    have key : Lays (if homed l r.p then l else lputF n l (dirR (parO r.p))) ∧ (parentL r.p.data.toList ≠ [] → ∃ x ∈ (if homed l r.p then l else lputF n l (dirR (parO r.p))), x.p = parO r.p ∧ x.k = 3) := by
      by_cases hh : homed l r.p = true
      · rw [if_pos hh]
        refine ⟨hl, fun hpar => ?_⟩
        unfold homed at hh
        rw [decide_eq_false hpar, Bool.false_or] at hh
        cases hrec : recAt l (parO r.p) with
        | none => rw [hrec] at hh; cases hh
        | some x =>
          rw [hrec] at hh
          obtain ⟨hm, hxp⟩ := recAt_mem hrec
          exact ⟨x, hm, hxp, by simpa using hh⟩
      · rw [if_neg hh]
        have hpar : parentL r.p.data.toList ≠ [] := fun e => hh (by unfold homed; rw [decide_eq_true e]; rfl)
        obtain ⟨h1, h2⟩ := parts_parent hp hpar
        obtain ⟨h3, h4⟩ := ih hl (dir_fault h1) (show (cutAt 47 (parO r.p).data.toList).length ≤ n by omega)
        exact ⟨h3, fun _ => ⟨_, h4, rfl, rfl⟩⟩
    exact ⟨base_lays key.1 hr key.2, (mem_base key.1.sorted).2 (.inl rfl)⟩
/-- A layer with a record put into it is a layer, if it is not too long. -/
theorem lput_layer {l : List R} {r : R} (h : layerOK l = true) (hr : r.fault = 0) (hl : (lputL l r).length ≤ 16) : layerOK (lputL l r) = true :=
  (lput_lays 4 (layer_lays h) hr (pathB_parts (fault_path hr).1).1).1.ok hl
end Go.Proofs.YtibekkfbpmloiabGreatDoor.Recs
