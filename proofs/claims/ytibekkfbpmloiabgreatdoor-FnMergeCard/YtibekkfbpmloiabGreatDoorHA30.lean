/- Parts of several texts of mine in one file (each begins with its own remark). -/
import Derived.Test.YtibekkfbpmloiabGreatDoorHA1
import Derived.Test.YtibekkfbpmloiabGreatDoorHA10
import Derived.Test.YtibekkfbpmloiabGreatDoorHA12
import Derived.Test.YtibekkfbpmloiabGreatDoorHA15
import Derived.Test.YtibekkfbpmloiabGreatDoorHA16
import Derived.Test.YtibekkfbpmloiabGreatDoorHA2
import Derived.Test.YtibekkfbpmloiabGreatDoorHA20
import Derived.Test.YtibekkfbpmloiabGreatDoorHA3
import Derived.Test.YtibekkfbpmloiabGreatDoorHA4
import Derived.Test.YtibekkfbpmloiabGreatDoorHA5
import Derived.Test.YtibekkfbpmloiabGreatDoorHA6
import Derived.Test.YtibekkfbpmloiabGreatDoorHA8
import Derived.Test.YtibekkfbpmloiabGreatDoorHA9
import Derived.Test.YtibekkfbpmloiabGreatDoorChecked
import Derived.Test.YtibekkfbpmloiabGreatDoorRows
import Derived.Test.YtibekkfbpmloiabGreatDoorProg
import Derived.Test.YtibekkfbpmloiabGreatDoorShelf
import Derived.Test.YtibekkfbpmloiabGreatDoorShelf2
import Derived.StillTailTactics
import Derived.Laws.OwnMore
import Derived.BigQuiet
import Derived.BigRegion
import Derived.Deep.QuietTactic
import Derived.Deep.RegionHeld3
import Derived.Deep.Slices
import Derived.OpenShut
import Derived.ShutString
import Derived.ChangeArms
import Derived.WideShapes
import Derived.Lib.LaidTab
import Derived.Deep.Draws
import Derived.Deep.LoopGhost
import Derived.WalkKit
import Derived.WalkSpells
import Derived.WalkSmall
import Derived.Lib.OthersKept
import Derived.Lib.Hide
import Derived.Lib.Strings
import Derived.Lib.Join
import Derived.Laws.BytesArg
import Derived.Deep.RegionWith
import Derived.OneCell
import Derived.Lib.SliceRun
import Derived.Lib.Overlaps
import Derived.Lib.AppendZerosOnto
import Derived.Laws.NewBlocks
import Derived.Laws.IdiomCopy
import Derived.Deep.RegionLaw
import Derived.ChangeVars
import Derived.Deep.DeepHandedRow
import Derived.LaidEql
import Derived.Stop.Asserts
import Derived.Below
import Derived.Stop.LaidErr
import Derived.Stop.LaidTwo
import Derived.WalkLawsBesides
import Derived.Laws.AppendOwnNone
import Derived.Maps.RangeWalk
import Derived.Maps.Ext
import Derived.Lib.SlMapFilter
import Derived.Laws.IdiomRangeMap
import Derived.Deep.Cut
import Derived.Deep.CutRange
import Derived.Deep.CutBlock
import Derived.RangeFuncNested
import Derived.RangeFuncBound
import Derived.RangeFuncCalls
import Derived.RangeFuncLeaves
import Derived.RangeFuncBox
import Derived.Shelf.Abstract
import Derived.Shelf.RegionOpen
import Derived.OwnWalkIn
import Derived.TacticsInMore
import Derived.LoopNIn
import Derived.LoopIn
import Derived.Maps.OwnIn
import Derived.Maps.AppendAt
import Derived.Sort.MapsRangeIn
import Derived.Sort.KeysCollected
import Derived.Sort.Grow
import Derived.Deep.AppendLies
import Derived.Laws.EntriesVeiled
import Derived.Shelf.SlSortCmp.NoneTotal
import Derived.Sort.OwnSorted
/- Stacks in memory of their own, of any capacity: what an append leaves; marks in them, and whether the marks are held. -/
namespace Go.Proofs.YtibekkfbpmloiabGreatDoor.Recs
set_option maxRecDepth 100000
open Go.RowKit Paths

/-- A slice of slices of whatever capacity, all in memory of their own: the row of slices from hb on, the rows in it from base on. -/
def StkOwn (w : World) (hb base : Nat) (v : Value) (LL : List (List R)) : Prop :=
  ∃ us : List Value, us.length = LL.length ∧ w.ownsRow hb 27 1 v LL.length us ∧
    (∀ (i : Nat) (u : Value) (l : List R), us[i]? = some u → LL[i]? = some l → RowOf w base u l.length l) ∧
    ∀ (i k : Nat) (u u' : Value) (c : Nat), us[i]? = some u → us[k]? = some u' → u.ownBlock = some c → u'.ownBlock = some c → i = k
theorem rows_apart {w : World} {b b' : Nat} {u v : Value} {n m : Nat} {xs ys : List Value} (h : w.ownsRow b 53 5 u n xs) (k : w.ownsRow b' 27 1 v m ys) : u.ownBlock = none ∨ u.ownBlock ≠ v.ownBlock := by
  rcases k.2 with ⟨rfl, _⟩ | ⟨g, cap, cur, rfl, _, hg, _⟩
  · cases hu : u.ownBlock with
    | none => exact .inl rfl
    | some c => exact .inr (fun e => by cases e)
  · exact .inr (own_not h (by decide) hg)
theorem StkOwn.nil (w : World) (hb base : Nat) : StkOwn w hb base (.slice none 0 0) [] := ⟨[], rfl, World.ownsRow_nil _ _ _ _, fun i u l h => by simp at h, fun i k u u' c h => by simp at h⟩
theorem StkOwn.sl {w : World} {hb base : Nat} {v : Value} {LL : List (List R)} (h : StkOwn w hb base v LL) : StkSl w v LL := by
  obtain ⟨us, hn, ho, h1, _⟩ := h
  have ho2 := ho
  rcases ho.2 with ⟨rfl, h0⟩ | ⟨g, cap, cur, rfl, _, hg, hc, _⟩
  · exact ⟨none, 0, by rw [h0], by omega, fun h => by omega⟩
  · refine ⟨_, cap, rfl, hc, fun _ => ⟨g, 0, rfl, (Array.getElem?_eq_some_iff.1 hg).1, fun i l hi => ?_⟩⟩
    have hlt : i < LL.length := (List.getElem?_eq_some_iff.1 hi).1
    refine ⟨us[i]'(by omega), ?_, (h1 i _ l (List.getElem?_eq_getElem (by omega)) hi).sl⟩
    have := ho2.cellAt i (by omega)
    rw [List.getElem?_eq_getElem (by omega)] at this
    rw [Nat.zero_add]
    exact this
theorem StkOwn.below {w w' : World} {hb base : Nat} {v : Value} {LL : List (List R)} (h : StkOwn w hb base v LL) (hw : Below w.heap.size w w') : StkOwn w' hb base v LL := by
  obtain ⟨us, hn, ho, h1, h2⟩ := h
  exact ⟨us, hn, own_below ho hw, fun i u l hi hl => (h1 i u l hi hl).below hw, h2⟩
/-- One more behind it. -/
theorem stk_snoc {w w9 : World} {hb base : Nat} {v v' x : Value} {LL : List (List R)} {l : List R} {us : List Value} (hn : us.length = LL.length) (ho : w.ownsRow hb 27 1 v LL.length us)
    (h1 : ∀ (i : Nat) (u : Value) (l : List R), us[i]? = some u → LL[i]? = some l → RowOf w base u l.length l)
    (h2 : ∀ (i k : Nat) (u u' : Value) (c : Nat), us[i]? = some u → us[k]? = some u' → u.ownBlock = some c → u'.ownBlock = some c → i = k)
    (hx : RowOf w base x l.length l) (hxa : ∀ (i : Nat) (u : Value) (c : Nat), us[i]? = some u → u.ownBlock = some c → x.ownBlock ≠ some c)
    (hown : w9.ownsRow hb 27 1 v' (LL.length + 1) (us ++ [x])) (hg : w.grownBy w9 v.ownBlock) : StkOwn w9 hb base v' (LL ++ [l]) := by
  refine ⟨us ++ [x], by simp [hn], by rw [List.length_append]; exact hown, fun i u q hi hq => ?_, fun i k u u' c hi hk hc hc' => ?_⟩
  · rcases Nat.lt_or_ge i us.length with hlt | hge
    · rw [List.getElem?_append_left hlt] at hi
      rw [List.getElem?_append_left (by omega)] at hq
      have := h1 i u q hi hq
      exact ⟨rfl, this.2.kept hg (rows_apart this.2 ho)⟩
    · rw [List.getElem?_append_right hge] at hi
      rw [List.getElem?_append_right (by omega)] at hq
      have e : i - us.length = 0 := by
        have := (List.getElem?_eq_some_iff.1 hi).1
        simp at this
        omega
      have e' : i - LL.length = 0 := by omega
      rw [e] at hi
      rw [e'] at hq
      cases hi
      cases hq
      exact ⟨rfl, hx.2.kept hg (rows_apart hx.2 ho)⟩
  · have key : ∀ (j : Nat) (y : Value), (us ++ [x])[j]? = some y → (j < us.length ∧ us[j]? = some y) ∨ (j = us.length ∧ y = x) := by
      intro j y hj
      rcases Nat.lt_or_ge j us.length with hlt | hge
      · rw [List.getElem?_append_left hlt] at hj
        exact .inl ⟨hlt, hj⟩
      · rw [List.getElem?_append_right hge] at hj
        have e : j - us.length = 0 := by
          have := (List.getElem?_eq_some_iff.1 hj).1
          simp at this
          omega
        rw [e] at hj
        cases hj
        exact .inr ⟨by omega, rfl⟩
    rcases key i u hi with ⟨_, h3⟩ | ⟨h3, rfl⟩
    · rcases key k u' hk with ⟨_, h4⟩ | ⟨_, rfl⟩
      · exact h2 i k u u' c h3 h4 hc hc'
      · exact absurd hc' (hxa i u c h3 hc)
    · rcases key k u' hk with ⟨_, h4⟩ | ⟨h4, _⟩
      · exact absurd hc (hxa k u' c h4 hc')
      · omega
end Go.Proofs.YtibekkfbpmloiabGreatDoor.Recs

/- Stacks that are read: parts of them; copies of their layers, of the program. -/
namespace Go.Proofs.YtibekkfbpmloiabGreatDoor.Recs
set_option maxRecDepth 100000
open Go.RowKit Paths

/-- A slice that append can read: nil, or one with an address. -/
def Plain (u : Value) : Prop := u = .slice none 0 0 ∨ ∃ a m c, u = .slice (some a) m c
/-- A slice of such slices that reads as the lists LL. -/
def StkGood (w : World) (v : Value) (LL : List (List R)) : Prop :=
  ∃ A cap, v = .slice A LL.length cap ∧ LL.length ≤ cap ∧ (0 < cap → ∃ b off, A = some ⟨b, off, none⟩ ∧ b < w.heap.size ∧ ∀ (i : Nat) (l : List R), LL[i]? = some l → ∃ u, w.cell? ⟨b, off + i, none⟩ = some u ∧ RecSl w u l ∧ Plain u)
theorem StkGood.sl {w : World} {v : Value} {LL : List (List R)} (h : StkGood w v LL) : StkSl w v LL := by
  obtain ⟨A, cap, rfl, hc, h⟩ := h
  refine ⟨A, cap, rfl, hc, fun hn => ?_⟩
  obtain ⟨b, off, e, hb, hcell⟩ := h (by omega)
  exact ⟨b, off, e, hb, fun i l hi => by obtain ⟨u, h1, h2, _⟩ := hcell i l hi; exact ⟨u, h1, h2⟩⟩
theorem StkGood.below {w w' : World} {v : Value} {LL : List (List R)} (h : StkGood w v LL) (hb : Below w.heap.size w w') : StkGood w' v LL := by
  obtain ⟨A, cap, rfl, hc, h⟩ := h
  refine ⟨A, cap, rfl, hc, fun hn => ?_⟩
  obtain ⟨b, off, e, hlt, hcell⟩ := h hn
  refine ⟨b, off, e, Nat.lt_of_lt_of_le hlt hb.size, fun i l hi => ?_⟩
  obtain ⟨u, h1, h2, h3⟩ := hcell i l hi
  exact ⟨u, (hb.cell (p := ⟨b, off + i, none⟩) hlt).trans h1, h2.below hb, h3⟩
theorem row_plain {w : World} {base : Nat} {v : Value} {n : Nat} {M : List R} (h : RowOf w base v n M) : Plain v := by
  rcases h.2.2 with ⟨e, _⟩ | ⟨g, cap, cur, e, _⟩
  · exact .inl e
  · exact .inr ⟨_, _, _, e⟩
theorem StkRow.good {w : World} {base : Nat} {v : Value} {LL : List (List R)} (h : StkRow w base v LL) : StkGood w v LL := by
  obtain ⟨g, us, rfl, hn, ho, h1, _⟩ := h
  refine ⟨_, _, rfl, Nat.le_refl _, fun hp => ⟨g, 0, rfl, (ho.lt g rfl).2, fun i l hi => ?_⟩⟩
  have hlt : i < LL.length := (List.getElem?_eq_some_iff.1 hi).1
  have hr := (h1 i (us[i]'(by omega)) l hlt (List.getElem?_eq_getElem (by omega)) hi).1
  refine ⟨us[i]'(by omega), ?_, hr.sl, row_plain hr⟩
  have := ho.cellAt i (by omega)
  rw [List.getElem?_eq_getElem (by omega)] at this
  rw [Nat.zero_add]
  exact this
theorem StkGood.take {w : World} {A : Option Addr} {n cap : Nat} {LL : List (List R)} (h : StkGood w (.slice A n cap) LL) {k : Nat} (hk : k ≤ LL.length) : StkGood w (.slice A k cap) (LL.take k) := by
  obtain ⟨A', c, e, hc, h⟩ := h
  cases e
  have hl : (LL.take k).length = k := by rw [List.length_take]; omega
  refine ⟨A, cap, by rw [hl], by rw [hl]; omega, fun h0 => ?_⟩
  obtain ⟨b, off, e, hb, hcell⟩ := h h0
  refine ⟨b, off, e, hb, fun i l hi => hcell i l ?_⟩
  have hik : i < k := by have := (List.getElem?_eq_some_iff.1 hi).1; omega
  rw [List.getElem?_take_of_lt hik] at hi
  exact hi
theorem StkGood.drop {w : World} {b off n cap : Nat} {LL : List (List R)} (h : StkGood w (.slice (some ⟨b, off, none⟩) n cap) LL) {k : Nat} (hk : k ≤ LL.length) (hkc : k < cap) : StkGood w (.slice (some ⟨b, off + k, none⟩) (n - k) (cap - k)) (LL.drop k) := by
  obtain ⟨A', c, e, hc, h⟩ := h
  cases e
  have hl : (LL.drop k).length = LL.length - k := List.length_drop
  refine ⟨_, _, by rw [hl], by rw [hl]; omega, fun h0 => ?_⟩
  obtain ⟨b', off', e, hb, hcell⟩ := h (by omega)
  cases e
  refine ⟨b, off + k, rfl, hb, fun i l hi => ?_⟩
  rw [List.getElem?_drop] at hi
  have := hcell (k + i) l hi
  rw [Nat.add_assoc]
  exact this
end Go.Proofs.YtibekkfbpmloiabGreatDoor.Recs

/- Two stacks of their own memory in one. -/
namespace Go.Proofs.YtibekkfbpmloiabGreatDoor.Recs
set_option maxRecDepth 100000
open Go.RowKit Paths

theorem StkOwn.down {w : World} {hb hb' base base' : Nat} {v : Value} {LL : List (List R)} (h : StkOwn w hb base v LL) (h0 : hb' ≤ hb) (hd : base' ≤ base) : StkOwn w hb' base' v LL := by
  obtain ⟨us, hn, ho, h1, h2⟩ := h
  exact ⟨us, hn, own_down ho h0, fun i u l hi hl => ⟨(h1 i u l hi hl).1, own_down (h1 i u l hi hl).2 hd⟩, h2⟩
end Go.Proofs.YtibekkfbpmloiabGreatDoor.Recs

/- Replaced, plain; of the model. -/
namespace Go.Proofs.YtibekkfbpmloiabGreatDoor.Recs
set_option maxRecDepth 100000
open Go.RowKit Paths

/-- A part of a stack that is read: its address as the machine lays it. -/
theorem StkGood.part {w : World} {A : Option Addr} {n cap : Nat} {LL : List (List R)} (h : StkGood w (.slice A n cap) LL) {f t : Nat} (hf : f ≤ t) (ht : t ≤ LL.length) :
    (cap = f → StkGood w (.slice A (t - f) (cap - f)) ((LL.take t).drop f)) ∧ (cap ≠ f → ∃ b off, A = some ⟨b, off, none⟩ ∧ StkGood w (.slice (some ⟨b, off + f, none⟩) (t - f) (cap - f)) ((LL.take t).drop f)) := by
  have hg := h
  obtain ⟨A', c, e, hc, h⟩ := h
  cases e
  have htl : (LL.take t).length = t := by rw [List.length_take]; omega
  have hl : ((LL.take t).drop f).length = t - f := by rw [List.length_drop, htl]
  refine ⟨fun hcf => ⟨_, _, by rw [hl], by rw [hl]; omega, fun h0 => by omega⟩, fun hcf => ?_⟩
  obtain ⟨b, off, rfl, hb, hcell⟩ := h (by omega)
  refine ⟨b, off, rfl, ?_⟩
  have h1 := (hg.take (k := t) ht).drop (k := f) (by rw [htl]; exact hf) (by omega)
  exact h1
end Go.Proofs.YtibekkfbpmloiabGreatDoor.Recs

/- A tree as a map of paths: what the map in memory holds, and what a store, a deletion and a sweep make of it. -/
namespace Go.Proofs.YtibekkfbpmloiabGreatDoor.Recs
set_option maxRecDepth 100000
open Go.RowKit Paths Go.ChangeMaps

theorem bytes_eq {a b : ByteArray} (h : a.data.toList = b.data.toList) : a = b := by
  cases a; cases b
  simp only [Array.toList_inj] at h
  rw [h]

/-- How a node reads as an element of a map. -/
def nodD (r : R) : DataW Unit := .agg [.lit (.int .i64 r.k), .lit (.string r.p.data.toList), .lit (.string r.b.data.toList), .lit (.int .i64 r.m)]
def readN : Value → Option (DataW Unit × List MemPlace)
  | .agg cs => match cs.toList with
    | [.int .i64 k, .string p, .string b, .int .i64 m] => some (nodD ⟨k, m, p, b, false⟩, [])
    | _ => none
  | _ => none
def kd (r : R) : Lit × DataW Unit := (.string r.p.data.toList, nodD r)
/-- Block b is a map whose elements are the nodes t, each under its path. -/
def MapT (w : World) (b n : Nat) (t : List R) : Prop :=
  (∃ es, w.ownsMap Tryz.prog 9 readN b n (.map es) ∧ ∀ p, p ∈ es ↔ ∃ x ∈ t, p = kd x) ∧ ∀ x ∈ t, x.o = false
theorem MapT.made (w : World) : MapT (w.alloc (.map #[] 0)) w.heap.size 0 [] :=
  ⟨⟨[], World.ownsMap_made w _ _ _, fun p => by simp⟩, fun x hx => by cases hx⟩
theorem MapT.congr {w : World} {b n : Nat} {t t' : List R} (h : MapT w b n t) (he : ∀ x, x ∈ t' ↔ x ∈ t) : MapT w b n t' := by
  obtain ⟨⟨es, h1, h2⟩, h3⟩ := h
  exact ⟨⟨es, h1, fun p => (h2 p).trans ⟨fun ⟨x, hx, e⟩ => ⟨x, (he x).2 hx, e⟩, fun ⟨x, hx, e⟩ => ⟨x, (he x).1 hx, e⟩⟩⟩, fun x hx => h3 x ((he x).1 hx)⟩
theorem MapT.kept {w w' : World} {b n : Nat} {t : List R} {row : Option Nat} (h : MapT w b n t) (hg : w.grownBy w' row) (hne : some b ≠ row) : MapT w' b n t := by
  obtain ⟨⟨es, h1, h2⟩, h3⟩ := h
  exact ⟨⟨es, h1.kept hg hne, h2⟩, h3⟩
theorem MapT.mono {w : World} {b n n' : Nat} {t : List R} (h : MapT w b n t) (hn : n ≤ n') : MapT w b n' t := by
  obtain ⟨⟨es, h1, h2⟩, h3⟩ := h
  exact ⟨⟨es, h1.mono hn, h2⟩, h3⟩
theorem MapT.lt {w : World} {b n : Nat} {t : List R} (h : MapT w b n t) : b < w.heap.size := by
  obtain ⟨⟨es, h1, h2⟩, h3⟩ := h
  exact h1.lt
theorem below_grown {w w' : World} (h : Below w.heap.size w w') : w.grownBy w' none := ⟨h.os, h.tape, h.output, h.size, fun k hk _ => h.block k hk⟩
theorem MapT.below {w w' : World} {b n : Nat} {t : List R} (h : MapT w b n t) (hb : Below w.heap.size w w') : MapT w' b n t := h.kept (below_grown hb) (by simp)

theorem same_str {l m : List UInt8} : (Lit.string l).sameKey (.string m) = true ↔ l = m :=
  ⟨fun h => by have := WideAt.sameKey_eq h; cases this; rfl, fun h => by rw [h]; exact WideAt.sameKey_self trivial⟩
theorem kd_key {x : R} {q : ByteArray} : (kd x).1.sameKey (.string q.data.toList) = decide (x.p = q) := by
  rw [Bool.eq_iff_iff, kd, same_str, decide_eq_true_iff]
  exact ⟨bytes_eq, fun e => by rw [e]⟩
theorem MapT.put {w' : World} {b n : Nat} {es : List (Lit × DataW Unit)} {t : List R} (r : R) (hes : ∀ p, p ∈ es ↔ ∃ x ∈ t, p = kd x) (ht : ∀ x ∈ t, x.o = false) (hr : r.o = false)
    (ho : w'.ownsMap Tryz.prog 9 readN b n ((DataW.map es).put (.string r.p.data.toList) (nodD r))) : MapT w' b n (r :: t.filter fun x => decide (x.p ≠ r.p)) := by
  refine ⟨⟨_, ho, fun p => ?_⟩, fun x hx => ?_⟩
  · show p ∈ putKey _ _ es ↔ _
    unfold putKey
    rw [mem_insert_iff, List.mem_filter, hes]
    constructor
    · rintro (rfl | ⟨⟨x, hx, rfl⟩, hn⟩)
      · exact ⟨r, List.mem_cons_self, rfl⟩
      · refine ⟨x, List.mem_cons_of_mem _ (List.mem_filter.2 ⟨hx, ?_⟩), rfl⟩
        rw [notKey, kd_key] at hn
        simpa using hn
    · rintro ⟨x, hx, rfl⟩
      rcases List.mem_cons.1 hx with rfl | hx
      · exact .inl rfl
      · obtain ⟨h1, h2⟩ := List.mem_filter.1 hx
        refine .inr ⟨⟨x, h1, rfl⟩, ?_⟩
        rw [notKey, kd_key]
        simpa using h2
  · rcases List.mem_cons.1 hx with rfl | hx
    · exact hr
    · exact ht x (List.mem_filter.1 hx).1
end Go.Proofs.YtibekkfbpmloiabGreatDoor.Recs

/- The program's map of paths: a layer applied to it. -/
namespace Go.Proofs.YtibekkfbpmloiabGreatDoor.Recs
set_option maxRecDepth 100000
open Go.RowKit Paths

theorem MapT.nocell {w : World} {b n : Nat} {t : List R} (h : MapT w b n t) (off : Nat) : w.cell? ⟨b, off, none⟩ = none := by
  obtain ⟨⟨_, ⟨es, clock, hb, _⟩, _⟩, _⟩ := h
  simp [World.cell?, hb]
theorem cell_turned {w w' : World} {b n : Nat} {t : List R} (hg : w.grownBy w' (some b)) (hm : MapT w b n t) {g off : Nat} {u : Value} (h : w.cell? ⟨g, off, none⟩ = some u) : w'.cell? ⟨g, off, none⟩ = some u :=
  hg.cell h (fun e => by cases e; rw [hm.nocell] at h; cases h)
theorem RecSl.turned {w w' : World} {v : Value} {L : List R} {b n : Nat} {t : List R} (h : RecSl w v L) (hg : w.grownBy w' (some b)) (hm : MapT w b n t) : RecSl w' v L := by
  obtain ⟨A, cap, rfl, hc, h⟩ := h
  refine ⟨A, cap, rfl, hc, fun hn => ?_⟩
  obtain ⟨g, off, rfl, hlt, hcell⟩ := h hn
  refine ⟨g, off, rfl, Nat.lt_of_lt_of_le hlt hg.size, fun i r hi => ?_⟩
  obtain ⟨h0, h1, h2, h3, h4⟩ := hcell i r hi
  exact ⟨cell_turned hg hm h0, cell_turned hg hm h1, cell_turned hg hm h2, cell_turned hg hm h3, cell_turned hg hm h4⟩
theorem box_cells (w : World) (r : R) (t : TypeId) : RecCells (w.alloc (.cells #[.int .i64 r.k, .string r.p, .string r.b, .int .i64 r.m, .bool r.o] t)) w.heap.size 0 r := by
  have h := rec_cells_new w r t
  exact ⟨h 0 _ rfl, h 1 _ rfl, h 2 _ rfl, h 3 _ rfl, h 4 _ rfl⟩
theorem RecCells.turned {w w' : World} {g off b n : Nat} {r : R} {t : List R} (h : RecCells w g off r) (hg : w.grownBy w' (some b)) (hm : MapT w b n t) : RecCells w' g off r := by
  obtain ⟨h0, h1, h2, h3, h4⟩ := h
  exact ⟨cell_turned hg hm h0, cell_turned hg hm h1, cell_turned hg hm h2, cell_turned hg hm h3, cell_turned hg hm h4⟩
theorem RecCells.grown {w w' : World} {g off b : Nat} {r : R} (h : RecCells w g off r) (hg : w.grownBy w' (some b)) (hne : g ≠ b) : RecCells w' g off r := by
  obtain ⟨h0, h1, h2, h3, h4⟩ := h
  have hn : ∀ o : Nat, some (⟨g, o, none⟩ : Addr).block ≠ some b := fun o e => hne (by cases e; rfl)
  exact ⟨hg.cell h0 (hn _), hg.cell h1 (hn _), hg.cell h2 (hn _), hg.cell h3 (hn _), hg.cell h4 (hn _)⟩
end Go.Proofs.YtibekkfbpmloiabGreatDoor.Recs

/- Trees: a node put into its place, of the model. -/
namespace Go.Proofs.YtibekkfbpmloiabGreatDoor.Recs
set_option maxRecDepth 100000
open Go.RowKit Paths

/-- A block that holds one node. -/
def Item (w : World) (g : Nat) (n : R) : Prop := w.heap[g]? = some (.cells #[.int .i64 n.k, .string n.p, .string n.b, .int .i64 n.m] 68 (0, 0))
theorem Item.new (w : World) (n : R) : Item (w.alloc (.cells #[.int .i64 n.k, .string n.p, .string n.b, .int .i64 n.m] 68)) w.heap.size n := alloc_at w _
theorem Item.lt {w : World} {g : Nat} {n : R} (h : Item w g n) : g < w.heap.size := (Array.getElem?_eq_some_iff.1 h).1
theorem Item.below {w w' : World} {g : Nat} {n : R} (h : Item w g n) (hb : Below w.heap.size w w') : Item w' g n := (hb.block _ h.lt).trans h
theorem Item.grown {w w' : World} {g : Nat} {n : R} {row : Option Nat} (h : Item w g n) (hg : w.grownBy w' row) (hne : row ≠ some g) : Item w' g n := (hg.block g h.lt (fun e => hne e.symm)).trans h
theorem Item.cells {w : World} {g : Nat} {n : R} (h : Item w g n) : ∀ j u, n.ns[j]? = some u → w.cell? ((⟨g, 0, none⟩ : Addr).add j) = some u := by
  intro j u hj
  rw [Addr.add_lit, Nat.zero_add]
  unfold World.cell?
  unfold Item at h
  simp only [h]
  match j, hj with
  | 0, hj => cases hj; rfl
  | 1, hj => cases hj; rfl
  | 2, hj => cases hj; rfl
  | 3, hj => cases hj; rfl
  | j + 4, hj => simp [R.ns] at hj
end Go.Proofs.YtibekkfbpmloiabGreatDoor.Recs

/- The program's map of paths: the library's iterator over its values, and these values appended to a slice. -/
namespace Go.Proofs.YtibekkfbpmloiabGreatDoor.Recs
set_option maxRecDepth 100000
open Go.RowKit Paths Go.Shelf
attribute [local go_sem] Oper.semAt_some

/-- What has come of the nodes t: those that are not left. -/
def Coll (t : List R) (left : Lit → Bool) (ps : List R) : Prop := ps.Nodup ∧ ∀ x, x ∈ ps ↔ x ∈ t ∧ left (kd x).1 = false
def AllT (t ps : List R) : Prop := ps.Nodup ∧ ∀ x, x ∈ ps ↔ x ∈ t
theorem Coll.start {es : List (Lit × DataW Unit)} {t : List R} (hes : ∀ p, p ∈ es ↔ ∃ x ∈ t, p = kd x) : Coll t (Maps.has (.map es)) [] := by
  refine ⟨List.nodup_nil, fun x => ⟨(fun h => by cases h), fun ⟨hx, hl⟩ => ?_⟩⟩
  have : Maps.has (DataW.map es) (kd x).1 = true := List.any_eq_true.2 ⟨kd x, (hes _).2 ⟨x, hx, rfl⟩, WideAt.sameKey_self trivial⟩
  rw [this] at hl
  cases hl
theorem Coll.all {t ps : List R} {left : Lit → Bool} (h : Coll t left ps) (hl : ∀ kl, left kl = false) : AllT t ps := ⟨h.1, fun x => by rw [h.2 x, hl]; simp⟩
end Go.Proofs.YtibekkfbpmloiabGreatDoor.Recs

/- PartOK and splitPath of the program: what they leave, and that nothing drawn is given back. -/
namespace Go.Proofs.YtibekkfbpmloiabGreatDoor.Paths
open Go.RowKit

/-- New memory only, and nothing drawn is given back. -/
structure Bel (B : Nat) (w w' : World) : Prop where
  b : Below B w w'
  d : w.drawn ≤ w'.drawn
theorem Bel.refl (B : Nat) (w : World) : Bel B w w := ⟨Below.refl _ _, Nat.le_refl _⟩
theorem Bel.trans {B : Nat} {a b c : World} (h : Bel B a b) (k : Bel B b c) : Bel B a c := ⟨h.b.trans k.b, Nat.le_trans h.d k.d⟩
theorem Bel.mono {B B' : Nat} {w w' : World} (h : Bel B w w') (hB : B' ≤ B) : Bel B' w w' := ⟨h.b.mono hB, h.d⟩
theorem Bel.alloc {B : Nat} {a w : World} (h : Bel B a w) (hB : B ≤ w.heap.size) (o : Obj) : Bel B a (w.alloc o) := ⟨h.b.alloc hB o, h.d⟩
theorem Bel.size {B : Nat} {a w : World} (h : Bel B a w) : a.heap.size ≤ w.heap.size := h.b.size
theorem Bel.grown {B : Nat} {a w w' : World} {row : Option Nat} (h : Bel B a w) (hg : w.grownBy w' row) (hd : w.drawn ≤ w'.drawn) (hB : B ≤ w.heap.size) (hr : ∀ k, row = some k → B ≤ k) : Bel B a w' :=
  ⟨h.b.grown hg hB hr, Nat.le_trans h.d hd⟩
/-- The same, as the world grown by new blocks. -/
theorem Bel.world {w w' : World} (h : Bel w.heap.size w w') : ∃ q os, w' = Go.Sort.grow (w.drewN q) os := by
  refine ⟨w'.drawn - w.drawn, w'.heap.extract w.heap.size w'.heap.size, ?_⟩
  obtain ⟨⟨ho, ht, hou, hs, hb⟩, hd⟩ := h
  obtain ⟨h', t', d', o', u'⟩ := w'
  obtain ⟨h0, t0, d0, o0, u0⟩ := w
  simp only at ho ht hou hs hb hd
  subst ho ht hou
  have hd' : d0 + (d' - d0) = d' := by omega
  have hh : h' = h0 ++ h'.extract h0.size h'.size := by
    apply Array.ext_getElem?
    intro i
    by_cases hi : i < h0.size
    · rw [Array.getElem?_append_left hi]
      exact hb i hi
    · rw [Array.getElem?_append_right (by omega), Array.getElem?_extract]
      by_cases hi2 : i < h'.size
      · rw [if_pos (by omega)]
        congr 1
        omega
      · rw [if_neg (by omega)]
        exact Array.getElem?_eq_none (by omega)
  unfold Go.Sort.grow World.drewN
  simp only [World.mk.injEq, hd', and_true]
  exact hh
def SplitBel (l : List UInt8) (w w' : World) (v : Value) : Prop :=
  Bel w.heap.size w w' ∧ w'.ownsRow w.heap.size 9 1 v (partsOf l).length ((partsOf l).map strV) ∧ (pathB l = false → v = .slice none 0 0) ∧ (pathB l = true → v ≠ .slice none 0 0)

theorem SplitBel.bad {l : List UInt8} {w w' : World} (h : pathB l = false) (hb : Bel w.heap.size w w') : SplitBel l w w' (.slice none 0 0) := by
  refine ⟨hb, ?_, fun _ => rfl, fun h2 => by rw [h] at h2; cases h2⟩
  simp [partsOf, h]
  exact World.ownsRow_nil _ _ _ _

theorem SplitBel.good {l : List UInt8} {P : List (List UInt8)} {R : ByteArray} {w w' : World} {v : Value} (h : cutAt 47 l = P ++ cutAt 47 R.data.toList) (hP : P.length < 4) (ha : P.all partB = true) (hB : partB R.data.toList = true)
    (hb : Bel w.heap.size w w') (hown : w'.ownsRow w.heap.size 9 1 v (P.length + 1) (P.map strV ++ [.string R])) (hn : v ≠ .slice none 0 0) : SplitBel l w w' v := by
  obtain ⟨h1, h2⟩ := pathB_good h hP ha hB
  refine ⟨hb, ?_, fun h3 => (by rw [h1] at h3; cases h3), fun _ => hn⟩
  unfold partsOf
  rw [if_pos h1, h2]
  simpa [strV_data] using hown

end Go.Proofs.YtibekkfbpmloiabGreatDoor.Paths

/- Trees: the place of a path, comparison of two, of the model. DRAFT (made out of the texts on records; not built yet: no seat had nodes). -/
namespace Go.Proofs.YtibekkfbpmloiabGreatDoor.Recs
set_option maxRecDepth 100000
open Go.RowKit Paths

theorem NodSl.take {w : World} {A : Option Addr} {cap : Nat} {l : List R} {k : Nat} (h : NodSl w (.slice A l.length cap) l) (hk : k ≤ l.length) : NodSl w (.slice A k cap) (l.take k) := by
  obtain ⟨ho, A', cap', e, hc, h⟩ := h
  cases e
  refine ⟨fun r hr => ho r (List.mem_of_mem_take hr), A, cap, by rw [List.length_take, Nat.min_eq_left hk], by rw [List.length_take]; omega, fun hn => ?_⟩
  rw [List.length_take] at hn
  obtain ⟨b, off, e, hb, hcell⟩ := h (by omega)
  refine ⟨b, off, e, hb, fun j p hj => hcell j p ?_⟩
  rw [List.getElem?_take] at hj
  split at hj
  · exact hj
  · cases hj
/-- Two nodes are alike, or one field is the first that is not. -/
theorem four (x y : R) : (x.k == y.k) = false ∨ ((x.k == y.k) = true ∧ (x.p.toList == y.p.toList) = false) ∨ ((x.k == y.k) = true ∧ (x.p.toList == y.p.toList) = true ∧ (x.b.toList == y.b.toList) = false) ∨
    ((x.k == y.k) = true ∧ (x.p.toList == y.p.toList) = true ∧ (x.b.toList == y.b.toList) = true ∧ (x.m == y.m) = false) ∨ ((x.k == y.k) = true ∧ (x.p.toList == y.p.toList) = true ∧ (x.b.toList == y.b.toList) = true ∧ (x.m == y.m) = true) := by
  cases (x.k == y.k) <;> cases (x.p.toList == y.p.toList) <;> cases (x.b.toList == y.b.toList) <;> cases (x.m == y.m) <;> simp

end Go.Proofs.YtibekkfbpmloiabGreatDoor.Recs

/- Trees: ListDir, of the program and of its model. Conditions (of the program's): the table of kinds, the two sentinels. -/
namespace Go.Proofs.YtibekkfbpmloiabGreatDoor.Recs
set_option maxRecDepth 100000
open Go.RowKit Paths Errs

theorem cut_last {p : ByteArray} {w : World} {g : Nat} (h : ∀ i (hi : i < (cutAt 47 p.data.toList).length), w.cell? ⟨g, i, none⟩ = some (strV (cutAt 47 p.data.toList)[i])) : w.cell? ⟨g, (cutAt 47 p.data.toList).length - 1, none⟩ = some (.string (lastB p)) := by
  have hp := cutAt_pos 47 p.data.toList
  rw [h _ (by omega), last_cell hp]

end Go.Proofs.YtibekkfbpmloiabGreatDoor.Recs

/- A tree in memory: a node taken out, with all that is below it. -/
namespace Go.Proofs.YtibekkfbpmloiabGreatDoor.Recs
set_option maxRecDepth 100000
open Go.RowKit Paths

theorem ups_nil : ups ByteArray.empty = [] := by decide
section
variable {base : Nat} {A : ByteArray → Nat} {S : ByteArray → Value} {t : List R} {x : R} {q : ByteArray}
/-- Those directly below one that stay without a last part. -/
def kidsBut (t : List R) (p q : ByteArray) : List R := (kids t p).filter fun c => !decide (lastB c.p = lastB q)
theorem Tr.cut {W w9 : World} (h : Tr W base A S t) (ht : IsTree t) (hq : pathB q.data.toList = true) (hx : x ∈ rootR :: t) (hxp : x.p = parO q) {v' : Value}
    (hown : w9.ownsRow base 146 1 v' (kidsBut t x.p q).length (ptrs A (kidsBut t x.p q)))
    (hgrow : W.grownBy w9 (S x.p).ownBlock) (hwh : v'.ownBlock = (S x.p).ownBlock) :
    Tr (w9.setCell ⟨A x.p, 5, none⟩ v') base A (fun p => if p = x.p then v' else S p) (withoutL t q true) := by
  have hs := ht.sorted
  have hpath := ht.path
  have hmem : ∀ r, r ∈ rootR :: withoutL t q true → r ∈ rootR :: t ∧ r.p ≠ q ∧ q ∉ ups r.p := fun r hr => by
    rcases List.mem_cons.1 hr with rfl | hr
    · refine ⟨root_mem, fun e => path_nonempty hq e.symm, ?_⟩
      rw [rootR_p, ups_nil]
      simp
    · obtain ⟨h1, h2, h3⟩ := mem_without.1 hr
      exact ⟨List.mem_cons_of_mem _ h1, h3 rfl, h2⟩
  have hb9 : ∀ r ∈ rootR :: t, w9.heap[A r.p]? = W.heap[A r.p]? := fun r hr => hgrow.block _ (h.lt hr) (fun e => h.apart_row hr hx e.symm)
  have hvx : v'.ownBlock ≠ some (A x.p) := by rw [hwh]; exact h.apart_row hx hx
  have hkid : ∀ r ∈ rootR :: withoutL t q true, kids (withoutL t q true) r.p = if r.p = x.p then kidsBut t x.p q else kids t r.p := fun r hr => by
    obtain ⟨_, h2, h3⟩ := hmem r hr
    rw [kids_without hpath hq ⟨h2, h3⟩]
    by_cases he : r.p = x.p
    · rw [if_pos he, he, hxp]
      unfold kidsBut
      simp
    · rw [if_neg he]
      have : ¬ parO q = r.p := fun e => he (by rw [hxp, e])
      simp [this]
  refine ⟨fun r hr => ?_, fun r hr => h.own r (hmem r hr).1, fun r hr => ?_, fun r hr y hy hne g hg => ?_⟩
  · have hrt := (hmem r hr).1
    by_cases he : r.p = x.p
    · obtain rfl := dom_once hs hpath hrt hx he
      rw [if_pos rfl, setCell_block ((hb9 r hrt).trans (h.block r hrt)) 5 v']
      rfl
    · rw [if_neg he, Below.heap_setCell _ _ _ _ (fun e => he (h.inj hrt hx e)), hb9 r hrt]
      exact h.block r hrt
  · have hrt := (hmem r hr).1
    rw [hkid r hr]
    by_cases he : r.p = x.p
    · rw [if_pos he, if_pos he]
      exact ownsRow_setCell_other hown hvx _
    · rw [if_neg he, if_neg he]
      have hk := (h.row r hrt).kept hgrow (by
        cases hc : (S r.p).ownBlock with
        | none => exact .inl rfl
        | some g => exact .inr fun e => h.apart r hrt x hx he g hc e.symm)
      exact ownsRow_setCell_other hk (h.apart_row hx hrt) _
  · have hrt := (hmem r hr).1
    have hyt := (hmem y hy).1
    by_cases her : r.p = x.p
    · have hey : y.p ≠ x.p := fun e => hne (her.trans e.symm)
      rw [if_pos her, hwh] at hg
      rw [if_neg hey]
      exact h.apart x hx y hyt (fun e => hey e.symm) g hg
    · rw [if_neg her] at hg
      by_cases hey : y.p = x.p
      · rw [if_pos hey, hwh]
        exact h.apart r hrt x hx her g hg
      · rw [if_neg hey]
        exact h.apart r hrt y hyt hne g hg
end
end Go.Proofs.YtibekkfbpmloiabGreatDoor.Recs

/- A tree in memory: remove, of the program. -/
namespace Go.Proofs.YtibekkfbpmloiabGreatDoor.Recs
set_option maxRecDepth 100000
open Go.RowKit Paths

theorem str_eq_dec (a b : ByteArray) : (a.toList == b.toList) = decide (a = b) := by
  by_cases h : a = b
  · subst h; simp
  · rw [decide_eq_false h, Bool.eq_false_iff]
    exact fun e => h (str_eq_of e)
end Go.Proofs.YtibekkfbpmloiabGreatDoor.Recs

/- Applying layers to trees, of the model: a record, a layer, a stack. -/
namespace Go.Proofs.YtibekkfbpmloiabGreatDoor.Recs
set_option maxRecDepth 100000
open Go.RowKit Paths

theorem put_le (t : List R) (n : R) : (putL t n).length ≤ t.length + 1 := by
  unfold putL
  rw [List.length_append, List.length_cons]
  have h : ∀ l : List R, (l.filter fun x => lessR x n).length + (l.filter fun x => lessR n x).length ≤ l.length := by
    intro l
    induction l with
    | nil => simp
    | cons x l ih =>
      have hx : ¬ (lessR x n = true ∧ lessR n x = true) := fun ⟨h1, h2⟩ => by
        unfold lessR at h1 h2
        rw [lessP_asymm _ _ h1] at h2
        cases h2
      rw [List.filter_cons, List.filter_cons, List.length_cons]
      by_cases h1 : lessR x n = true
      · by_cases h2 : lessR n x = true
        · exact absurd ⟨h1, h2⟩ hx
        · rw [if_pos h1, if_neg h2, List.length_cons]; omega
      · by_cases h2 : lessR n x = true
        · rw [if_neg h1, if_pos h2, List.length_cons]; omega
        · rw [if_neg h1, if_neg h2]; omega
  have := h t
  omega
end Go.Proofs.YtibekkfbpmloiabGreatDoor.Recs

/- Applying layers to trees, of the model: a layer, a stack. -/
namespace Go.Proofs.YtibekkfbpmloiabGreatDoor.Recs
set_option maxRecDepth 100000
open Go.RowKit Paths

theorem RowN.down {w : World} {base base' : Nat} {v : Value} {n : Nat} {M : List R} (h : RowN w base v n M) (hb : base' ≤ base) : RowN w base' v n M := ⟨h.1, own_down h.2.1 hb, h.2.2⟩
end Go.Proofs.YtibekkfbpmloiabGreatDoor.Recs

/- Apply, Changes of the program. Conditions: the table of kinds, the two sentinels. -/
namespace Go.Proofs.YtibekkfbpmloiabGreatDoor.Recs
set_option maxRecDepth 100000
open Go.RowKit Paths Errs

theorem RecSl.form {w : World} {v : Value} {l : List R} (h : RecSl w v l) : ∃ A cap, v = .slice A l.length cap := by
  obtain ⟨A, cap, rfl, _⟩ := h
  exact ⟨A, cap, rfl⟩
end Go.Proofs.YtibekkfbpmloiabGreatDoor.Recs

/- Stacks of drawn layers, plain: combining all, in one pass or in parts; a part replaced by its combination. -/
namespace Go.Proofs.YtibekkfbpmloiabGreatDoor.Recs
open Go.RowKit Paths

theorem stk_small {LL : List (List R)} (h5 : LL.length ≤ 5) (h : ∀ l ∈ LL, layerOK l = true) : stackOK LL = true ∧ codeS LL = 0 := by
  have hs : stackOK LL = true := by
    unfold stackOK
    rw [Bool.and_eq_true, decide_eq_true_eq, List.all_eq_true]
    exact ⟨h5, h⟩
  refine ⟨hs, ?_⟩
  unfold codeS
  rw [if_neg (by omega), if_pos hs]
end Go.Proofs.YtibekkfbpmloiabGreatDoor.Recs
