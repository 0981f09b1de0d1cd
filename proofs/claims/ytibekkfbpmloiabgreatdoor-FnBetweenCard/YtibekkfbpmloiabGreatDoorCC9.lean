/- Parts of several texts of mine in one file (each begins with its own remark). -/
import Derived.Test.YtibekkfbpmloiabGreatDoorCA1
import Derived.Test.YtibekkfbpmloiabGreatDoorCA14
import Derived.Test.YtibekkfbpmloiabGreatDoorCA15
import Derived.Test.YtibekkfbpmloiabGreatDoorCA16
import Derived.Test.YtibekkfbpmloiabGreatDoorCA18
import Derived.Test.YtibekkfbpmloiabGreatDoorCA2
import Derived.Test.YtibekkfbpmloiabGreatDoorCA20
import Derived.Test.YtibekkfbpmloiabGreatDoorCA22
import Derived.Test.YtibekkfbpmloiabGreatDoorCA3
import Derived.Test.YtibekkfbpmloiabGreatDoorCA4
import Derived.Test.YtibekkfbpmloiabGreatDoorCA5
import Derived.Test.YtibekkfbpmloiabGreatDoorCA6
import Derived.Test.YtibekkfbpmloiabGreatDoorCA7
import Derived.Test.YtibekkfbpmloiabGreatDoorCA9
import Derived.Test.YtibekkfbpmloiabGreatDoorCC1
import Derived.Test.YtibekkfbpmloiabGreatDoorCC6
import Derived.Test.YtibekkfbpmloiabGreatDoorCC8
import Derived.Test.YtibekkfbpmloiabGreatDoorChecked
import Derived.Test.YtibekkfbpmloiabGreatDoorShelf
import Derived.Test.YtibekkfbpmloiabGreatDoorProg
import Derived.Test.YtibekkfbpmloiabGreatDoorRows
import Derived.Deep.Slices
import Derived.OpenShut
import Derived.ShutString
import Derived.ChangeArms
import Derived.WideShapes
import Derived.Lib.LaidTab
import Derived.BigQuiet
import Derived.Deep.QuietTactic
import Derived.Deep.RegionHeld3
import Derived.StillTailTactics
import Derived.Deep.Draws
import Derived.Deep.LoopGhost
import Derived.WalkKit
import Derived.WalkSpells
import Derived.WalkSmall
import Derived.Lib.OthersKept
import Derived.Lib.Hide
import Derived.Lib.Strings
import Derived.Lib.Join
import Derived.WalkLawsBesides
import Derived.Laws.BytesArg
import Derived.Laws.OwnMore
import Derived.BigRegion
import Derived.Stop.LaidErr
import Derived.LaidEql
import Derived.Stop.Asserts
import Derived.Below
import Derived.Stop.LaidTwo
import Derived.Deep.RegionWith
import Derived.Laws.AppendOwnNone
import Derived.RegionTactic
import Derived.ChangeVars
import Derived.Deep.DeepHandedRow
import Derived.RangeFuncNested
import Derived.RangeFuncBound
import Derived.RangeFuncCalls
import Derived.RangeFuncLeaves
import Derived.RangeFuncBox
import Derived.Shelf.Abstract
import Derived.Shelf.RegionOpen
import Derived.OwnWalkIn
import Derived.TacticsInMore
import Derived.LoopNIn
import Derived.LoopIn
import Derived.OneCell
import Derived.Lib.SliceRun
import Derived.Lib.Overlaps
import Derived.Lib.AppendZerosOnto
import Derived.Laws.NewBlocks
import Derived.Laws.IdiomCopy
import Derived.Deep.RegionLaw
/- Differences of trees, plain: the layer between two trees, as the program gathers it and as its model does; what it does. -/
namespace Go.Proofs.YtibekkfbpmloiabGreatDoor.Recs
set_option maxRecDepth 100000
open Go.RowKit Paths

def whiteR (q : ByteArray) : R := ⟨4, 0, q, ByteArray.empty, false⟩
/-- What a layer says of a path that is to be as in the tree B. -/
def recB (B : List R) (q : ByteArray) : R := match recAt B q with
  | some n => nodeOf n
  | none => whiteR q
theorem recB_some {B : List R} {q : ByteArray} {n : R} (h : recAt B q = some n) : recB B q = nodeOf n := by unfold recB; rw [h]
theorem recB_none {B : List R} {q : ByteArray} (h : recAt B q = none) : recB B q = whiteR q := by unfold recB; rw [h]
theorem recB_p (B : List R) (q : ByteArray) : (recB B q).p = q := by
  cases h : recAt B q with
  | none => rw [recB_none h]; rfl
  | some n => rw [recB_some h]; exact (recAt_mem h).2
theorem recB_o (B : List R) (q : ByteArray) : (recB B q).o = false := by
  cases h : recAt B q with
  | none => rw [recB_none h]; rfl
  | some n => rw [recB_some h]; rfl
/-- The record of a change. -/
def aftR (c : Chg) : R := if c.2.2 = zR then whiteR c.1 else nodeOf c.2.2
theorem path_zero {n : R} (h : pathB n.p.data.toList = true) : n ≠ zR := fun e => by
  rw [e] at h
  exact pathB_ne h rfl
theorem aft_is {A B : List R} (hp : ∀ n ∈ B, pathB n.p.data.toList = true) {c : Chg} (h : Differs A B c) : aftR c = recB B c.1 := by
  have e : c.2.2 = (recAt B c.1).getD zR := congrArg Prod.snd h.2
  unfold aftR
  cases hb : recAt B c.1 with
  | none =>
    rw [hb] at e
    rw [if_pos (show c.2.2 = zR from e), recB_none hb]
  | some n =>
    rw [hb] at e
    rw [if_neg (by rw [e]; exact path_zero (hp n (recAt_mem hb).1)), recB_some hb, e]
    rfl

def addB (B L : List R) (d : ByteArray) : List R := if (recAt L d).isSome then L else L ++ [recB B d]
def upB (B L : List R) (q : ByteArray) : List R := (q :: ups q).foldl (addB B) L
def stepB (B L : List R) (c : Chg) : List R := if homed B c.1 then (ups c.1).reverse.foldl (addB B) L ++ [aftR c] else L
/-- The layer between two trees, as the program gathers it. -/
def betP (A B : List R) : List R := (chgs A B).foldl (stepB B) []

/-- A list of what B has at paths, each path once. -/
structure OfB (B L : List R) : Prop where
  same : ∀ x ∈ L, x = recB B x.p
  once : L.Pairwise fun x y => x.p ≠ y.p
theorem ofB_nil (B : List R) : OfB B [] := ⟨fun x hx => (by cases hx), List.Pairwise.nil⟩
theorem addB_some {B L : List R} {d : ByteArray} {y : R} (h : recAt L d = some y) : addB B L d = L := by unfold addB; rw [h]; rfl
theorem addB_none {B L : List R} {d : ByteArray} (h : recAt L d = none) : addB B L d = L ++ [recB B d] := by unfold addB; rw [h]; rfl
theorem addB_of {B L : List R} (h : OfB B L) (d : ByteArray) : OfB B (addB B L d) ∧ ∀ x, x ∈ addB B L d ↔ x ∈ L ∨ x = recB B d := by
  cases hd : recAt L d with
  | some y =>
    rw [addB_some hd]
    obtain ⟨hy, hp⟩ := recAt_mem hd
    refine ⟨h, fun x => ⟨.inl, fun e => e.elim id fun e => ?_⟩⟩
    rw [e, ← hp, ← h.same y hy]
    exact hy
  | none =>
    rw [addB_none hd]
    refine ⟨⟨fun x hx => ?_, ?_⟩, fun x => by simp⟩
    · rcases List.mem_append.1 hx with hx | hx
      · exact h.same x hx
      · rw [List.mem_singleton.1 hx, recB_p]
    · rw [List.pairwise_append]
      refine ⟨h.once, List.pairwise_singleton _ _, fun x hx y hy => ?_⟩
      rw [List.mem_singleton.1 hy, recB_p]
      exact recAt_none hd x hx
theorem addB_fold {B : List R} : ∀ (ds : List ByteArray) {L : List R}, OfB B L → OfB B (ds.foldl (addB B) L) ∧ ∀ x, x ∈ ds.foldl (addB B) L ↔ x ∈ L ∨ ∃ d ∈ ds, x = recB B d
  | [], L, h => ⟨h, fun x => by simp⟩
  | d :: ds, L, h => by
    obtain ⟨h1, h2⟩ := addB_of h d
    obtain ⟨h3, h4⟩ := addB_fold ds h1
    refine ⟨h3, fun x => ?_⟩
    rw [List.foldl_cons, h4, h2]
    simp only [List.mem_cons, exists_eq_or_imp, or_assoc]
theorem addB_take (B L : List R) (ds : List ByteArray) {k : Nat} (hk : k < ds.length) : (ds.take (k + 1)).foldl (addB B) L = addB B ((ds.take k).foldl (addB B) L) ds[k] := by
  rw [List.take_add_one, List.getElem?_eq_getElem hk, Option.toList_some, List.foldl_append]
  rfl
theorem recAt_end (L : List R) (r : R) {q : ByteArray} (h : r.p ≠ q) : recAt (L ++ [r]) q = recAt L q := by
  rw [recAt_snoc, if_neg h]
  cases recAt L q <;> rfl
theorem addB_new {B : List R} : ∀ (ds : List ByteArray) (L : List R), ds.Pairwise (fun a b => a ≠ b) → ds.foldl (addB B) L = L ++ (ds.filter fun d => (recAt L d).isNone).map (recB B)
  | [], L, _ => by simp
  | d :: ds, L, h => by
    obtain ⟨h1, h2⟩ := List.pairwise_cons.1 h
    rw [List.foldl_cons, addB_new ds _ h2]
    cases hd : recAt L d with
    | some y => rw [addB_some hd, List.filter_cons_of_neg (by simp [hd])]
    | none =>
      rw [addB_none hd, List.filter_cons_of_pos (by simp [hd]), List.append_assoc, List.map_cons]
      have e0 : ds.filter (fun e => (recAt (L ++ [recB B d]) e).isNone) = ds.filter (fun e => (recAt L e).isNone) := List.filter_congr fun e he => by
        rw [recAt_end L _ (by rw [recB_p]; exact h1 e he)]
      rw [e0]
      rfl
theorem ups_order {q : ByteArray} (h : pathB q.data.toList = true) : (ups q).reverse.Pairwise fun a b => lessQ a b = true := by
  have h1 := dirs_sorted h
  unfold Sorted dirsOf at h1
  rw [List.pairwise_map] at h1
  exact h1.imp fun h => h
theorem lessQ_ne {a b : ByteArray} (h : lessQ a b = true) : a ≠ b := fun e => by rw [e] at h; exact lessQ_irr b h

/-- The paths that a list of changes wants in the layer. -/
def Need (B : List R) (cs : List Chg) (q : ByteArray) : Prop := ∃ c ∈ cs, homed B c.1 = true ∧ (q = c.1 ∨ q ∈ ups c.1)
structure InvB (B L : List R) (cs : List Chg) : Prop where
  of : OfB B L
  sorted : Sorted L
  mem : ∀ x, x ∈ L ↔ ∃ q, Need B cs q ∧ x = recB B q
theorem inv_nil (B : List R) : InvB B [] [] := ⟨ofB_nil B, List.Pairwise.nil, fun x => ⟨fun h => (by cases h), fun ⟨q, ⟨c, hc, _⟩, _⟩ => (by cases hc)⟩⟩
theorem less_recB {B : List R} {a b : ByteArray} (h : lessQ a b = true) : lessR (recB B a) (recB B b) = true := by
  show lessQ (recB B a).p (recB B b).p = true
  rw [recB_p, recB_p]
  exact h
theorem need_snoc {B : List R} {cs : List Chg} {c : Chg} {q : ByteArray} : Need B (cs ++ [c]) q ↔ Need B cs q ∨ homed B c.1 = true ∧ (q = c.1 ∨ q ∈ ups c.1) := by
  unfold Need
  constructor
  · rintro ⟨d, hd, h⟩
    rcases List.mem_append.1 hd with hd | hd
    · exact .inl ⟨d, hd, h⟩
    · rw [List.mem_singleton.1 hd] at h; exact .inr h
  · rintro (⟨d, hd, h⟩ | h)
    · exact ⟨d, List.mem_append_left _ hd, h⟩
    · exact ⟨c, by simp, h⟩
theorem inv_step {B L : List R} {cs : List Chg} {c : Chg} (h : InvB B L cs) (hq : ∀ d ∈ cs, pathB d.1.data.toList = true) (hc : pathB c.1.data.toList = true) (hlt : ∀ d ∈ cs, lessQ d.1 c.1 = true) (ha : aftR c = recB B c.1) : InvB B (stepB B L c) (cs ++ [c]) := by
  unfold stepB
  cases hh : homed B c.1 with
  | false =>
    rw [if_neg (by decide)]
    refine ⟨h.of, h.sorted, fun x => (h.mem x).trans ?_⟩
    constructor
    · rintro ⟨q, hn, e⟩
      exact ⟨q, need_snoc.2 (.inl hn), e⟩
    · rintro ⟨q, hn, e⟩
      rcases need_snoc.1 hn with hn | ⟨hn, _⟩
      · exact ⟨q, hn, e⟩
      · rw [hh] at hn; cases hn
  | true =>
    rw [if_pos rfl]
    have hnq : ∀ q, Need B cs q → lessQ q c.1 = true := by
      rintro q ⟨d, hd, _, rfl | hu⟩
      · exact hlt d hd
      · exact lessQ_trans _ _ _ (ups_less (hq d hd) q hu) (hlt d hd)
    have hpq : ∀ q, Need B cs q → pathB q.data.toList = true := by
      rintro q ⟨d, hd, _, rfl | hu⟩
      · exact hq d hd
      · exact ups_path (hq d hd) q hu
    have hord := ups_order hc
    have hne : (ups c.1).reverse.Pairwise (fun a b => a ≠ b) := hord.imp fun h => lessQ_ne h
    obtain ⟨hf1, hf2⟩ := addB_fold (ups c.1).reverse h.of
    have hmem : ∀ x, x ∈ (ups c.1).reverse.foldl (addB B) L ++ [aftR c] ↔ ∃ q, Need B (cs ++ [c]) q ∧ x = recB B q := by
      intro x
      rw [List.mem_append, hf2, List.mem_singleton, ha, h.mem]
      constructor
      · rintro ((⟨q, hn, e⟩ | ⟨d, hd, e⟩) | e)
        · exact ⟨q, need_snoc.2 (.inl hn), e⟩
        · exact ⟨d, need_snoc.2 (.inr ⟨hh, .inr (List.mem_reverse.1 hd)⟩), e⟩
        · exact ⟨_, need_snoc.2 (.inr ⟨hh, .inl rfl⟩), e⟩
      · rintro ⟨q, hn, e⟩
        rcases need_snoc.1 hn with hn | ⟨_, rfl | hu⟩
        · exact .inl (.inl ⟨q, hn, e⟩)
        · exact .inr e
        · exact .inl (.inr ⟨q, List.mem_reverse.2 hu, e⟩)
    have hsort : Sorted ((ups c.1).reverse.foldl (addB B) L ++ [aftR c]) := by
      rw [addB_new _ _ hne, ha]
      unfold Sorted
      rw [List.append_assoc, List.pairwise_append]
      refine ⟨h.sorted, ?_, ?_⟩
      · rw [List.pairwise_append]
        refine ⟨?_, List.pairwise_singleton _ _, fun x hx y hy => ?_⟩
        · rw [List.pairwise_map]
          exact (hord.filter _).imp fun h => less_recB h
        · obtain ⟨d, hd, rfl⟩ := List.mem_map.1 hx
          rw [List.mem_singleton.1 hy]
          exact less_recB (ups_less hc d (List.mem_reverse.1 (List.mem_filter.1 hd).1))
      · intro x hx y hy
        obtain ⟨q, hn, rfl⟩ := (h.mem x).1 hx
        rcases List.mem_append.1 hy with hy | hy
        · obtain ⟨d, hd, rfl⟩ := List.mem_map.1 hy
          obtain ⟨hd1, hd2⟩ := List.mem_filter.1 hd
          have hup := List.mem_reverse.1 hd1
          have hdn : recAt L d = none := by simpa using hd2
          have hno : ¬ Need B cs d := fun hn => recAt_none hdn _ ((h.mem _).2 ⟨d, hn, rfl⟩) (recB_p B d)
          have hqd : q ≠ d := fun e => hno (e ▸ hn)
          refine less_recB ?_
          rcases lessQ_total hqd with hl | hl
          · exact hl
          · exfalso
            obtain ⟨i, hi, rfl⟩ := ups_pre hc hup
            have hb : belowP (cutAt 47 q.data.toList) (cutAt 47 (pre c.1 i).data.toList) = true := by
              refine lessP_between _ _ ((cutAt 47 c.1.data.toList).drop (i + 1)) hl ?_
              rw [pre_cut hc, List.take_append_drop]
              exact hnq q hn
            have hu := (up_below (hpq q hn) _).2 hb
            obtain ⟨e, he, heh, hqe⟩ := hn
            refine hno ⟨e, he, heh, .inr ?_⟩
            rcases hqe with rfl | hqe
            · exact hu
            · exact ups_trans (hq e he) _ q hqe hu
        · rw [List.mem_singleton.1 hy]
          exact less_recB (hnq q hn)
    refine ⟨⟨fun x hx => ?_, ?_⟩, hsort, hmem⟩
    · obtain ⟨q, _, rfl⟩ := (hmem x).1 hx
      rw [recB_p]
    · exact hsort.imp fun h => less_ne h
theorem inv_fold {B : List R} : ∀ (cs pre : List Chg) {L : List R}, InvB B L pre → (∀ d ∈ pre ++ cs, pathB d.1.data.toList = true ∧ aftR d = recB B d.1) → (pre ++ cs).Pairwise (fun c d => lessQ c.1 d.1 = true) → InvB B (cs.foldl (stepB B) L) (pre ++ cs)
  | [], pre, L, h, _, _ => by rw [List.append_nil]; exact h
  | c :: cs, pre, L, h, hp, hs => by
    have e : pre ++ c :: cs = (pre ++ [c]) ++ cs := by simp
    rw [e] at hp hs ⊢
    have hs1 := (List.pairwise_append.1 hs).1
    refine inv_fold cs (pre ++ [c]) (inv_step h (fun d hd => (hp d (by simp [hd])).1) (hp c (by simp)).1 (fun d hd => (List.pairwise_append.1 hs1).2.2 d hd c (by simp)) (hp c (by simp)).2) hp hs
theorem chg_path {A B : List R} (ha : ∀ x ∈ A, pathB x.p.data.toList = true) (hb : ∀ x ∈ B, pathB x.p.data.toList = true) {c : Chg} (h : Differs A B c) : pathB c.1.data.toList = true := by
  rcases differs_path h with ⟨x, hx, e⟩ | ⟨x, hx, e⟩
  · rw [← e]; exact ha x hx
  · rw [← e]; exact hb x hx
theorem bet_inv {A B : List R} (ha : IsTree A) (hb : IsTree B) : InvB B (betP A B) (chgs A B) := by
  have hd := fun c => (chg_mem A B ha.sorted hb.sorted c).1
  exact inv_fold (chgs A B) [] (inv_nil B) (fun c hc => ⟨chg_path ha.path hb.path (hd c hc), aft_is hb.path (hd c hc)⟩) (chg_sorted A B ha.sorted hb.sorted)
/-- The paths that the model gathers: of what is gone, the highest; of what is new or otherwise, all. -/
def needS (A B : List R) : List ByteArray := (A.filter fun m => (recAt B m.p).isNone && homed B m.p).map R.p ++ (B.filter fun n => decide (recAt A n.p ≠ some n)).map R.p
def nedL (A B : List R) : List R := (needS A B).foldl (upB B) []
def sortL (l : List R) : List R := l.foldl putL []
theorem upB_fold {B : List R} : ∀ (qs : List ByteArray) {L : List R}, OfB B L → OfB B (qs.foldl (upB B) L) ∧ ∀ x, x ∈ qs.foldl (upB B) L ↔ x ∈ L ∨ ∃ q ∈ qs, ∃ d, (d = q ∨ d ∈ ups q) ∧ x = recB B d
  | [], L, h => ⟨h, fun x => by simp⟩
  | q :: qs, L, h => by
    obtain ⟨h1, h2⟩ := addB_fold (q :: ups q) h
    obtain ⟨h3, h4⟩ := upB_fold qs (L := upB B L q) h1
    refine ⟨h3, fun x => ?_⟩
    rw [List.foldl_cons, h4]
    unfold upB
    rw [h2]
    simp only [List.mem_cons, exists_eq_or_imp, or_assoc]
theorem need_is {A B : List R} (ha : IsTree A) (hb : IsTree B) (q : ByteArray) : q ∈ needS A B ↔ ∃ c ∈ chgs A B, homed B c.1 = true ∧ q = c.1 := by
  have hd := chg_mem A B ha.sorted hb.sorted
  unfold needS
  rw [List.mem_append]
  constructor
  · rintro (h | h)
    · obtain ⟨m, hm, rfl⟩ := List.mem_map.1 h
      obtain ⟨hm1, hm2⟩ := List.mem_filter.1 hm
      rw [Bool.and_eq_true] at hm2
      have h1 : recAt B m.p = none := by simpa using hm2.1
      have h2 := recAt_of ha.sorted hm1
      exact ⟨(m.p, (recAt A m.p).getD zR, (recAt B m.p).getD zR), (hd _).2 ⟨by show recAt A m.p ≠ recAt B m.p; rw [h1, h2]; simp, rfl⟩, hm2.2, rfl⟩
    · obtain ⟨n, hn, rfl⟩ := List.mem_map.1 h
      obtain ⟨hn1, hn2⟩ := List.mem_filter.1 hn
      have h1 : recAt A n.p ≠ some n := by simpa using hn2
      have h2 := recAt_of hb.sorted hn1
      refine ⟨(n.p, (recAt A n.p).getD zR, (recAt B n.p).getD zR), (hd _).2 ⟨by show recAt A n.p ≠ recAt B n.p; rw [h2]; exact h1, rfl⟩, ?_, rfl⟩
      show homed B n.p = true
      unfold homed
      by_cases hp : parentL n.p.data.toList = []
      · rw [decide_eq_true hp]; rfl
      · obtain ⟨x, hx, hxp, hxk⟩ := hb.housed n hn1 hp
        rw [← hxp, recAt_of hb.sorted hx]
        simp [hxk]
  · rintro ⟨c, hc, hh, rfl⟩
    obtain ⟨hne, _⟩ := (hd c).1 hc
    cases h2 : recAt B c.1 with
    | some n =>
      obtain ⟨hn, hp⟩ := recAt_mem h2
      refine .inr (List.mem_map.2 ⟨n, List.mem_filter.2 ⟨hn, ?_⟩, hp⟩)
      rw [h2] at hne
      rw [hp]
      exact decide_eq_true hne
    | none =>
      cases h1 : recAt A c.1 with
      | none => rw [h1, h2] at hne; exact absurd rfl hne
      | some m =>
        obtain ⟨hm, hp⟩ := recAt_mem h1
        refine .inl (List.mem_map.2 ⟨m, List.mem_filter.2 ⟨hm, ?_⟩, hp⟩)
        rw [hp, h2, hh]
        rfl
theorem sort_fold : ∀ (l t : List R), Sorted t → (t ++ l).Pairwise (fun x y => x.p ≠ y.p) → Sorted (l.foldl putL t) ∧ ∀ x, x ∈ l.foldl putL t ↔ x ∈ t ∨ x ∈ l
  | [], t, h, _ => ⟨h, fun x => by simp⟩
  | n :: l, t, h, hp => by
    have hp0 := List.pairwise_append.1 hp
    have hno : ∀ x ∈ t, x.p ≠ n.p := fun x hx => hp0.2.2 x hx n (by simp)
    have hm : ∀ x, x ∈ putL t n ↔ x ∈ t ∨ x = n := fun x => mem_put.trans ⟨fun e => e.elim .inr fun e => .inl e.1, fun e => e.elim (fun e => .inr ⟨e, hno x e⟩) .inl⟩
    have hpw : (putL t n ++ l).Pairwise (fun x y => x.p ≠ y.p) := by
      have hp1 := List.pairwise_cons.1 hp0.2.1
      rw [List.pairwise_append]
      refine ⟨(put_sorted h n).imp fun h => less_ne h, hp1.2, fun x hx y hy => ?_⟩
      rcases (hm x).1 hx with hx | rfl
      · exact hp0.2.2 x hx y (List.mem_cons_of_mem _ hy)
      · exact hp1.1 y hy
    obtain ⟨h1, h2⟩ := sort_fold l (putL t n) (put_sorted h n) hpw
    refine ⟨h1, fun x => ?_⟩
    rw [List.foldl_cons, h2, hm]
    simp only [List.mem_cons, or_assoc]
theorem bet_same {A B : List R} (ha : IsTree A) (hb : IsTree B) : sortL (nedL A B) = betP A B := by
  obtain ⟨h1, h2⟩ := upB_fold (needS A B) (ofB_nil B)
  have hi := bet_inv ha hb
  obtain ⟨h3, h4⟩ := sort_fold (nedL A B) [] List.Pairwise.nil (by rw [List.nil_append]; exact h1.once)
  refine sorted_ext _ _ h3 hi.sorted fun x => ?_
  have e1 : x ∈ sortL (nedL A B) ↔ x ∈ nedL A B := by
    show x ∈ (nedL A B).foldl putL [] ↔ _
    rw [h4]
    simp
  have e2 : x ∈ nedL A B ↔ ∃ q ∈ needS A B, ∃ d, (d = q ∨ d ∈ ups q) ∧ x = recB B d := by
    show x ∈ (needS A B).foldl (upB B) [] ↔ _
    rw [h2]
    simp
  rw [e1, e2, hi.mem]
  constructor
  · rintro ⟨q, hq, d, hd, e⟩
    obtain ⟨c, hc, hh, rfl⟩ := (need_is ha hb q).1 hq
    exact ⟨d, ⟨c, hc, hh, hd⟩, e⟩
  · rintro ⟨d, ⟨c, hc, hh, hd⟩, e⟩
    exact ⟨c.1, (need_is ha hb _).2 ⟨c, hc, hh, rfl⟩, d, hd, e⟩
theorem homed_up {B : List R} (hb : IsTree B) {q : ByteArray} (hq : pathB q.data.toList = true) (h : homed B q = true) : ∀ a ∈ ups q, ∃ n, recAt B a = some n ∧ n.k = 3 := by
  intro a ha
  rw [ups_step hq] at ha
  split at ha
  · cases ha
  · rename_i hp
    unfold homed at h
    rw [decide_eq_false hp, Bool.false_or] at h
    cases hr : recAt B (parO q) with
    | none => rw [hr] at h; cases h
    | some n =>
      rw [hr] at h
      have hk : n.k = 3 := by simpa using h
      rcases List.mem_cons.1 ha with rfl | ha
      · exact ⟨n, hr, hk⟩
      · obtain ⟨hn, hnp⟩ := recAt_mem hr
        obtain ⟨x, hx, hxp, hxk⟩ := housed_ups hb.housed (ups_path hq _ (parent_up hq hp)) n hn hnp a ha
        exact ⟨x, by rw [← hxp]; exact recAt_of hb.sorted hx, hxk⟩
end Go.Proofs.YtibekkfbpmloiabGreatDoor.Recs

/- The code of the errors of a call's arguments. Conditions: the table of kinds, the two sentinels. -/
namespace Go.Proofs.YtibekkfbpmloiabGreatDoor.Recs
set_option maxRecDepth 100000
open Go.RowKit Paths Errs

def codeL (l : List R) : Int := if 4096 < l.length then 2 else if layerOK l then 0 else 1
end Go.Proofs.YtibekkfbpmloiabGreatDoor.Recs

/- The highest layer that cuts a path off: of the program (a range over the library's slices.Backward) and of its model; CutDepth. Conditions (of the program's): the table of kinds, the two sentinels. -/
namespace Go.Proofs.YtibekkfbpmloiabGreatDoor.Recs
set_option maxRecDepth 100000
open Go.RowKit Paths Errs Go.Shelf
attribute [local go_sem] Oper.semAt_some

theorem others_of {w w' : World} (h : Below w.heap.size w w') : KeepsOthers w w' := ⟨h.size, fun k _ hk _ => (h.block k (Array.getElem?_eq_some_iff.1 hk).1).trans hk⟩

end Go.Proofs.YtibekkfbpmloiabGreatDoor.Recs

/- Layers: Canonical and IsCanonical, of the program and of its model. Conditions (of the program's): the table of kinds, the two sentinels. -/
namespace Go.Proofs.YtibekkfbpmloiabGreatDoor.Recs
set_option maxRecDepth 100000
open Go.RowKit Paths Errs

/-- Whether a list is a canonical layer. -/
def isCan (l : List R) : Bool := okL l && decide (canonL l = l)
end Go.Proofs.YtibekkfbpmloiabGreatDoor.Recs

/- The winner of the records of one path, and these records, of the program. -/
namespace Go.Proofs.YtibekkfbpmloiabGreatDoor.Recs
set_option maxRecDepth 100000
open Go.RowKit Paths

/-- A record with the number of its layer: its value, its cells. -/
def pv (p : R × Nat) : Value := .agg #[.int .i64 p.1.k, .string p.1.p, .string p.1.b, .int .i64 p.1.m, .bool p.1.o, .int .i64 (p.2 : Int)]
theorem alloc_here (w : World) (o : Obj) : (w.alloc o).heap[w.heap.size]? = some o := by
  show (w.heap.push o)[w.heap.size]? = some o
  exact Array.getElem?_push_size
theorem Rbox.facts {w : World} {B : Nat} {r : R} (h : Rbox w B r) : (w.cell? ⟨B, 0, none⟩ = some (.int .i64 r.k) ∧ w.cell? ⟨B, 1, none⟩ = some (.string r.p) ∧ w.cell? ⟨B, 2, none⟩ = some (.string r.b) ∧ w.cell? ⟨B, 3, none⟩ = some (.int .i64 r.m) ∧ w.cell? ⟨B, 4, none⟩ = some (.bool r.o)) ∧
    w.frozen? ⟨B, 0, none⟩ = false ∧ w.frozen? ⟨B, 1, none⟩ = false ∧ w.frozen? ⟨B, 2, none⟩ = false ∧ w.frozen? ⟨B, 3, none⟩ = false ∧ w.frozen? ⟨B, 4, none⟩ = false := by
  obtain ⟨h0, h1, h2, h3, h4⟩ := h.cells
  simp only [Nat.zero_add] at h0 h1 h2 h3 h4
  exact ⟨⟨h0, h1, h2, h3, h4⟩, h.frozen 0, h.frozen 1, h.frozen 2, h.frozen 3, h.frozen 4⟩

end Go.Proofs.YtibekkfbpmloiabGreatDoor.Recs
