/- Parts of several texts of mine in one file (each begins with its own remark). -/
import Derived.Test.YtibekkfbpmloiabGreatDoorCA1
import Derived.Test.YtibekkfbpmloiabGreatDoorCA2
import Derived.Test.YtibekkfbpmloiabGreatDoorCA3
import Derived.Test.YtibekkfbpmloiabGreatDoorCA4
import Derived.Test.YtibekkfbpmloiabGreatDoorCA5
import Derived.Test.YtibekkfbpmloiabGreatDoorChecked
import Derived.Test.YtibekkfbpmloiabGreatDoorShelf
import Derived.Deep.Slices
import Derived.OpenShut
import Derived.ShutString
import Derived.ChangeArms
import Derived.WideShapes
import Derived.Lib.LaidTab
import Derived.BigQuiet
import Derived.Deep.QuietTactic
import Derived.Deep.RegionHeld3
import Derived.StillTailTactics
import Derived.Deep.Draws
import Derived.Deep.LoopGhost
import Derived.WalkKit
import Derived.WalkSpells
import Derived.WalkSmall
import Derived.Lib.OthersKept
import Derived.Lib.Hide
import Derived.Lib.Strings
import Derived.Lib.Join
import Derived.Laws.BytesArg
/- Applying a layer to a tree, both as plain sorted lists (a node is a record that is not Opaque): what the result holds, in closed form. -/
namespace Go.Proofs.YtibekkfbpmloiabGreatDoor.Recs
open Go.RowKit Paths

/-- q is above p. -/
def isUp (q p : ByteArray) : Bool := (ups p).any fun a => decide (a = q)
theorem isUp_iff {q p : ByteArray} : isUp q p = true ↔ q ∈ ups p := by
  unfold isUp
  rw [List.any_eq_true]
  constructor
  · rintro ⟨a, ha, he⟩
    rw [decide_eq_true_eq] at he
    exact he ▸ ha
  · exact fun h => ⟨q, h, by simp⟩
theorem isUp_no {q p : ByteArray} : isUp q p = false ↔ q ∉ ups p := by
  rw [← isUp_iff]
  simp
def nodeOf (r : R) : R := { r with o := false }
/-- Without what is below a path, and, if so asked, without its own node. -/
def withoutL (t : List R) (q : ByteArray) (self : Bool) : List R := t.filter fun x => !isUp q x.p && !(self && decide (x.p = q))
/-- A node in its place, in the place of one of its path. -/
def putL (t : List R) (n : R) : List R := t.filter (fun x => lessR x n) ++ n :: t.filter (fun x => lessR n x)
/-- Must what is below a record's path go? -/
def clears (t : List R) (r : R) : Bool := stops r || (recAt t r.p).any (fun n => decide (n.k ≠ 3))
def doR (t : List R) (r : R) : List R :=
  if r.k = 4 then withoutL t r.p true else putL (if clears t r then withoutL t r.p false else t) (nodeOf r)
def applyL (l t : List R) : List R := l.foldl doR t

theorem mem_without {t : List R} {q : ByteArray} {self : Bool} {x : R} : x ∈ withoutL t q self ↔ x ∈ t ∧ q ∉ ups x.p ∧ (self = true → x.p ≠ q) := by
  unfold withoutL
  rw [List.mem_filter, Bool.and_eq_true, Bool.not_eq_true', isUp_no]
  cases self <;> simp
theorem without_sorted {t : List R} (h : Sorted t) (q : ByteArray) (self : Bool) : Sorted (withoutL t q self) := List.Pairwise.filter _ h
theorem bytes_cut {a b : ByteArray} (h : cutAt 47 a.data.toList = cutAt 47 b.data.toList) : a = b := by
  have e : a.data.toList = b.data.toList := by rw [← join_cut a.data.toList, h, join_cut]
  apply ByteArray.ext
  exact Array.ext' e
/-- Of two records of different paths one is less. -/
theorem less_or {x n : R} (h : x.p ≠ n.p) : lessR x n = true ∨ lessR n x = true := by
  rcases Bool.eq_false_or_eq_true (lessR x n) with h1 | h1
  · exact .inl h1
  rcases Bool.eq_false_or_eq_true (lessR n x) with h2 | h2
  · exact .inr h2
  exact absurd (bytes_cut (lessP_total _ _ h1 h2)) h
theorem less_ne {x n : R} (h : lessR x n = true) : x.p ≠ n.p := fun e => by
  unfold lessR at h
  rw [e, lessP_irrefl] at h
  cases h
theorem mem_put {t : List R} {n x : R} : x ∈ putL t n ↔ x = n ∨ x ∈ t ∧ x.p ≠ n.p := by
  unfold putL
  rw [List.mem_append, List.mem_cons, List.mem_filter, List.mem_filter]
  constructor
  · rintro (⟨h1, h2⟩ | h | ⟨h1, h2⟩)
    · exact .inr ⟨h1, less_ne h2⟩
    · exact .inl h
    · exact .inr ⟨h1, fun e => less_ne h2 e.symm⟩
  · rintro (h | ⟨h1, h2⟩)
    · exact .inr (.inl h)
    · rcases less_or h2 with h3 | h3
      · exact .inl ⟨h1, h3⟩
      · exact .inr (.inr ⟨h1, h3⟩)
theorem put_sorted {t : List R} (h : Sorted t) (n : R) : Sorted (putL t n) := by
  unfold putL Sorted
  rw [List.pairwise_append]
  refine ⟨List.Pairwise.filter _ h, ?_, ?_⟩
  · rw [List.pairwise_cons]
    exact ⟨fun x hx => (List.mem_filter.1 hx).2, List.Pairwise.filter _ h⟩
  · intro a ha b hb
    have h1 := (List.mem_filter.1 ha).2
    rcases List.mem_cons.1 hb with rfl | hb
    · exact h1
    · exact lessP_trans _ _ _ h1 (List.mem_filter.1 hb).2
theorem do_sorted {t : List R} (h : Sorted t) (r : R) : Sorted (doR t r) := by
  unfold doR
  split
  · exact without_sorted h _ _
  · split
    · exact put_sorted (without_sorted h _ _) _
    · exact put_sorted h _
theorem apply_sorted : ∀ (l : List R) {t : List R}, Sorted t → Sorted (applyL l t)
  | [], _, h => h
  | r :: l, _, h => apply_sorted l (do_sorted h r)
theorem mem_do {t : List R} {r x : R} : x ∈ doR t r ↔ (r.k ≠ 4 ∧ x = nodeOf r) ∨ (x ∈ t ∧ x.p ≠ r.p ∧ ((r.k = 4 ∨ clears t r = true) → r.p ∉ ups x.p)) := by
  unfold doR
  by_cases hk : r.k = 4
  · rw [if_pos hk, mem_without]
    constructor
    · rintro ⟨h1, h2, h3⟩
      exact .inr ⟨h1, h3 rfl, fun _ => h2⟩
    · rintro (⟨h1, _⟩ | ⟨h1, h2, h3⟩)
      · exact absurd hk h1
      · exact ⟨h1, h3 (.inl hk), fun _ => h2⟩
  · rw [if_neg hk, mem_put]
    have ep : (nodeOf r).p = r.p := rfl
    rw [ep]
    by_cases hc : clears t r = true
    · rw [if_pos hc, mem_without]
      constructor
      · rintro (h | ⟨⟨h1, h2, _⟩, h4⟩)
        · exact .inl ⟨hk, h⟩
        · exact .inr ⟨h1, h4, fun _ => h2⟩
      · rintro (⟨_, h⟩ | ⟨h1, h2, h3⟩)
        · exact .inl h
        · exact .inr ⟨⟨h1, h3 (.inr hc), fun h => by cases h⟩, h2⟩
    · rw [if_neg hc]
      constructor
      · rintro (h | ⟨h1, h2⟩)
        · exact .inl ⟨hk, h⟩
        · exact .inr ⟨h1, h2, fun h => by rcases h with h | h <;> contradiction⟩
      · rintro (⟨_, h⟩ | ⟨h1, h2, _⟩)
        · exact .inl h
        · exact .inr ⟨h1, h2⟩

/-- Lists that grow at their end: Sorted. -/
theorem sorted_snoc {l : List R} {r : R} (h : Sorted (l ++ [r])) : Sorted l ∧ ∀ x ∈ l, lessR x r = true := by
  unfold Sorted at h
  rw [List.pairwise_append] at h
  exact ⟨h.1, fun x hx => h.2.2 x hx r (by simp)⟩
theorem recAt_snoc (l : List R) (r : R) (q : ByteArray) : recAt (l ++ [r]) q = (recAt l q).or (if r.p = q then some r else none) := by
  unfold recAt
  rw [List.find?_append]
  congr 1
  by_cases h : r.p = q <;> simp [h]
theorem cuts_snoc {l : List R} {r : R} (h : Sorted (l ++ [r])) (q : ByteArray) : cutsL (l ++ [r]) q = (cutsL l q || (isUp r.p q && stops r)) := by
  obtain ⟨_, hlt⟩ := sorted_snoc h
  have hno : recAt l r.p = none := by
    cases hr : recAt l r.p with
    | none => rfl
    | some x =>
      obtain ⟨h1, h2⟩ := recAt_mem hr
      exact absurd h2 (less_ne (hlt x h1))
  have hat : ∀ a, stopsAt (l ++ [r]) a = (stopsAt l a || (decide (r.p = a) && stops r)) := by
    intro a
    unfold stopsAt
    rw [recAt_snoc]
    by_cases e : r.p = a
    · subst e
      rw [hno]
      simp
    · rw [if_neg e]
      cases recAt l a <;> simp [e]
  unfold cutsL
  rw [Bool.eq_iff_iff]
  simp only [List.any_eq_true, Bool.or_eq_true, Bool.and_eq_true, decide_eq_true_eq, isUp_iff, hat]
  constructor
  · rintro ⟨a, ha, h1 | ⟨rfl, h1⟩⟩
    · exact .inl ⟨a, ha, h1⟩
    · exact .inr ⟨ha, h1⟩
  · rintro (⟨a, ha, h1⟩ | ⟨ha, h1⟩)
    · exact ⟨a, ha, .inl h1⟩
    · exact ⟨r.p, ha, .inr ⟨rfl, h1⟩⟩

/-- A tree: sorted, housed, its paths are paths. -/
structure IsTree (t : List R) : Prop where
  sorted : Sorted t
  housed : Housed t
  path : ∀ x ∈ t, pathB x.p.data.toList = true

/-- WHAT APPLYING LEAVES: the records that are no whiteouts, as nodes; and of the tree what the layer has no record of and does not cut off. -/
theorem mem_apply {t : List R} (ht : IsTree t) (l : List R) : Sorted l → (∀ r ∈ l, pathB r.p.data.toList = true) → ∀ x, x ∈ applyL l t ↔ (∃ r ∈ l, r.k ≠ 4 ∧ x = nodeOf r) ∨ (x ∈ t ∧ recAt l x.p = none ∧ cutsL l x.p = false) := by
  have hrev : ∀ m : List R, Sorted m.reverse → (∀ r ∈ m.reverse, pathB r.p.data.toList = true) → ∀ x, x ∈ applyL m.reverse t ↔ (∃ r ∈ m.reverse, r.k ≠ 4 ∧ x = nodeOf r) ∨ (x ∈ t ∧ recAt m.reverse x.p = none ∧ cutsL m.reverse x.p = false) := by
    intro m
    induction m with
    | nil =>
      intro _ _ x
      have e2 : cutsL [] x.p = false := by
        unfold cutsL
        rw [List.any_eq_false]
        intro a _
        simp [stopsAt, recAt]
      simp [applyL, recAt, e2]
    | cons r m ih =>
      intro hs hpath x
      rw [List.reverse_cons] at hs hpath ⊢
      obtain ⟨hs1, hlt⟩ := sorted_snoc hs
      have ih := ih hs1 (fun y hy => hpath y (by simp at hy ⊢; exact .inl hy))
      have hrp : pathB r.p.data.toList = true := hpath r (by simp)
      have eA : applyL (m.reverse ++ [r]) t = doR (applyL m.reverse t) r := by unfold applyL; rw [List.foldl_append]; rfl
      rw [eA, mem_do, cuts_snoc hs, recAt_snoc]
      have hno : recAt m.reverse r.p = none := by
        cases hr : recAt m.reverse r.p with
        | none => rfl
        | some y =>
          obtain ⟨h1, h2⟩ := recAt_mem hr
          exact absurd h2 (less_ne (hlt y h1))
      -- a record of the elder part is neither at r's path nor below it
      have hold : ∀ y ∈ m.reverse, y.p ≠ r.p ∧ r.p ∉ ups y.p := fun y hy => ⟨less_ne (hlt y hy), fun hu => by
        have h1 := ups_less (hpath y (by simp at hy ⊢; exact .inl hy)) _ hu
        have h2 := hlt y hy
        unfold lessR at h2
        rw [lessP_asymm _ _ h1] at h2
        cases h2⟩
      -- what is in the tree below r's path, not cut off, has a directory there
      have hclear : ∀ y ∈ t, r.p ∈ ups y.p → clears (applyL m.reverse t) r = stops r := by
        intro y hy hu
        obtain ⟨n, hn, hnp, hnk⟩ := housed_ups ht.housed (ht.path y hy) y hy rfl r.p hu
        unfold clears
        cases hr : recAt (applyL m.reverse t) r.p with
        | none => simp
        | some z =>
          obtain ⟨hz, hzp⟩ := recAt_mem hr
          have hzk : z.k = 3 := by
            rcases (ih z).1 hz with ⟨q, hq, _, rfl⟩ | ⟨hzt, _⟩
            · exact absurd hzp (hold q hq).1
            · rw [sorted_mem_once ht.sorted hzt hn (hzp.trans hnp.symm)]; exact hnk
          simp [hzk]
      constructor
      · rintro (⟨h1, h2⟩ | ⟨h1, h2, h3⟩)
        · exact .inl ⟨r, by simp, h1, h2⟩
        · rcases (ih x).1 h1 with ⟨q, hq, hqk, hqx⟩ | ⟨hxt, hx1, hx2⟩
          · exact .inl ⟨q, by simp at hq ⊢; exact .inl hq, hqk, hqx⟩
          · refine .inr ⟨hxt, ?_, ?_⟩
            · rw [hx1, if_neg (fun e => h2 e.symm)]; rfl
            · rw [hx2, Bool.false_or]
              by_cases hu : r.p ∈ ups x.p
              · have hc := hclear x hxt hu
                have hns : stops r = false := by
                  rcases Bool.eq_false_or_eq_true (stops r) with h5 | h5
                  · exact absurd hu (h3 (.inr (hc.trans h5)))
                  · exact h5
                rw [hns, Bool.and_false]
              · rw [isUp_no.2 hu, Bool.false_and]
      · rintro (⟨q, hq, hqk, hqx⟩ | ⟨hxt, hx1, hx2⟩)
        · rcases List.mem_append.1 hq with hq | hq
          · refine .inr ⟨(ih x).2 (.inl ⟨q, hq, hqk, hqx⟩), ?_, fun _ => ?_⟩
            · rw [hqx]; exact (hold q hq).1
            · rw [hqx]; exact (hold q hq).2
          · rw [List.mem_singleton.1 hq] at hqk hqx
            exact .inl ⟨hqk, hqx⟩
        · have hxr : recAt m.reverse x.p = none ∧ ¬ r.p = x.p := by
            cases hr : recAt m.reverse x.p with
            | some z => rw [hr] at hx1; cases hx1
            | none =>
              refine ⟨rfl, fun e => ?_⟩
              rw [hr, if_pos e] at hx1
              cases hx1
          rw [Bool.or_eq_false_iff] at hx2
          refine .inr ⟨(ih x).2 (.inr ⟨hxt, hxr.1, hx2.1⟩), fun e => hxr.2 e.symm, fun hc hu => ?_⟩
          have h5 := hx2.2
          rw [isUp_iff.2 hu, Bool.true_and] at h5
          rcases hc with hc | hc
          · unfold stops at h5
            rw [hc] at h5
            simp at h5
          · rw [hclear x hxt hu, h5] at hc
            cases hc
  intro hs hp
  have := hrev l.reverse (by rwa [List.reverse_reverse]) (by rwa [List.reverse_reverse])
  rwa [List.reverse_reverse] at this
end Go.Proofs.YtibekkfbpmloiabGreatDoor.Recs

/- Applying layers, plain: the result is a tree; applying again changes nothing; the canonical form has the same effect on every tree. -/
namespace Go.Proofs.YtibekkfbpmloiabGreatDoor.Recs
open Go.RowKit Paths

/-- What a layer is, for its effect. -/
structure IsLayer (l : List R) : Prop where
  sorted : Sorted l
  housed : Housed l
  path : ∀ x ∈ l, pathB x.p.data.toList = true
theorem layer_is {l : List R} (h : layerOK l = true) : IsLayer l := ⟨layer_sorted h, layer_housed h, fun _ hx => (fault_path (layer_rec h hx)).1⟩

theorem cuts_up {l : List R} {c q : ByteArray} (hq : pathB q.data.toList = true) (hc : c ∈ ups q) (h : cutsL l c = true) : cutsL l q = true := by
  unfold cutsL at h ⊢
  rw [List.any_eq_true] at h ⊢
  obtain ⟨a, ha, hs⟩ := h
  exact ⟨a, ups_trans hq a c hc ha, hs⟩
theorem cuts_at {l : List R} {c q : ByteArray} (hc : c ∈ ups q) {r : R} (hr : recAt l c = some r) (hs : stops r = true) : cutsL l q = true := by
  unfold cutsL
  rw [List.any_eq_true]
  exact ⟨c, hc, by unfold stopsAt; rw [hr]; simpa using hs⟩
theorem stops_no {r : R} (h : stops r = false) : r.k = 3 ∧ r.o = false := by
  unfold stops at h
  simpa using h
theorem parent_up {q : ByteArray} (h : pathB q.data.toList = true) (hp : parentL q.data.toList ≠ []) : parO q ∈ ups q := by
  rw [ups_step h, if_neg hp]
  simp

/-- (a) The result of applying a layer to a tree is a tree. -/
theorem apply_tree {l t : List R} (hl : IsLayer l) (ht : IsTree t) : IsTree (applyL l t) := by
  have hm := mem_apply ht l hl.sorted hl.path
  have hpath : ∀ x ∈ applyL l t, pathB x.p.data.toList = true := by
    intro x hx
    rcases (hm x).1 hx with ⟨r, hr, _, rfl⟩ | ⟨h1, _⟩
    · exact hl.path r hr
    · exact ht.path x h1
  refine ⟨apply_sorted l ht.sorted, ?_, hpath⟩
  intro x hx hp
  rcases (hm x).1 hx with ⟨r, hr, _, rfl⟩ | ⟨h1, h2, h3⟩
  · obtain ⟨s, hs, hsp, hsk⟩ := hl.housed r hr hp
    exact ⟨nodeOf s, (hm _).2 (.inl ⟨s, hs, by omega, rfl⟩), hsp, hsk⟩
  · obtain ⟨n, hn, hnp, hnk⟩ := ht.housed x h1 hp
    have hup := parent_up (ht.path x h1) hp
    cases hr : recAt l (parO x.p) with
    | some s =>
      obtain ⟨hs, hsp⟩ := recAt_mem hr
      have hst : stops s = false := by
        rcases Bool.eq_false_or_eq_true (stops s) with h | h
        · rw [cuts_at hup hr h] at h3; cases h3
        · exact h
      have hk := (stops_no hst).1
      exact ⟨nodeOf s, (hm _).2 (.inl ⟨s, hs, by omega, rfl⟩), hsp, hk⟩
    | none =>
      refine ⟨n, (hm n).2 (.inr ⟨hn, by rw [hnp]; exact hr, ?_⟩), hnp, hnk⟩
      rw [hnp]
      rcases Bool.eq_false_or_eq_true (cutsL l (parO x.p)) with h | h
      · rw [cuts_up (ht.path x h1) hup h] at h3; cases h3
      · exact h

end Go.Proofs.YtibekkfbpmloiabGreatDoor.Recs

/- Paths: ParentOf and JoinPath, of the program and of its model. -/
namespace Go.Proofs.YtibekkfbpmloiabGreatDoor.Paths
open Go.RowKit

/-- strings.Join with a stroke between, at a slice that reads as L. -/
theorem join_any (v : Value) (L : List (List UInt8)) (w : World) (h : Strs w v L) (hl : (Lib.join L [47]).length ≤ 140737488355328) (hL : L.length ≤ 140737488355328) :
    Calls Tryz.prog 190 #[v, .string ⟨#[47]⟩] w fun e w' => e = .returned (strV (Lib.join L [47])) ∧ Below w.heap.size w w' := by
  obtain ⟨A, cap, rfl, hcap, h⟩ := h
  cases L with
  | nil =>
    refine (Tryz.strings_Join_none A cap _ w).mono ?_
    rintro e w' ⟨rfl, rfl⟩
    exact ⟨rfl, Below.refl _ _⟩
  | cons p r =>
    obtain ⟨b, off, rfl, hb, hc⟩ := h (by simp)
    have hm : ((p :: r).map fun l => (⟨l.toArray⟩ : ByteArray)).map (·.data.toList) = p :: r := by simp [Function.comp_def]
    have := Tryz.strings_Join b off cap ((p :: r).map fun l => (⟨l.toArray⟩ : ByteArray)) ⟨#[47]⟩ w (fun j x hx => by
      simp only [List.getElem?_map, Option.map_eq_some_iff] at hx
      obtain ⟨l, hl, rfl⟩ := hx
      exact hc j l hl) hb (by simpa using hL) (by simpa using hcap) (by rw [hm]; exact hl)
    rw [hm, List.length_map] at this
    exact this

theorem Strs.take {w : World} {A : Option Addr} {cap : Nat} {L : List (List UInt8)} {k : Nat} (h : Strs w (.slice A L.length cap) L) (hk : k ≤ L.length) : Strs w (.slice A k cap) (L.take k) := by
  obtain ⟨A', cap', e, hc, h⟩ := h
  cases e
  refine ⟨A, cap, by rw [List.length_take, Nat.min_eq_left hk], by rw [List.length_take]; omega, fun hn => ?_⟩
  rw [List.length_take] at hn
  obtain ⟨b, off, e, hb, hcell⟩ := h (by omega)
  refine ⟨b, off, e, hb, fun j p hj => hcell j p ?_⟩
  rw [List.getElem?_take] at hj
  split at hj
  · exact hj
  · cases hj

def parS (s : ByteArray) : List UInt8 := if pathB s.data.toList then parentL s.data.toList else []
theorem parS_yes {s : ByteArray} (h : pathB s.data.toList = true) : parS s = Lib.join (cutAt 47 s.data.toList).dropLast [47] := by unfold parS; rw [h]; rfl
theorem parS_no {s : ByteArray} (h : pathB s.data.toList = false) : parS s = [] := by unfold parS; rw [h]; rfl
theorem askC_zero {s : ByteArray} (h : askC s = 0) : s.size ≤ 65536 ∧ pathB s.data.toList = true := by
  unfold askC at h
  split at h
  · cases h
  · split at h
    · exact ⟨by omega, ‹_›⟩
    · cases h
theorem askC_bad {s : ByteArray} (h : askC s ≠ 0) : pathB s.data.toList = false := by
  unfold askC at h
  split at h
  · exact pathB_long (by omega)
  · split at h
    · exact absurd rfl h
    · rename_i h2; simpa using h2
theorem join_dropLast_len (l : List UInt8) : (Lib.join (cutAt 47 l).dropLast [47]).length ≤ l.length := by
  have h := cutAt_ne 47 l
  conv => rhs; rw [← join_cut l]
  rw [← List.dropLast_concat_getLast h, List.dropLast_concat]
  by_cases hd : (cutAt 47 l).dropLast = []
  · rw [hd]; simp [Lib.join_nil]
  · rw [join_snoc _ hd]; simp

set_option maxHeartbeats 400000 in
theorem parentOf_impl (s : ByteArray) (w : World) (hs : s.size ≤ maxLen) : Calls Tryz.prog 132 #[.string s] w fun e w' => e = .returned (.tuple #[strV (parS s), .int .i64 (askC s)]) ∧ Below w.heap.size w w' := by
  go_enter Tryz.func132, Tryz.ntmps132
  go_wp2_with fail
  refine (partsOf_impl _ _ hs).mono ?_
  rintro e w1 ⟨v, rfl, hb1, ho1⟩
  by_cases h0 : askC s = 0
  · have hB := askC_zero h0
    have HP := Lib.hid (parS_yes hB.2)
    have H0 := Lib.hid h0
    rw [partsOf_yes hB.2] at ho1
    have hpos := cutAt_pos 47 s.data.toList
    have hlen := (pathB_parts hB.2).1
    have hjl := join_dropLast_len s.data.toList
    rw [← Lib.size_eq] at hjl
    generalize hL : cutAt 47 s.data.toList = L at *
    have HL := Lib.hid hL
    clear hL
    obtain ⟨g, cap, rfl, hcap, hg0, hg1, hcell⟩ := own_slice ho1 (by omega)
    have hst := (Strs.own ho1).take (k := L.length - 1) (by omega)
    rw [← List.dropLast_eq_take] at hst
    have HS := Lib.hid hst
    clear hcell hst
    have hc1 : (1 : Int) ≤ (L.length : Int) := by omega
    rw [h0]
    clear h0
    go_wp2_with fail
    refine (join_any _ _ _ HS.out (by omega) (by rw [List.length_dropLast]; omega)).mono ?_
    rintro e w2 ⟨rfl, hb2⟩
    go_wp2_with fail
    go_ret2
    exact ⟨by rw [HP.out, H0.out]; rfl, hb1.trans (hb2.mono hb1.size)⟩
  · have HP := Lib.hid (parS_no (askC_bad h0))
    have hne : (askC s != 0) = true := by simpa using h0
    clear h0
    go_wp2_with fail
    go_ret2
    exact ⟨by rw [HP.out]; rfl, hb1⟩

set_option maxHeartbeats 400000 in
theorem l01Parent_any (s : ByteArray) (w : World) (hs : s.size ≤ maxLen) : Calls Tryz.prog 126 #[.string s] w fun e w' => e = .returned (strV (parentL s.data.toList)) ∧ w = w' := by
  unfold maxLen at hs
  go_enter Tryz.func126, Tryz.ntmps126
  go_wp2
  go_loop [3] (fun i => ∃ k : Nat, k ≤ s.size ∧ i = .int .i64 ((k : Int) - 1) ∧ Hid (Clear s.data.toList k)) (fun i => (intOf i + 1).toNat)
  case atStart => exact ⟨s.size, by omega, rfl, Clear.start s⟩
  case round =>
    obtain ⟨k, hk, rfl, HC⟩ := hrel
    cases k with
    | zero =>
      have HN := Lib.hid (Clear.none HC.out)
      go_wp2
      go_ret
      exact ⟨by rw [HN.out]; rfl, rfl⟩
    | succ k =>
      have e1 : (((k + 1 : Nat) : Int) - 1) = (k : Int) := by omega
      rw [e1]
      clear e1
      have hlt : k < s.size := by omega
      rcases Bool.eq_false_or_eq_true ((s[k].toNat : Int) == 47) with he | he
      · have HE : Hid (parentL s.data.toList = s.data.toList.take k) := HC.out.hit hlt (by simp at he; exact UInt8.toNat_inj.1 (by show _ = 47; omega))
        go_wp2
        go_ret
        exact ⟨by rw [HE.out, ← strV_take]; rfl, rfl⟩
      · have HD := Lib.hid (HC.out.down hlt (fun e => by rw [e] at he; exact absurd he (by decide)))
        go_wp2
        exact ⟨⟨k, by omega, rfl, HD⟩, by simp [intOf]⟩

end Go.Proofs.YtibekkfbpmloiabGreatDoor.Paths

/- Paths: JoinPath, of the program and of its model. -/
namespace Go.Proofs.YtibekkfbpmloiabGreatDoor.Paths
open Go.RowKit

/-- Which of the ways JoinPath goes: 0: too long · 1: no path, or no part · 2: too many parts · 3: from the root · 4: from a path. -/
def joinWay (d p : ByteArray) : Nat :=
  if 65536 < d.size ∨ 65536 < p.size then 0
  else if (d.size ≠ 0 ∧ pathB d.data.toList = false) ∨ partB p.data.toList = false then 1
  else if d.size = 0 then 3
  else if (cutAt 47 d.data.toList).length = 4 then 2 else 4
def joinCode (d p : ByteArray) : Int := match joinWay d p with | 0 => 2 | 1 => 10 | 2 => 6 | _ => 0
def joinRes (d p : ByteArray) : List UInt8 := match joinWay d p with | 3 => p.data.toList | 4 => d.data.toList ++ 47 :: p.data.toList | _ => []
def JoinPost (d p : ByteArray) (w : World) (e : Ending) (w' : World) : Prop := e = .returned (.tuple #[strV (joinRes d p), .int .i64 (joinCode d p)]) ∧ Below w.heap.size w w'

theorem JoinPost.long {d p : ByteArray} {w w' : World} (h : joinWay d p = 0) (hb : Below w.heap.size w w') : JoinPost d p w (.returned (.tuple #[.string ⟨#[]⟩, .int .i64 2])) w' := ⟨by unfold joinRes joinCode; rw [h]; rfl, hb⟩
theorem JoinPost.many {d p : ByteArray} {w w' : World} (h : joinWay d p = 2) (hb : Below w.heap.size w w') : JoinPost d p w (.returned (.tuple #[.string ⟨#[]⟩, .int .i64 6])) w' := ⟨by unfold joinRes joinCode; rw [h]; rfl, hb⟩
theorem JoinPost.root {d p : ByteArray} {w w' : World} (h : joinWay d p = 3) (hb : Below w.heap.size w w') : JoinPost d p w (.returned (.tuple #[strV p.data.toList, .int .i64 0])) w' := ⟨by unfold joinRes joinCode; rw [h]; rfl, hb⟩
theorem pathB_empty {d : ByteArray} (h : d.size = 0) : pathB d.data.toList = false := by
  have : d.data.toList = [] := by
    have := Lib.size_eq d
    rw [h] at this
    exact List.eq_nil_of_length_eq_zero this.symm
  rw [this]
  decide

end Go.Proofs.YtibekkfbpmloiabGreatDoor.Paths
