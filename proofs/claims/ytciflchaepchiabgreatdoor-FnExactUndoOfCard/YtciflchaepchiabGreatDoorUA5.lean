/- Parts of several texts of mine in one file (each begins with its own remark). -/
import Derived.Test.YtciflchaepchiabGreatDoorUA1
import Derived.Test.YtciflchaepchiabGreatDoorUA2
import Derived.Test.YtciflchaepchiabGreatDoorUA3
import Derived.Test.YtciflchaepchiabGreatDoorUA4
import Derived.Test.YtciflchaepchiabGreatDoorChecked
import Derived.Deep.Slices
import Derived.OpenShut
import Derived.ShutString
import Derived.ChangeArms
import Derived.WideShapes
import Derived.Lib.LaidTab
import Derived.BigQuiet
import Derived.Deep.QuietTactic
import Derived.Deep.RegionHeld3
import Derived.StillTailTactics
import Derived.Deep.Draws
import Derived.Deep.LoopGhost
import Derived.WalkKit
import Derived.WalkSpells
import Derived.WalkSmall
import Derived.Lib.OthersKept
import Derived.Lib.Hide
import Derived.Lib.Strings
import Derived.Lib.Join
/- Layers as plain lists of records: the canonical form is canonical; what is above a path, as a list; what a layer cuts off. -/
namespace Go.Proofs.YtciflchaepchiabGreatDoor.Recs
open Go.RowKit Paths

theorem sorted_mem_once {l : List R} (h : Sorted l) {x y : R} (hx : x ∈ l) (hy : y ∈ l) (he : x.p = y.p) : x = y := by
  obtain ⟨i, hi, rfl⟩ := List.getElem_of_mem hx
  obtain ⟨j, hj, rfl⟩ := List.getElem_of_mem hy
  have := sorted_once h hi hj he
  subst this
  rfl
/-- The record of a path. -/
def recAt (l : List R) (q : ByteArray) : Option R := l.find? fun r => decide (r.p = q)
theorem recAt_mem {l : List R} {q : ByteArray} {r : R} (h : recAt l q = some r) : r ∈ l ∧ r.p = q := by
  unfold recAt at h
  exact ⟨List.mem_of_find?_eq_some h, by simpa using List.find?_some h⟩
theorem recAt_none {l : List R} {q : ByteArray} (h : recAt l q = none) : ∀ r ∈ l, r.p ≠ q := by
  unfold recAt at h
  intro r hr
  simpa using List.find?_eq_none.1 h r hr
theorem recAt_of {l : List R} (h : Sorted l) {r : R} (hr : r ∈ l) : recAt l r.p = some r := by
  cases hc : recAt l r.p with
  | none => exact absurd rfl (recAt_none hc r hr)
  | some x =>
    obtain ⟨h1, h2⟩ := recAt_mem hc
    rw [sorted_mem_once h h1 hr h2]
/-- The place of a path and its record. -/
theorem atL_recAt (l : List R) (q : ByteArray) : (atL l q = -1 ∧ recAt l q = none) ∨ ∃ i : Nat, ∃ h : i < l.length, atL l q = (i : Int) ∧ recAt l q = some l[i] := by
  rcases atL_cases l q with ⟨h1, h2⟩ | ⟨i, hi, h1, h2, h3⟩
  · refine .inl ⟨h1, ?_⟩
    unfold recAt
    rw [List.find?_eq_none]
    intro r hr
    simpa using h2 r hr
  · refine .inr ⟨i, hi, h1, ?_⟩
    unfold recAt
    rw [List.find?_eq_some_iff_getElem]
    exact ⟨by simpa using h2, i, hi, rfl, fun j hj => by simpa using h3 j hj⟩
/-- What is above a path: its parent, the parent of that, and so on; n bounds how far up. -/
def upF : Nat → ByteArray → List ByteArray
  | 0, _ => []
  | n + 1, q => if parentL q.data.toList = [] then [] else parO q :: upF n (parO q)
def ups (q : ByteArray) : List ByteArray := upF 4 q
/-- A record stops what is below it from being seen. -/
def stops (r : R) : Bool := decide (r.k ≠ 3) || r.o
def stopsAt (l : List R) (q : ByteArray) : Bool := (recAt l q).any stops
def cutsL (l : List R) (q : ByteArray) : Bool := (ups q).any (stopsAt l)
end Go.Proofs.YtciflchaepchiabGreatDoor.Recs

/- Sorted lists of records are told by their members; what is above a path; a housed list has all that is above its records. -/
namespace Go.Proofs.YtciflchaepchiabGreatDoor.Recs
open Go.RowKit Paths

theorem sorted_ext : ∀ a b : List R, Sorted a → Sorted b → (∀ x, x ∈ a ↔ x ∈ b) → a = b
  | [], [], _, _, _ => rfl
  | [], y :: b, _, _, h => by have := (h y).2 (by simp); cases this
  | x :: a, [], _, _, h => by have := (h x).1 (by simp); cases this
  | x :: a, y :: b, ha, hb, h => by
    unfold Sorted at ha hb
    rw [List.pairwise_cons] at ha hb
    have exy : x = y := by
      rcases List.mem_cons.1 ((h x).1 (by simp)) with e | hx
      · exact e
      rcases List.mem_cons.1 ((h y).2 (by simp)) with e | hy
      · exact e.symm
      have h1 := hb.1 x hx
      have h2 := ha.1 y hy
      unfold lessR at h1 h2
      rw [lessP_asymm _ _ h1] at h2
      cases h2
    subst exy
    rw [sorted_ext a b ha.2 hb.2 fun z => ?_]
    constructor
    · intro hz
      rcases List.mem_cons.1 ((h z).1 (by simp [hz])) with e | hz'
      · subst e
        have := ha.1 z hz
        rw [lessR_irrefl] at this
        cases this
      · exact hz'
    · intro hz
      rcases List.mem_cons.1 ((h z).2 (by simp [hz])) with e | hz'
      · subst e
        have := hb.1 z hz
        rw [lessR_irrefl] at this
        cases this
      · exact hz'

theorem upF_more : ∀ (n : Nat) (q : ByteArray), pathB q.data.toList = true → (cutAt 47 q.data.toList).length ≤ n → ∀ m, n ≤ m → upF m q = upF n q := by
  intro n
  induction n with
  | zero =>
    intro q _ hl
    exact absurd (List.eq_nil_of_length_eq_zero (show (cutAt 47 q.data.toList).length = 0 by omega)) (cutAt_ne 47 _)
  | succ n ih =>
    intro q hq hl m hm
    obtain ⟨m', rfl⟩ : ∃ m', m = m' + 1 := ⟨m - 1, by omega⟩
    simp only [upF]
    by_cases hp : parentL q.data.toList = []
    · rw [if_pos hp, if_pos hp]
    · obtain ⟨h1, h2⟩ := parts_parent hq hp
      rw [if_neg hp, if_neg hp, ih (parO q) h1 (by omega) m' (by omega)]
theorem ups_step {q : ByteArray} (h : pathB q.data.toList = true) : ups q = if parentL q.data.toList = [] then [] else parO q :: ups (parO q) := by
  have e : ups q = if parentL q.data.toList = [] then [] else parO q :: upF 3 (parO q) := rfl
  by_cases hp : parentL q.data.toList = []
  · rw [e, if_pos hp, if_pos hp]
  · obtain ⟨h1, h2⟩ := parts_parent h hp
    have h3 := (pathB_parts h).1
    have h4 : ups (parO q) = upF 3 (parO q) := upF_more 3 (parO q) h1 (by omega) 4 (by omega)
    rw [e, if_neg hp, if_neg hp, h4]
/-- To show a thing of a path, show it where it holds of its parent. -/
theorem path_ind {P : ByteArray → Prop} (hr : ∀ q : ByteArray, pathB q.data.toList = true → parentL q.data.toList = [] → P q)
    (hs : ∀ q : ByteArray, pathB q.data.toList = true → parentL q.data.toList ≠ [] → pathB (parO q).data.toList = true → P (parO q) → P q) : ∀ q : ByteArray, pathB q.data.toList = true → P q := by
  have hn : ∀ n, ∀ q : ByteArray, pathB q.data.toList = true → (cutAt 47 q.data.toList).length ≤ n → P q := by
    intro n
    induction n with
    | zero =>
      intro q _ hl
      exact absurd (List.eq_nil_of_length_eq_zero (show (cutAt 47 q.data.toList).length = 0 by omega)) (cutAt_ne 47 _)
    | succ n ih =>
      intro q hq hl
      by_cases hp : parentL q.data.toList = []
      · exact hr q hq hp
      · obtain ⟨h1, h2⟩ := parts_parent hq hp
        exact hs q hq hp h1 (ih _ h1 (by omega))
  exact fun q hq => hn _ q hq (Nat.le_refl _)
theorem ups_path {q : ByteArray} (h : pathB q.data.toList = true) : ∀ a ∈ ups q, pathB a.data.toList = true := by
  refine path_ind (P := fun q => ∀ a ∈ ups q, pathB a.data.toList = true) ?_ ?_ q h
  · intro q hq hp a ha
    rw [ups_step hq, if_pos hp] at ha
    cases ha
  · intro q hq hp h1 ih a ha
    rw [ups_step hq, if_neg hp] at ha
    rcases List.mem_cons.1 ha with rfl | ha
    · exact h1
    · exact ih a ha
theorem ups_less {q : ByteArray} (h : pathB q.data.toList = true) : ∀ a ∈ ups q, lessP (cutAt 47 a.data.toList) (cutAt 47 q.data.toList) = true := by
  refine path_ind (P := fun q => ∀ a ∈ ups q, lessP (cutAt 47 a.data.toList) (cutAt 47 q.data.toList) = true) ?_ ?_ q h
  · intro q hq hp a ha
    rw [ups_step hq, if_pos hp] at ha
    cases ha
  · intro q hq hp h1 ih a ha
    rw [ups_step hq, if_neg hp] at ha
    have h2 := parent_less hq hp
    rcases List.mem_cons.1 ha with rfl | ha
    · exact h2
    · exact lessP_trans _ _ _ (ih a ha) h2
theorem ups_trans {c : ByteArray} (h : pathB c.data.toList = true) : ∀ a b, b ∈ ups c → a ∈ ups b → a ∈ ups c := by
  refine path_ind (P := fun c => ∀ a b, b ∈ ups c → a ∈ ups b → a ∈ ups c) ?_ ?_ c h
  · intro q hq hp a b hb
    rw [ups_step hq, if_pos hp] at hb
    cases hb
  · intro q hq hp h1 ih a b hb ha
    rw [ups_step hq, if_neg hp] at hb ⊢
    rcases List.mem_cons.1 hb with rfl | hb
    · exact List.mem_cons_of_mem _ ha
    · exact List.mem_cons_of_mem _ (ih a b hb ha)
/-- All that is above a record of a housed list is a directory of it. -/
theorem housed_ups {t : List R} (hh : Housed t) {q : ByteArray} (h : pathB q.data.toList = true) : ∀ x ∈ t, x.p = q → ∀ a ∈ ups q, ∃ n ∈ t, n.p = a ∧ n.k = 3 := by
  refine path_ind (P := fun q => ∀ x ∈ t, x.p = q → ∀ a ∈ ups q, ∃ n ∈ t, n.p = a ∧ n.k = 3) ?_ ?_ q h
  · intro q hq hp x _ _ a ha
    rw [ups_step hq, if_pos hp] at ha
    cases ha
  · intro q hq hp h1 ih x hx hxq a ha
    rw [ups_step hq, if_neg hp] at ha
    subst hxq
    obtain ⟨n, hn, hnp, hnk⟩ := hh x hx hp
    rcases List.mem_cons.1 ha with rfl | ha
    · exact ⟨n, hn, hnp, hnk⟩
    · exact ih n hn hnp a ha
end Go.Proofs.YtciflchaepchiabGreatDoor.Recs

/- Applying a layer to a tree, both as plain sorted lists (a node is a record that is not Opaque): what the result holds, in closed form. -/
namespace Go.Proofs.YtciflchaepchiabGreatDoor.Recs
open Go.RowKit Paths

/-- q is above p. -/
def isUp (q p : ByteArray) : Bool := (ups p).any fun a => decide (a = q)
theorem isUp_iff {q p : ByteArray} : isUp q p = true ↔ q ∈ ups p := by
  unfold isUp
  rw [List.any_eq_true]
  constructor
  · rintro ⟨a, ha, he⟩
    rw [decide_eq_true_eq] at he
    exact he ▸ ha
  · exact fun h => ⟨q, h, by simp⟩
theorem isUp_no {q p : ByteArray} : isUp q p = false ↔ q ∉ ups p := by
  rw [← isUp_iff]
  simp
def nodeOf (r : R) : R := { r with o := false }
/-- Without what is below a path, and, if so asked, without its own node. -/
def withoutL (t : List R) (q : ByteArray) (self : Bool) : List R := t.filter fun x => !isUp q x.p && !(self && decide (x.p = q))
/-- A node in its place, in the place of one of its path. -/
def putL (t : List R) (n : R) : List R := t.filter (fun x => lessR x n) ++ n :: t.filter (fun x => lessR n x)
/-- Must what is below a record's path go? -/
def clears (t : List R) (r : R) : Bool := stops r || (recAt t r.p).any (fun n => decide (n.k ≠ 3))
def doR (t : List R) (r : R) : List R :=
  if r.k = 4 then withoutL t r.p true else putL (if clears t r then withoutL t r.p false else t) (nodeOf r)
def applyL (l t : List R) : List R := l.foldl doR t

theorem mem_without {t : List R} {q : ByteArray} {self : Bool} {x : R} : x ∈ withoutL t q self ↔ x ∈ t ∧ q ∉ ups x.p ∧ (self = true → x.p ≠ q) := by
  unfold withoutL
  rw [List.mem_filter, Bool.and_eq_true, Bool.not_eq_true', isUp_no]
  cases self <;> simp
theorem without_sorted {t : List R} (h : Sorted t) (q : ByteArray) (self : Bool) : Sorted (withoutL t q self) := List.Pairwise.filter _ h
theorem bytes_cut {a b : ByteArray} (h : cutAt 47 a.data.toList = cutAt 47 b.data.toList) : a = b := by
  have e : a.data.toList = b.data.toList := by rw [← join_cut a.data.toList, h, join_cut]
  apply ByteArray.ext
  exact Array.ext' e
/-- Of two records of different paths one is less. -/
theorem less_or {x n : R} (h : x.p ≠ n.p) : lessR x n = true ∨ lessR n x = true := by
  rcases Bool.eq_false_or_eq_true (lessR x n) with h1 | h1
  · exact .inl h1
  rcases Bool.eq_false_or_eq_true (lessR n x) with h2 | h2
  · exact .inr h2
  exact absurd (bytes_cut (lessP_total _ _ h1 h2)) h
theorem less_ne {x n : R} (h : lessR x n = true) : x.p ≠ n.p := fun e => by
  unfold lessR at h
  rw [e, lessP_irrefl] at h
  cases h
theorem mem_put {t : List R} {n x : R} : x ∈ putL t n ↔ x = n ∨ x ∈ t ∧ x.p ≠ n.p := by
  unfold putL
  rw [List.mem_append, List.mem_cons, List.mem_filter, List.mem_filter]
  constructor
  · rintro (⟨h1, h2⟩ | h | ⟨h1, h2⟩)
    · exact .inr ⟨h1, less_ne h2⟩
    · exact .inl h
    · exact .inr ⟨h1, fun e => less_ne h2 e.symm⟩
  · rintro (h | ⟨h1, h2⟩)
    · exact .inr (.inl h)
    · rcases less_or h2 with h3 | h3
      · exact .inl ⟨h1, h3⟩
      · exact .inr (.inr ⟨h1, h3⟩)
theorem put_sorted {t : List R} (h : Sorted t) (n : R) : Sorted (putL t n) := by
  unfold putL Sorted
  rw [List.pairwise_append]
  refine ⟨List.Pairwise.filter _ h, ?_, ?_⟩
  · rw [List.pairwise_cons]
    exact ⟨fun x hx => (List.mem_filter.1 hx).2, List.Pairwise.filter _ h⟩
  · intro a ha b hb
    have h1 := (List.mem_filter.1 ha).2
    rcases List.mem_cons.1 hb with rfl | hb
    · exact h1
    · exact lessP_trans _ _ _ h1 (List.mem_filter.1 hb).2
theorem do_sorted {t : List R} (h : Sorted t) (r : R) : Sorted (doR t r) := by
  unfold doR
  split
  · exact without_sorted h _ _
  · split
    · exact put_sorted (without_sorted h _ _) _
    · exact put_sorted h _
theorem apply_sorted : ∀ (l : List R) {t : List R}, Sorted t → Sorted (applyL l t)
  | [], _, h => h
  | r :: l, _, h => apply_sorted l (do_sorted h r)
theorem mem_do {t : List R} {r x : R} : x ∈ doR t r ↔ (r.k ≠ 4 ∧ x = nodeOf r) ∨ (x ∈ t ∧ x.p ≠ r.p ∧ ((r.k = 4 ∨ clears t r = true) → r.p ∉ ups x.p)) := by
  unfold doR
  by_cases hk : r.k = 4
  · rw [if_pos hk, mem_without]
    constructor
    · rintro ⟨h1, h2, h3⟩
      exact .inr ⟨h1, h3 rfl, fun _ => h2⟩
    · rintro (⟨h1, _⟩ | ⟨h1, h2, h3⟩)
      · exact absurd hk h1
      · exact ⟨h1, h3 (.inl hk), fun _ => h2⟩
  · rw [if_neg hk, mem_put]
    have ep : (nodeOf r).p = r.p := rfl
    rw [ep]
    by_cases hc : clears t r = true
    · rw [if_pos hc, mem_without]
      constructor
      · rintro (h | ⟨⟨h1, h2, _⟩, h4⟩)
        · exact .inl ⟨hk, h⟩
        · exact .inr ⟨h1, h4, fun _ => h2⟩
      · rintro (⟨_, h⟩ | ⟨h1, h2, h3⟩)
        · exact .inl h
        · exact .inr ⟨⟨h1, h3 (.inr hc), fun h => by cases h⟩, h2⟩
    · rw [if_neg hc]
      constructor
      · rintro (h | ⟨h1, h2⟩)
        · exact .inl ⟨hk, h⟩
        · exact .inr ⟨h1, h2, fun h => by rcases h with h | h <;> contradiction⟩
      · rintro (⟨_, h⟩ | ⟨h1, h2, _⟩)
        · exact .inl h
        · exact .inr ⟨h1, h2⟩

/-- Lists that grow at their end: Sorted. -/
theorem sorted_snoc {l : List R} {r : R} (h : Sorted (l ++ [r])) : Sorted l ∧ ∀ x ∈ l, lessR x r = true := by
  unfold Sorted at h
  rw [List.pairwise_append] at h
  exact ⟨h.1, fun x hx => h.2.2 x hx r (by simp)⟩
theorem recAt_snoc (l : List R) (r : R) (q : ByteArray) : recAt (l ++ [r]) q = (recAt l q).or (if r.p = q then some r else none) := by
  unfold recAt
  rw [List.find?_append]
  congr 1
  by_cases h : r.p = q <;> simp [h]
theorem cuts_snoc {l : List R} {r : R} (h : Sorted (l ++ [r])) (q : ByteArray) : cutsL (l ++ [r]) q = (cutsL l q || (isUp r.p q && stops r)) := by
  obtain ⟨_, hlt⟩ := sorted_snoc h
  have hno : recAt l r.p = none := by
    cases hr : recAt l r.p with
    | none => rfl
    | some x =>
      obtain ⟨h1, h2⟩ := recAt_mem hr
      exact absurd h2 (less_ne (hlt x h1))
  have hat : ∀ a, stopsAt (l ++ [r]) a = (stopsAt l a || (decide (r.p = a) && stops r)) := by
    intro a
    unfold stopsAt
    rw [recAt_snoc]
    by_cases e : r.p = a
    · subst e
      rw [hno]
      simp
    · rw [if_neg e]
      cases recAt l a <;> simp [e]
  unfold cutsL
  rw [Bool.eq_iff_iff]
  simp only [List.any_eq_true, Bool.or_eq_true, Bool.and_eq_true, decide_eq_true_eq, isUp_iff, hat]
  constructor
  · rintro ⟨a, ha, h1 | ⟨rfl, h1⟩⟩
    · exact .inl ⟨a, ha, h1⟩
    · exact .inr ⟨ha, h1⟩
  · rintro (⟨a, ha, h1⟩ | ⟨ha, h1⟩)
    · exact ⟨a, ha, .inl h1⟩
    · exact ⟨r.p, ha, .inr ⟨rfl, h1⟩⟩

/-- A tree: sorted, housed, its paths are paths. -/
structure IsTree (t : List R) : Prop where
  sorted : Sorted t
  housed : Housed t
  path : ∀ x ∈ t, pathB x.p.data.toList = true

/-- WHAT APPLYING LEAVES: the records that are no whiteouts, as nodes; and of the tree what the layer has no record of and does not cut off. -/
theorem mem_apply {t : List R} (ht : IsTree t) (l : List R) : Sorted l → (∀ r ∈ l, pathB r.p.data.toList = true) → ∀ x, x ∈ applyL l t ↔ (∃ r ∈ l, r.k ≠ 4 ∧ x = nodeOf r) ∨ (x ∈ t ∧ recAt l x.p = none ∧ cutsL l x.p = false) := by
  have hrev : ∀ m : List R, Sorted m.reverse → (∀ r ∈ m.reverse, pathB r.p.data.toList = true) → ∀ x, x ∈ applyL m.reverse t ↔ (∃ r ∈ m.reverse, r.k ≠ 4 ∧ x = nodeOf r) ∨ (x ∈ t ∧ recAt m.reverse x.p = none ∧ cutsL m.reverse x.p = false) := by
    intro m
    induction m with
    | nil =>
      intro _ _ x
      have e2 : cutsL [] x.p = false := by
        unfold cutsL
        rw [List.any_eq_false]
        intro a _
        simp [stopsAt, recAt]
      simp [applyL, recAt, e2]
    | cons r m ih =>
      intro hs hpath x
      rw [List.reverse_cons] at hs hpath ⊢
      obtain ⟨hs1, hlt⟩ := sorted_snoc hs
      have ih := ih hs1 (fun y hy => hpath y (by simp at hy ⊢; exact .inl hy))
      have hrp : pathB r.p.data.toList = true := hpath r (by simp)
      have eA : applyL (m.reverse ++ [r]) t = doR (applyL m.reverse t) r := by unfold applyL; rw [List.foldl_append]; rfl
      rw [eA, mem_do, cuts_snoc hs, recAt_snoc]
      have hno : recAt m.reverse r.p = none := by
        cases hr : recAt m.reverse r.p with
        | none => rfl
        | some y =>
          obtain ⟨h1, h2⟩ := recAt_mem hr
          exact absurd h2 (less_ne (hlt y h1))
      -- a record of the elder part is neither at r's path nor below it
      have hold : ∀ y ∈ m.reverse, y.p ≠ r.p ∧ r.p ∉ ups y.p := fun y hy => ⟨less_ne (hlt y hy), fun hu => by
        have h1 := ups_less (hpath y (by simp at hy ⊢; exact .inl hy)) _ hu
        have h2 := hlt y hy
        unfold lessR at h2
        rw [lessP_asymm _ _ h1] at h2
        cases h2⟩
      -- what is in the tree below r's path, not cut off, has a directory there
      have hclear : ∀ y ∈ t, r.p ∈ ups y.p → clears (applyL m.reverse t) r = stops r := by
        intro y hy hu
        obtain ⟨n, hn, hnp, hnk⟩ := housed_ups ht.housed (ht.path y hy) y hy rfl r.p hu
        unfold clears
        cases hr : recAt (applyL m.reverse t) r.p with
        | none => simp
        | some z =>
          obtain ⟨hz, hzp⟩ := recAt_mem hr
          have hzk : z.k = 3 := by
            rcases (ih z).1 hz with ⟨q, hq, _, rfl⟩ | ⟨hzt, _⟩
            · exact absurd hzp (hold q hq).1
            · rw [sorted_mem_once ht.sorted hzt hn (hzp.trans hnp.symm)]; exact hnk
          simp [hzk]
      constructor
      · rintro (⟨h1, h2⟩ | ⟨h1, h2, h3⟩)
        · exact .inl ⟨r, by simp, h1, h2⟩
        · rcases (ih x).1 h1 with ⟨q, hq, hqk, hqx⟩ | ⟨hxt, hx1, hx2⟩
          · exact .inl ⟨q, by simp at hq ⊢; exact .inl hq, hqk, hqx⟩
          · refine .inr ⟨hxt, ?_, ?_⟩
            · rw [hx1, if_neg (fun e => h2 e.symm)]; rfl
            · rw [hx2, Bool.false_or]
              by_cases hu : r.p ∈ ups x.p
              · have hc := hclear x hxt hu
                have hns : stops r = false := by
                  rcases Bool.eq_false_or_eq_true (stops r) with h5 | h5
                  · exact absurd hu (h3 (.inr (hc.trans h5)))
                  · exact h5
                rw [hns, Bool.and_false]
              · rw [isUp_no.2 hu, Bool.false_and]
      · rintro (⟨q, hq, hqk, hqx⟩ | ⟨hxt, hx1, hx2⟩)
        · rcases List.mem_append.1 hq with hq | hq
          · refine .inr ⟨(ih x).2 (.inl ⟨q, hq, hqk, hqx⟩), ?_, fun _ => ?_⟩
            · rw [hqx]; exact (hold q hq).1
            · rw [hqx]; exact (hold q hq).2
          · rw [List.mem_singleton.1 hq] at hqk hqx
            exact .inl ⟨hqk, hqx⟩
        · have hxr : recAt m.reverse x.p = none ∧ ¬ r.p = x.p := by
            cases hr : recAt m.reverse x.p with
            | some z => rw [hr] at hx1; cases hx1
            | none =>
              refine ⟨rfl, fun e => ?_⟩
              rw [hr, if_pos e] at hx1
              cases hx1
          rw [Bool.or_eq_false_iff] at hx2
          refine .inr ⟨(ih x).2 (.inr ⟨hxt, hxr.1, hx2.1⟩), fun e => hxr.2 e.symm, fun hc hu => ?_⟩
          have h5 := hx2.2
          rw [isUp_iff.2 hu, Bool.true_and] at h5
          rcases hc with hc | hc
          · unfold stops at h5
            rw [hc] at h5
            simp at h5
          · rw [hclear x hxt hu, h5] at hc
            cases hc
  intro hs hp
  have := hrev l.reverse (by rwa [List.reverse_reverse]) (by rwa [List.reverse_reverse])
  rwa [List.reverse_reverse] at this
end Go.Proofs.YtciflchaepchiabGreatDoor.Recs

/- Applying layers, plain: the result is a tree; applying again changes nothing; the canonical form has the same effect on every tree. -/
namespace Go.Proofs.YtciflchaepchiabGreatDoor.Recs
open Go.RowKit Paths

/-- What a layer is, for its effect. -/
structure IsLayer (l : List R) : Prop where
  sorted : Sorted l
  housed : Housed l
  path : ∀ x ∈ l, pathB x.p.data.toList = true
theorem layer_is {l : List R} (h : layerOK l = true) : IsLayer l := ⟨layer_sorted h, layer_housed h, fun _ hx => (fault_path (layer_rec h hx)).1⟩

theorem cuts_up {l : List R} {c q : ByteArray} (hq : pathB q.data.toList = true) (hc : c ∈ ups q) (h : cutsL l c = true) : cutsL l q = true := by
  unfold cutsL at h ⊢
  rw [List.any_eq_true] at h ⊢
  obtain ⟨a, ha, hs⟩ := h
  exact ⟨a, ups_trans hq a c hc ha, hs⟩
theorem cuts_at {l : List R} {c q : ByteArray} (hc : c ∈ ups q) {r : R} (hr : recAt l c = some r) (hs : stops r = true) : cutsL l q = true := by
  unfold cutsL
  rw [List.any_eq_true]
  exact ⟨c, hc, by unfold stopsAt; rw [hr]; simpa using hs⟩
theorem stops_no {r : R} (h : stops r = false) : r.k = 3 ∧ r.o = false := by
  unfold stops at h
  simpa using h
theorem parent_up {q : ByteArray} (h : pathB q.data.toList = true) (hp : parentL q.data.toList ≠ []) : parO q ∈ ups q := by
  rw [ups_step h, if_neg hp]
  simp

/-- (a) The result of applying a layer to a tree is a tree. -/
theorem apply_tree {l t : List R} (hl : IsLayer l) (ht : IsTree t) : IsTree (applyL l t) := by
  have hm := mem_apply ht l hl.sorted hl.path
  have hpath : ∀ x ∈ applyL l t, pathB x.p.data.toList = true := by
    intro x hx
    rcases (hm x).1 hx with ⟨r, hr, _, rfl⟩ | ⟨h1, _⟩
    · exact hl.path r hr
    · exact ht.path x h1
  refine ⟨apply_sorted l ht.sorted, ?_, hpath⟩
  intro x hx hp
  rcases (hm x).1 hx with ⟨r, hr, _, rfl⟩ | ⟨h1, h2, h3⟩
  · obtain ⟨s, hs, hsp, hsk⟩ := hl.housed r hr hp
    exact ⟨nodeOf s, (hm _).2 (.inl ⟨s, hs, by omega, rfl⟩), hsp, hsk⟩
  · obtain ⟨n, hn, hnp, hnk⟩ := ht.housed x h1 hp
    have hup := parent_up (ht.path x h1) hp
    cases hr : recAt l (parO x.p) with
    | some s =>
      obtain ⟨hs, hsp⟩ := recAt_mem hr
      have hst : stops s = false := by
        rcases Bool.eq_false_or_eq_true (stops s) with h | h
        · rw [cuts_at hup hr h] at h3; cases h3
        · exact h
      have hk := (stops_no hst).1
      exact ⟨nodeOf s, (hm _).2 (.inl ⟨s, hs, by omega, rfl⟩), hsp, hk⟩
    | none =>
      refine ⟨n, (hm n).2 (.inr ⟨hn, by rw [hnp]; exact hr, ?_⟩), hnp, hnk⟩
      rw [hnp]
      rcases Bool.eq_false_or_eq_true (cutsL l (parO x.p)) with h | h
      · rw [cuts_up (ht.path x h1) hup h] at h3; cases h3
      · exact h

end Go.Proofs.YtciflchaepchiabGreatDoor.Recs

/- Trees as plain lists of nodes (records of which Opaque is false): the model's check, record by record, and what it says at once. -/
namespace Go.Proofs.YtciflchaepchiabGreatDoor.Recs
open Go.RowKit Paths

/-- The parent of a path, where it is no root, stands among the first i and is a directory. -/
def homeOK (t : List R) (i : Nat) (q : ByteArray) : Bool :=
  if parentL q.data.toList = [] then true else decide (0 ≤ atL (t.take i) (parO q)) && (t[(atL (t.take i) (parO q)).toNat]?).all (fun x => decide (x.k = 3))
/-- The node r is fine at place i. -/
def nodeOK (t : List R) (i : Nat) (r : R) : Bool :=
  decide (r.k ≠ 4) && decide (r.fault = 0) && (beforeL t i).all (fun x => lessR x r) && homeOK t i r.p
def treeFrom (t : List R) (i : Nat) : Bool := if h : i < t.length then nodeOK t i t[i] && treeFrom t (i + 1) else true
termination_by t.length - i
def treeOK (t : List R) : Bool := decide (t.length ≤ 24) && treeFrom t 0
theorem treeFrom_step {t : List R} {i : Nat} (h : i < t.length) : treeFrom t i = (nodeOK t i t[i] && treeFrom t (i + 1)) := by rw [treeFrom, dif_pos h]
theorem treeFrom_end {t : List R} {i : Nat} (h : t.length ≤ i) : treeFrom t i = true := by rw [treeFrom, dif_neg (by omega)]
theorem treeFrom_all (t : List R) : ∀ (n i : Nat), t.length - i = n → (treeFrom t i = true ↔ ∀ j (h : j < t.length), i ≤ j → nodeOK t j t[j] = true) := by
  intro n
  induction n with
  | zero =>
    intro i hi
    rw [treeFrom_end (by omega)]
    exact ⟨fun _ j hj hij => by omega, fun _ => rfl⟩
  | succ n ih =>
    intro i hi
    have hlt : i < t.length := by omega
    rw [treeFrom_step hlt, Bool.and_eq_true, ih (i + 1) (by omega)]
    constructor
    · rintro ⟨h1, h2⟩ j hj hij
      rcases Nat.eq_or_lt_of_le hij with rfl | h3
      · exact h1
      · exact h2 j hj h3
    · intro h
      exact ⟨h i hlt (Nat.le_refl _), fun j hj hij => h j hj (by omega)⟩
theorem homeOK_yes {t : List R} {i : Nat} (hi : i ≤ t.length) {q : ByteArray} (h : homeOK t i q = true) (hp : parentL q.data.toList ≠ []) : ∃ k, ∃ hk : k < i, (t[k]'(by omega)).p = parO q ∧ (t[k]'(by omega)).k = 3 := by
  unfold homeOK at h
  rw [if_neg hp, Bool.and_eq_true, decide_eq_true_eq] at h
  rcases atL_cases (t.take i) (parO q) with ⟨h3, _⟩ | ⟨k, hk, h3, h4, _⟩
  · omega
  · have hki : k < i := by rw [List.length_take] at hk; omega
    refine ⟨k, hki, by simpa using h4, ?_⟩
    have h5 := h.2
    rw [h3, Int.toNat_natCast, List.getElem?_eq_getElem (by omega)] at h5
    simpa using h5
theorem nodeOK_parts {t : List R} {i : Nat} (hi : i < t.length) (h : nodeOK t i t[i] = true) :
    t[i].k ≠ 4 ∧ t[i].fault = 0 ∧ (∀ x, beforeL t i = some x → lessR x t[i] = true) ∧ (parentL t[i].p.data.toList ≠ [] → ∃ k, ∃ hk : k < i, (t[k]'(by omega)).p = parO t[i].p ∧ (t[k]'(by omega)).k = 3) := by
  unfold nodeOK at h
  simp only [Bool.and_eq_true, decide_eq_true_eq] at h
  obtain ⟨⟨⟨h1, h2⟩, h3⟩, h4⟩ := h
  refine ⟨h1, h2, fun x hx => ?_, homeOK_yes (by omega) h4⟩
  rw [hx] at h3
  simpa using h3
theorem nexts_sorted {t : List R} (h : ∀ i (hi : i + 1 < t.length), lessR (t[i]'(by omega)) t[i + 1] = true) : Sorted t := by
  have key : ∀ (n i j : Nat) (hj : j < t.length) (hij : j = i + 1 + n), lessR (t[i]'(by omega)) t[j] = true := by
    intro n
    induction n with
    | zero => intro i j hj hij; subst hij; exact h i hj
    | succ n ih =>
      intro i j hj hij
      subst hij
      exact lessP_trans _ _ _ (ih i (i + 1 + n) (by omega) rfl) (h (i + 1 + n) (by omega))
  unfold Sorted
  rw [List.pairwise_iff_getElem]
  exact fun i j _ hj hij => key (j - i - 1) i j hj (by omega)
/-- What a tree is. -/
structure Tree (t : List R) : Prop where
  len : t.length ≤ 24
  kind : ∀ r ∈ t, r.k ≠ 4
  fault : ∀ r ∈ t, r.fault = 0
  sorted : Sorted t
  housed : Housed t
theorem tree_of {t : List R} (h : treeOK t = true) : Tree t := by
  unfold treeOK at h
  rw [Bool.and_eq_true, decide_eq_true_eq] at h
  have hall := (treeFrom_all t _ 0 rfl).1 h.2
  have hp := fun i (hi : i < t.length) => nodeOK_parts hi (hall i hi (Nat.zero_le _))
  refine ⟨h.1, fun r hr => ?_, fun r hr => ?_, nexts_sorted fun i hi => ?_, fun r hr hpar => ?_⟩
  · obtain ⟨i, hi, rfl⟩ := List.getElem_of_mem hr
    exact (hp i hi).1
  · obtain ⟨i, hi, rfl⟩ := List.getElem_of_mem hr
    exact (hp i hi).2.1
  · refine (hp (i + 1) hi).2.2.1 _ ?_
    unfold beforeL
    rw [if_neg (by omega)]
    simp [show i < t.length by omega]
  · obtain ⟨i, hi, rfl⟩ := List.getElem_of_mem hr
    obtain ⟨k, hk, h1, h2⟩ := (hp i hi).2.2.2 hpar
    exact ⟨_, List.getElem_mem _, h1, h2⟩
theorem home_of {t : List R} (hs : Sorted t) (hh : Housed t) {i : Nat} (hi : i < t.length) (hpath : pathB t[i].p.data.toList = true) : homeOK t i t[i].p = true := by
  unfold homeOK
  by_cases hp : parentL t[i].p.data.toList = []
  · rw [if_pos hp]
  · rw [if_neg hp]
    obtain ⟨x, hx, hxp, hxk⟩ := hh _ (List.getElem_mem hi) hp
    obtain ⟨k, hk, rfl⟩ := List.getElem_of_mem hx
    have hki : k < i := by
      rcases Nat.lt_trichotomy k i with h1 | h1 | h1
      · exact h1
      · subst h1
        have h2 := parent_less hpath hp
        rw [← hxp, lessP_irrefl] at h2
        cases h2
      · have h2 := parent_less hpath hp
        have h3 := sorted_get hs hk h1
        unfold lessR at h3
        rw [hxp] at h3
        rw [lessP_asymm _ _ h2] at h3
        cases h3
    rcases atL_cases (t.take i) (parO t[i].p) with ⟨_, h2⟩ | ⟨j, hj, h1, h2, _⟩
    · exact absurd hxp (h2 _ (List.mem_take_iff_getElem.2 ⟨k, by omega, rfl⟩))
    · have hji : j < i := by rw [List.length_take] at hj; omega
      have h2' : (t[j]'(by omega)).p = parO t[i].p := by simpa using h2
      have ejk : j = k := sorted_once hs (by omega) hk (h2'.trans hxp.symm)
      subst ejk
      rw [h1]
      simp [show j < t.length by omega, hxk]
theorem treeOK_of {t : List R} (h : Tree t) : treeOK t = true := by
  unfold treeOK
  rw [Bool.and_eq_true, decide_eq_true_eq]
  refine ⟨h.len, (treeFrom_all t _ 0 rfl).2 fun i hi _ => ?_⟩
  have hm := List.getElem_mem hi
  have hf := h.fault _ hm
  unfold nodeOK
  simp only [Bool.and_eq_true, decide_eq_true_eq]
  refine ⟨⟨⟨h.kind _ hm, hf⟩, ?_⟩, home_of h.sorted h.housed hi (fault_path hf).1⟩
  cases hb : beforeL t i with
  | none => rfl
  | some x =>
    unfold beforeL at hb
    split at hb
    · cases hb
    · rw [List.getElem?_eq_getElem (show i - 1 < t.length by omega)] at hb
      cases hb
      exact sorted_get h.sorted hi (by omega)
theorem Tree.is {t : List R} (h : Tree t) : IsTree t := ⟨h.sorted, h.housed, fun x hx => (fault_path (h.fault x hx)).1⟩
end Go.Proofs.YtciflchaepchiabGreatDoor.Recs
