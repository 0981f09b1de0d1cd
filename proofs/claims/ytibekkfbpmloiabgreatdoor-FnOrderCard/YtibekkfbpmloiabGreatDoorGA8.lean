/- Parts of several texts of mine in one file (each begins with its own remark). -/
import Derived.Test.YtibekkfbpmloiabGreatDoorGA1
import Derived.Test.YtibekkfbpmloiabGreatDoorGA2
import Derived.Test.YtibekkfbpmloiabGreatDoorGA3
import Derived.Test.YtibekkfbpmloiabGreatDoorGA4
import Derived.Test.YtibekkfbpmloiabGreatDoorGA5
import Derived.Test.YtibekkfbpmloiabGreatDoorGA6
import Derived.Test.YtibekkfbpmloiabGreatDoorGA7
import Derived.Test.YtibekkfbpmloiabGreatDoorChecked
import Derived.Deep.Slices
import Derived.OpenShut
import Derived.ShutString
import Derived.ChangeArms
import Derived.WideShapes
import Derived.Lib.LaidTab
import Derived.BigQuiet
import Derived.Deep.QuietTactic
import Derived.Deep.RegionHeld3
import Derived.StillTailTactics
import Derived.Deep.Draws
import Derived.Deep.LoopGhost
import Derived.WalkKit
import Derived.WalkSpells
import Derived.WalkSmall
import Derived.Lib.OthersKept
import Derived.Lib.Hide
import Derived.Lib.Strings
import Derived.Lib.Join
import Derived.BigRegion
import Derived.Laws.BytesArg
/- Combining many layers in one pass, plain: the canonical form of the winners at all paths is the combination of the stack. A stack is given highest layer first. -/
namespace Go.Proofs.YtibekkfbpmloiabGreatDoor.Recs
open Go.RowKit Paths

/-- At least one record of a path stops, of the layers down to the one that cuts the path off. -/
def lowStops : List (List R) → ByteArray → Bool
  | [], _ => false
  | l :: s, q => (recAt l q).any stops || (!cutsL l q && lowStops s q)
/-- The record that is seen at a path. -/
def winner : List (List R) → ByteArray → Option R
  | [], _ => none
  | l :: s, q => match recAt l q with
    | some y => some (if y.k = 3 ∧ cutsL l q = false ∧ lowStops s q = true then { y with o := true } else y)
    | none => if cutsL l q then none else winner s q
/-- A layer of the stack cuts the path off. -/
def cutsAny (s : List (List R)) (q : ByteArray) : Bool := s.any fun l => cutsL l q
theorem winner_path : ∀ (s : List (List R)) {q : ByteArray} {r : R}, winner s q = some r → r.p = q
  | [], _, _, h => by cases h
  | l :: s, q, r, h => by
    unfold winner at h
    cases hr : recAt l q with
    | some y =>
      rw [hr] at h
      have hp := (recAt_mem hr).2
      simp only [Option.some.injEq] at h
      rw [← h]
      split
      · exact hp
      · exact hp
    | none =>
      rw [hr] at h
      have h' : (if cutsL l q then none else winner s q) = some r := h
      split at h'
      · cases h'
      · exact winner_path s h'
theorem winner_mem : ∀ (s : List (List R)) {q : ByteArray} {r : R}, winner s q = some r → ∃ l ∈ s, ∃ y ∈ l, y.p = q ∧ r.k = y.k ∧ r.m = y.m ∧ r.b = y.b ∧ (y.o = true → r.o = true) ∧ (r.o = true → y.o = true ∨ y.k = 3)
  | [], _, _, h => by cases h
  | l :: s, q, r, h => by
    unfold winner at h
    cases hr : recAt l q with
    | some y =>
      rw [hr] at h
      obtain ⟨hm, hp⟩ := recAt_mem hr
      simp only [Option.some.injEq] at h
      refine ⟨l, by simp, y, hm, hp, ?_⟩
      rw [← h]
      split
      · rename_i hh; exact ⟨rfl, rfl, rfl, fun _ => rfl, fun _ => .inr hh.1⟩
      · exact ⟨rfl, rfl, rfl, fun h => h, fun h => .inl h⟩
    | none =>
      rw [hr] at h
      have h' : (if cutsL l q then none else winner s q) = some r := h
      split at h'
      · cases h'
      · obtain ⟨x, hx, hy⟩ := winner_mem s h'
        exact ⟨x, by simp [hx], hy⟩
theorem winner_stops : ∀ (s : List (List R)) {q : ByteArray} {r : R}, winner s q = some r → stops r = true → lowStops s q = true
  | [], _, _, h, _ => by cases h
  | l :: s, q, r, h, hs => by
    unfold winner at h
    unfold lowStops
    cases hr : recAt l q with
    | some y =>
      rw [hr] at h
      simp only [Option.some.injEq] at h
      by_cases hh : y.k = 3 ∧ cutsL l q = false ∧ lowStops s q = true
      · rw [hh.2.1, hh.2.2]; simp
      · rw [if_neg hh] at h
        rw [h]
        simp [hs]
    | none =>
      rw [hr] at h
      have h' : (if cutsL l q then none else winner s q) = some r := h
      split at h'
      · cases h'
      · rename_i hc
        rw [winner_stops s h' hs]
        simp [show cutsL l q = false by simpa using hc]
/-- Some record of the path stops only if its layer has one. -/
theorem lowStops_get : ∀ (s : List (List R)) {q : ByteArray}, lowStops s q = true → ∃ l ∈ s, ∃ y, recAt l q = some y ∧ stops y = true
  | [], _, h => by cases h
  | l :: s, q, h => by
    unfold lowStops at h
    rw [Bool.or_eq_true, Bool.and_eq_true] at h
    rcases h with h | ⟨_, h⟩
    · cases hr : recAt l q with
      | none => rw [hr] at h; cases h
      | some y => rw [hr] at h; exact ⟨l, by simp, y, hr, by simpa using h⟩
    · obtain ⟨x, hx, hy⟩ := lowStops_get s h
      exact ⟨x, by simp [hx], hy⟩
theorem stops_get {s : List (List R)} {q : ByteArray} {r : R} (h : winner s q = some r) (hs : stops r = true) : ∃ l ∈ s, ∃ y, recAt l q = some y ∧ stops y = true := lowStops_get s (winner_stops s h hs)
/-- What the winners cut off is what one of the layers does. -/
theorem cuts_winner : ∀ (s : List (List R)) {q : ByteArray}, pathB q.data.toList = true → cutsAny s q = true → ∃ c ∈ ups q, ∃ r, winner s c = some r ∧ stops r = true
  | [], _, _, h => by cases h
  | l :: s, q, hq, h => by
    have h' : cutsL l q = true ∨ cutsAny s q = true := by simpa [cutsAny] using h
    rcases Bool.eq_false_or_eq_true (cutsL l q) with hl | hl
    · obtain ⟨c, hc, y, hy, hst⟩ := cuts_get hl
      refine ⟨c, hc, _, by unfold winner; rw [hy], ?_⟩
      split
      · simp [stops]
      · exact hst
    · rcases h' with h' | h'
      · rw [hl] at h'; cases h'
      obtain ⟨c, hc, r, hr, hst⟩ := cuts_winner s hq h'
      have hlc : cutsL l c = false := by
        rcases Bool.eq_false_or_eq_true (cutsL l c) with h2 | h2
        · rw [cuts_up hq hc h2] at hl; cases hl
        · exact h2
      cases hy : recAt l c with
      | none =>
        refine ⟨c, hc, r, ?_, hst⟩
        unfold winner
        rw [hy]
        show (if cutsL l c then none else winner s c) = some r
        rw [if_neg (by rw [hlc]; decide)]
        exact hr
      | some y =>
        have hsy : stops y = false := by
          rcases Bool.eq_false_or_eq_true (stops y) with h2 | h2
          · rw [cuts_at hc hy h2] at hl; cases hl
          · exact h2
        refine ⟨c, hc, { y with o := true }, ?_, by simp [stops]⟩
        unfold winner
        rw [hy]
        show some (if y.k = 3 ∧ cutsL l c = false ∧ lowStops s c = true then { y with o := true } else y) = _
        rw [if_pos ⟨(stops_no hsy).1, hlc, winner_stops s hr hst⟩]

/-- Applying a stack that is given highest layer first. -/
def applyDown : List (List R) → List R → List R
  | [], t => t
  | l :: s, t => applyL l (applyDown s t)
theorem applyDown_tree : ∀ (s : List (List R)), (∀ l ∈ s, Fine l) → ∀ {t : List R}, IsTree t → IsTree (applyDown s t)
  | [], _, _, ht => ht
  | l :: s, hs, _, ht => apply_tree (hs l (by simp)).layer (applyDown_tree s (fun x hx => hs x (by simp [hx])) ht)
/-- What applying a stack leaves: the winners that are no whiteouts, as nodes; and of the tree what no layer has a record of, or cuts off. -/
theorem mem_down : ∀ (s : List (List R)), (∀ l ∈ s, Fine l) → ∀ {t : List R}, IsTree t → ∀ x, x ∈ applyDown s t ↔ (∃ r, winner s x.p = some r ∧ r.k ≠ 4 ∧ x = nodeOf r) ∨ (x ∈ t ∧ winner s x.p = none ∧ cutsAny s x.p = false)
  | [], _, t, _, x => by simp [applyDown, winner, cutsAny]
  | l :: s, hs, t, ht, x => by
    have hl := hs l (by simp)
    have hs' : ∀ y ∈ s, Fine y := fun y hy => hs y (by simp [hy])
    have ih := mem_down s hs' ht x
    show x ∈ applyL l (applyDown s t) ↔ _
    rw [mem_apply (applyDown_tree s hs' ht) l hl.layer.sorted hl.layer.path, ih]
    have hnode : ∀ y : R, nodeOf (if y.k = 3 ∧ cutsL l x.p = false ∧ lowStops s x.p = true then { y with o := true } else y) = nodeOf y := by
      intro y; split <;> rfl
    have hkind : ∀ y : R, (if y.k = 3 ∧ cutsL l x.p = false ∧ lowStops s x.p = true then { y with o := true } else y).k = y.k := by
      intro y; split <;> rfl
    have hcut : cutsAny (l :: s) x.p = (cutsL l x.p || cutsAny s x.p) := by simp [cutsAny]
    rw [hcut]
    constructor
    · rintro (⟨y, hy, hk, e⟩ | ⟨h1, h2, h3⟩)
      · have hyp : y.p = x.p := by rw [e]; rfl
        have hr : recAt l x.p = some y := by rw [← hyp]; exact recAt_of hl.layer.sorted hy
        refine .inl ⟨_, by unfold winner; rw [hr], by rw [hkind]; exact hk, by rw [hnode]; exact e⟩
      · have hw : winner (l :: s) x.p = winner s x.p := by
          unfold winner
          rw [h2]
          show (if cutsL l x.p then none else winner s x.p) = _
          rw [if_neg (by rw [h3]; decide)]
          cases s <;> rfl
        rw [hw, h3, Bool.false_or]
        exact h1
    · rintro (⟨r, hr, hk, e⟩ | ⟨hx, h2, h3⟩)
      · unfold winner at hr
        cases hy : recAt l x.p with
        | some y =>
          rw [hy] at hr
          simp only [Option.some.injEq] at hr
          rw [← hr] at hk e
          rw [hkind] at hk
          rw [hnode] at e
          exact .inl ⟨y, (recAt_mem hy).1, hk, e⟩
        | none =>
          rw [hy] at hr
          have hr' : (if cutsL l x.p then none else winner s x.p) = some r := hr
          split at hr'
          · cases hr'
          · rename_i hc
            exact .inr ⟨.inl ⟨r, hr', hk, e⟩, rfl, by simpa using hc⟩
      · rw [Bool.or_eq_false_iff] at h3
        unfold winner at h2
        cases hy : recAt l x.p with
        | some y => rw [hy] at h2; cases h2
        | none =>
          rw [hy] at h2
          have h2' : (if cutsL l x.p then none else winner s x.p) = none := h2
          rw [if_neg (by rw [h3.1]; decide)] at h2'
          exact .inr ⟨.inr ⟨hx, h2', h3.2⟩, rfl, h3.1⟩

/-- A list of winners: sorted, with just the winners of the stack. -/
structure Winners (s : List (List R)) (m : List R) : Prop where
  sorted : Sorted m
  mem : ∀ r, r ∈ m ↔ ∃ q, pathB q.data.toList = true ∧ winner s q = some r
section
variable {s : List (List R)} {m : List R} (hs : ∀ l ∈ s, Fine l) (hm : Winners s m)
include hs hm
omit hs in
theorem winners_at {q : ByteArray} (hq : pathB q.data.toList = true) : recAt m q = winner s q := by
  cases hw : winner s q with
  | some r =>
    have e := recAt_of hm.sorted ((hm.mem r).2 ⟨q, hq, hw⟩)
    rw [winner_path s hw] at e
    exact e
  | none =>
    cases hr : recAt m q with
    | none => rfl
    | some r =>
      obtain ⟨h1, h2⟩ := recAt_mem hr
      obtain ⟨q', _, h3⟩ := (hm.mem r).1 h1
      have := winner_path s h3
      rw [← this, h2, hw] at h3
      cases h3
omit hs in
theorem winners_path : ∀ r ∈ m, pathB r.p.data.toList = true := by
  intro r hr
  obtain ⟨q, hq, h⟩ := (hm.mem r).1 hr
  rw [winner_path s h]
  exact hq
omit hs in
theorem winners_cuts {q : ByteArray} (hq : pathB q.data.toList = true) : cutsL m q = cutsAny s q := by
  rw [Bool.eq_iff_iff]
  constructor
  · intro hc
    obtain ⟨c, hcu, r, hr, hst⟩ := cuts_get hc
    rw [winners_at hm (ups_path hq c hcu)] at hr
    obtain ⟨l, hl, y, hy, hsy⟩ := stops_get hr hst
    unfold cutsAny
    rw [List.any_eq_true]
    exact ⟨l, hl, cuts_at hcu hy hsy⟩
  · intro hc
    obtain ⟨c, hcu, r, hr, hst⟩ := cuts_winner s hq hc
    exact cuts_at hcu (by rw [winners_at hm (ups_path hq c hcu)]; exact hr) hst
/-- (h) THE WINNERS HAVE THE EFFECT OF THE STACK. -/
theorem apply_winners {t : List R} (ht : IsTree t) : applyL m t = applyDown s t := by
  refine sorted_ext _ _ (apply_sorted _ ht.sorted) (applyDown_tree s hs ht).sorted fun x => ?_
  rw [mem_apply ht m hm.sorted (winners_path hm), mem_down s hs ht]
  constructor
  · rintro (⟨r, hr, hk, e⟩ | ⟨hx, h2, h3⟩)
    · have hp : x.p = r.p := by rw [e]; rfl
      refine .inl ⟨r, ?_, hk, e⟩
      rw [hp, ← winners_at hm (winners_path hm r hr)]
      exact recAt_of hm.sorted hr
    · have hq := ht.path x hx
      exact .inr ⟨hx, by rw [← winners_at hm hq]; exact h2, by rw [← winners_cuts hm hq]; exact h3⟩
  · rintro (⟨r, hr, hk, e⟩ | ⟨hx, h2, h3⟩)
    · have hrp := winner_path s hr
      obtain ⟨l, hl, y, hy, hyp, _⟩ := winner_mem s hr
      have hq : pathB x.p.data.toList = true := by rw [← hyp]; exact (hs l hl).layer.path y hy
      exact .inl ⟨r, (hm.mem r).2 ⟨x.p, hq, hr⟩, hk, e⟩
    · have hq := ht.path x hx
      exact .inr ⟨hx, by rw [winners_at hm hq]; exact h2, by rw [winners_cuts hm hq]; exact h3⟩
end
end Go.Proofs.YtibekkfbpmloiabGreatDoor.Recs

/- A heap as a list, plain: sinking, building it up, replacing and taking away its first one. -/
namespace Go.Proofs.YtibekkfbpmloiabGreatDoor.Heap
set_option maxRecDepth 100000

/-- The place above another one. -/
def par (c : Nat) : Nat := (c - 1) / 2
section
variable {α : Type} (lt : α → α → Bool)
/-- Which of a place and the two below it is first. -/
def pick (h : List α) (a c : Nat) : Nat := match h[c]?, h[a]? with
  | some x, some y => if lt x y then c else a
  | _, _ => a
def least (h : List α) (i : Nat) : Nat := pick lt h (pick lt h i (2 * i + 1)) (2 * i + 2)
def swapL (h : List α) (i j : Nat) : List α := match h[i]?, h[j]? with
  | some x, some y => (h.set i y).set j x
  | _, _ => h
def sinkF : Nat → List α → Nat → List α
  | 0, h, _ => h
  | f + 1, h, i => if least lt h i = i then h else sinkF f (swapL h i (least lt h i)) (least lt h i)
def sinkL (h : List α) (i : Nat) : List α := sinkF lt h.length h i

theorem pick_cases (h : List α) (a c : Nat) : (pick lt h a c = c ∧ ∃ x y, h[c]? = some x ∧ h[a]? = some y ∧ lt x y = true) ∨ (pick lt h a c = a ∧ ∀ x y, h[c]? = some x → h[a]? = some y → lt x y = false) := by
  unfold pick
  cases hc : h[c]? with
  | none => exact .inr ⟨rfl, fun x y e => by cases e⟩
  | some x =>
    cases ha : h[a]? with
    | none => exact .inr ⟨rfl, fun x y _ e => by cases e⟩
    | some y =>
      cases hl : lt x y with
      | true => exact .inl ⟨by simp [hl], x, y, rfl, rfl, hl⟩
      | false => exact .inr ⟨by simp [hl], fun x' y' e e' => by cases e; cases e'; exact hl⟩
theorem swap_len (h : List α) (i j : Nat) : (swapL h i j).length = h.length := by
  unfold swapL
  split
  · simp
  · rfl
theorem swap_get {h : List α} {i j : Nat} {x y : α} (hi : h[i]? = some x) (hj : h[j]? = some y) (hij : i ≠ j) (c : Nat) : (swapL h i j)[c]? = if c = i then some y else if c = j then some x else h[c]? := by
  have hil := (List.getElem?_eq_some_iff.1 hi).1
  have hjl := (List.getElem?_eq_some_iff.1 hj).1
  unfold swapL
  rw [hi, hj]
  show ((h.set i y).set j x)[c]? = _
  by_cases hci : c = i
  · subst hci
    rw [if_pos rfl, List.getElem?_set_ne (by omega), List.getElem?_set_self hil]
  · rw [if_neg hci]
    by_cases hcj : c = j
    · subst hcj
      rw [if_pos rfl, List.getElem?_set_self (by simpa using hjl)]
    · rw [if_neg hcj, List.getElem?_set_ne (by omega), List.getElem?_set_ne (by omega)]
theorem swap_perm {h : List α} {i j : Nat} {x y : α} (hi : h[i]? = some x) (hj : h[j]? = some y) (hij : i < j) : (swapL h i j).Perm h := by
  have hil := (List.getElem?_eq_some_iff.1 hi).1
  obtain ⟨hjl, hjx⟩ := List.getElem?_eq_some_iff.1 hj
  have e1 : h = h.take i ++ x :: h.drop (i + 1) := by
    have := (List.getElem?_eq_some_iff.1 hi).2
    rw [← this]
    simp
  have ej : (h.drop (i + 1))[j - i - 1]? = some y := by rw [List.getElem?_drop, ← hj]; congr 1; omega
  have e2 : h.drop (i + 1) = (h.drop (i + 1)).take (j - i - 1) ++ y :: (h.drop (i + 1)).drop (j - i - 1 + 1) := by
    obtain ⟨hlt, hv⟩ := List.getElem?_eq_some_iff.1 ej
    have h1 := List.drop_eq_getElem_cons hlt
    rw [hv] at h1
    rw [← h1, List.take_append_drop]
  generalize hA : h.take i = A at e1
  generalize hB : (h.drop (i + 1)).take (j - i - 1) = B at e2
  generalize hC : (h.drop (i + 1)).drop (j - i - 1 + 1) = C at e2
  have hAl : A.length = i := by rw [← hA, List.length_take]; omega
  have hBl : B.length = j - i - 1 := by rw [← hB, List.length_take, List.length_drop]; omega
  have e3 : h = A ++ x :: (B ++ y :: C) := by rw [e1, e2]
  have e4 : swapL h i j = A ++ y :: (B ++ x :: C) := by
    apply List.ext_getElem?
    intro c
    rw [swap_get hi hj (by omega)]
    rcases Nat.lt_trichotomy c i with h1 | h1 | h1
    · rw [if_neg (by omega), if_neg (by omega), e3, List.getElem?_append_left (by omega), List.getElem?_append_left (by omega)]
    · subst h1
      rw [if_pos rfl, List.getElem?_append_right (by omega), hAl, Nat.sub_self]
      rfl
    · rw [if_neg (by omega)]
      have ec : c - A.length = (c - i - 1) + 1 := by omega
      rw [List.getElem?_append_right (by omega), ec, List.getElem?_cons_succ]
      rcases Nat.lt_trichotomy c j with h2 | h2 | h2
      · rw [if_neg (by omega), e3, List.getElem?_append_right (by omega), ec, List.getElem?_cons_succ, List.getElem?_append_left (by omega), List.getElem?_append_left (by omega)]
      · subst h2
        rw [if_pos rfl, List.getElem?_append_right (by omega), hBl, Nat.sub_self]
        rfl
      · have ed : c - i - 1 - B.length = (c - j - 1) + 1 := by omega
        rw [if_neg (by omega), e3, List.getElem?_append_right (by omega), ec, List.getElem?_cons_succ, List.getElem?_append_right (by omega), ed, List.getElem?_append_right (by omega), ed, List.getElem?_cons_succ, List.getElem?_cons_succ]
  rw [e4]
  conv => rhs; rw [e3]
  refine List.Perm.append_left A ?_
  have p1 : (y :: (B ++ x :: C)).Perm (y :: x :: (B ++ C)) := List.Perm.cons y List.perm_middle
  have p2 : (x :: (B ++ y :: C)).Perm (x :: y :: (B ++ C)) := List.Perm.cons x List.perm_middle
  exact p1.trans ((List.Perm.swap x y _).trans p2.symm)

/-- From place s on no one is before the one above it. -/
def Heap (s : Nat) (h : List α) : Prop := ∀ c x y, 0 < c → s ≤ par c → h[c]? = some x → h[par c]? = some y → lt x y = false
/-- The same but at one place. -/
def HeapX (s : Nat) (h : List α) (i : Nat) : Prop := (∀ c x y, 0 < c → s ≤ par c → par c ≠ i → h[c]? = some x → h[par c]? = some y → lt x y = false) ∧
  (0 < i → s ≤ par i → ∀ c x y, 0 < c → par c = i → h[c]? = some x → h[par i]? = some y → lt x y = false)
variable (has : ∀ a b, lt a b = true → lt b a = false) (hnt : ∀ a b c, lt a c = true → lt a b = true ∨ lt b c = true)
theorem par_of (i : Nat) : par (2 * i + 1) = i ∧ par (2 * i + 2) = i := by unfold par; omega
theorem par_child {c i : Nat} (h : par c = i) (hc : 0 < c) : c = 2 * i + 1 ∨ c = 2 * i + 2 := by unfold par at h; omega
theorem par_lt {c : Nat} (h : 0 < c) : par c < c := by unfold par; omega
include has hnt in
theorem least_spec (h : List α) (i : Nat) : (least lt h i = i ∧ ∀ c x y, 0 < c → par c = i → h[c]? = some x → h[i]? = some y → lt x y = false) ∨
    (∃ x y, (least lt h i = 2 * i + 1 ∨ least lt h i = 2 * i + 2) ∧ h[least lt h i]? = some x ∧ h[i]? = some y ∧ lt x y = true ∧ ∀ c z, 0 < c → par c = i → h[c]? = some z → lt z x = false) := by
  unfold least
  have irr : ∀ a, lt a a = false := fun a => by
    cases h : lt a a with
    | false => rfl
    | true => exact absurd h (by rw [has a a h]; decide)
  rcases pick_cases lt h i (2 * i + 1) with ⟨e1, x, y, hx, hy, hl⟩ | ⟨e1, h1⟩
  · rw [e1]
    rcases pick_cases lt h (2 * i + 1) (2 * i + 2) with ⟨e2, x2, y2, hx2, hy2, hl2⟩ | ⟨e2, h2⟩
    · rw [e2]
      rw [hx] at hy2
      cases hy2
      have l3 : lt x2 y = true := by
        rcases hnt x2 y x hl2 with h | h
        · exact h
        · exact absurd h (by rw [has _ _ hl]; decide)
      refine .inr ⟨x2, y, .inr rfl, hx2, hy, l3, fun c z hc hp hz => ?_⟩
      rcases par_child hp hc with rfl | rfl
      · rw [hx] at hz; cases hz; exact has _ _ hl2
      · rw [hx2] at hz; cases hz; exact irr _
    · rw [e2]
      refine .inr ⟨x, y, .inl rfl, hx, hy, hl, fun c z hc hp hz => ?_⟩
      rcases par_child hp hc with rfl | rfl
      · rw [hx] at hz; cases hz; exact irr _
      · exact h2 z x hz hx
  · rw [e1]
    rcases pick_cases lt h i (2 * i + 2) with ⟨e2, x2, y2, hx2, hy2, hl2⟩ | ⟨e2, h2⟩
    · rw [e2]
      refine .inr ⟨x2, y2, .inr rfl, hx2, hy2, hl2, fun c z hc hp hz => ?_⟩
      rcases par_child hp hc with rfl | rfl
      · have h3 := h1 z y2 hz hy2
        cases h4 : lt z x2 with
        | false => rfl
        | true =>
          rcases hnt z y2 x2 h4 with h | h
          · rw [h] at h3; cases h3
          · rw [has _ _ hl2] at h; cases h
      · rw [hx2] at hz; cases hz; exact irr _
    · rw [e2]
      refine .inl ⟨rfl, fun c x y hc hp hx hy => ?_⟩
      rcases par_child hp hc with rfl | rfl
      · exact h1 x y hx hy
      · exact h2 x y hx hy
include has hnt in
theorem sinkF_spec : ∀ (f : Nat) (h : List α) (i s : Nat), h.length ≤ f + i → HeapX lt s h i → Heap lt s (sinkF lt f h i) ∧ (sinkF lt f h i).Perm h
  | 0, h, i, s, hf, hx => by
    show Heap lt s h ∧ h.Perm h
    refine ⟨fun c x y hc hs h1 h2 => ?_, List.Perm.refl _⟩
    by_cases hp : par c = i
    · have := (List.getElem?_eq_some_iff.1 h1).1
      have := par_lt hc
      omega
    · exact hx.1 c x y hc hs hp h1 h2
  | f + 1, h, i, s, hf, hx => by
    rw [sinkF]
    rcases least_spec lt has hnt h i with ⟨e, h1⟩ | ⟨x, y, hm, hx1, hy1, hl, hr⟩
    · rw [if_pos e]
      refine ⟨fun c x y hc hs h2 h3 => ?_, List.Perm.refl _⟩
      by_cases hp : par c = i
      · rw [hp] at h3; exact h1 c x y hc hp h2 h3
      · exact hx.1 c x y hc hs hp h2 h3
    · have hpm : par (least lt h i) = i := by rcases hm with e | e <;> rw [e] <;> simp [par_of]
      have hlt : i < least lt h i := by rcases hm with e | e <;> omega
      rw [if_neg (by omega)]
      generalize least lt h i = m at *
      have hg := swap_get hy1 hx1 (by omega : i ≠ m)
      have ih := sinkF_spec f (swapL h i m) m s (by rw [swap_len]; omega) ⟨fun c u v hc hs hp hu hv => ?_, fun hm0 hs c u v hc hp hu hv => ?_⟩
      · exact ⟨ih.1, ih.2.trans (swap_perm hy1 hx1 hlt)⟩
      · rw [hg] at hu hv
        by_cases hci : c = i
        · subst hci
          have := par_lt hc
          rw [if_pos rfl] at hu
          rw [if_neg (by omega), if_neg (by omega)] at hv
          cases hu
          exact hx.2 hc hs m x v (by omega) hpm hx1 hv
        · rw [if_neg hci] at hu
          by_cases hcm : c = m
          · subst hcm
            rw [if_pos rfl] at hu
            rw [hpm, if_pos rfl] at hv
            cases hu
            cases hv
            exact has _ _ hl
          · rw [if_neg hcm] at hu
            by_cases hpi : par c = i
            · rw [hpi, if_pos rfl] at hv
              cases hv
              exact hr c u hc hpi hu
            · rw [if_neg hpi, if_neg hp] at hv
              exact hx.1 c u v hc hs hpi hu hv
      · have := par_lt hc
        rw [hg, if_neg (by omega), if_neg (by omega)] at hu
        rw [hg, hpm, if_pos rfl] at hv
        cases hv
        rw [hpm] at hs
        refine hx.1 c u x hc (by omega) (by omega) hu ?_
        rw [hp]
        exact hx1
include has hnt in
theorem sinkL_spec {h : List α} {i s : Nat} (hx : HeapX lt s h i) : Heap lt s (sinkL lt h i) ∧ (sinkL lt h i).Perm h := sinkF_spec lt has hnt _ h i s (by omega) hx
include has hnt in
/-- The first one of a heap is before all others, or like them. -/
theorem heap_first {h : List α} (hh : Heap lt 0 h) : ∀ (n c : Nat), c ≤ n → ∀ x y, h[c]? = some x → h[0]? = some y → lt x y = false
  | 0, c, hc, x, y, hx, hy => by
    obtain rfl : c = 0 := by omega
    rw [hx] at hy
    cases hy
    cases h : lt x x with
    | false => rfl
    | true => exact absurd h (by rw [has _ _ h]; decide)
  | n + 1, c, hc, x, y, hx, hy => by
    rcases Nat.eq_zero_or_pos c with rfl | h0
    · exact heap_first hh 0 0 (Nat.le_refl _) x y hx hy
    · have hp := par_lt h0
      have hcl := (List.getElem?_eq_some_iff.1 hx).1
      have hz : h[par c]? = some (h[par c]'(by omega)) := List.getElem?_eq_getElem _
      have h1 := hh c x _ h0 (Nat.zero_le _) hx hz
      have h2 := heap_first hh n (par c) (by omega) _ y hz hy
      cases h3 : lt x y with
      | false => rfl
      | true =>
        rcases hnt x (h[par c]'(by omega)) y h3 with h4 | h4
        · rw [h4] at h1; cases h1
        · rw [h4] at h2; cases h2
theorem heap_low (h : List α) (s : Nat) (hs : h.length ≤ 2 * s + 1) : Heap lt s h := fun c x y hc hsc hx _ => by
  have := (List.getElem?_eq_some_iff.1 hx).1
  unfold par at hsc
  omega
theorem heap_next {h : List α} {s : Nat} (hh : Heap lt (s + 1) h) : HeapX lt s h s :=
  ⟨fun c x y hc hs hp hx hy => hh c x y hc (by omega) hx hy, fun h0 hs => absurd hs (by have := par_lt h0; omega)⟩
theorem heap_set {h : List α} (hh : Heap lt 0 h) (v : α) : HeapX lt 0 (h.set 0 v) 0 :=
  ⟨fun c x y hc hs hp hx hy => by
    rw [List.getElem?_set_ne (by omega)] at hx hy
    exact hh c x y hc hs hx hy, fun h0 => absurd h0 (Nat.lt_irrefl _)⟩
theorem heap_take {h : List α} {i k : Nat} (hh : HeapX lt 0 h i) : HeapX lt 0 (h.take k) i := by
  have key : ∀ c (x : α), (h.take k)[c]? = some x → h[c]? = some x := fun c x hx => by
    have hl := (List.getElem?_eq_some_iff.1 hx).1
    rw [List.length_take] at hl
    rw [List.getElem?_take_of_lt (by omega)] at hx
    exact hx
  exact ⟨fun c x y hc hs hp hx hy => hh.1 c x y hc hs hp (key _ _ hx) (key _ _ hy), fun h0 hs c x y hc hp hx hy => hh.2 h0 hs c x y hc hp (key _ _ hx) (key _ _ hy)⟩
end
/-- Two lists in strict order with the same members are one. -/
theorem pw_ext {α : Type} {lt : α → α → Prop} (irr : ∀ a, ¬ lt a a) (tr : ∀ a b c, lt a b → lt b c → lt a c) : ∀ a b : List α, a.Pairwise lt → b.Pairwise lt → (∀ x, x ∈ a ↔ x ∈ b) → a = b
  | [], [], _, _, _ => rfl
  | [], y :: b, _, _, h => absurd ((h y).2 (List.mem_cons_self ..)) (by simp)
  | x :: a, [], _, _, h => absurd ((h x).1 (List.mem_cons_self ..)) (by simp)
  | x :: a, y :: b, ha, hb, h => by
    obtain ⟨ha1, ha2⟩ := List.pairwise_cons.1 ha
    obtain ⟨hb1, hb2⟩ := List.pairwise_cons.1 hb
    have hxy : x = y := by
      rcases List.mem_cons.1 ((h x).1 (List.mem_cons_self ..)) with e | hx
      · exact e
      · rcases List.mem_cons.1 ((h y).2 (List.mem_cons_self ..)) with e | hy
        · exact e.symm
        · exact absurd (tr _ _ _ (hb1 x hx) (ha1 y hy)) (irr y)
    subst hxy
    rw [pw_ext irr tr a b ha2 hb2 fun z => ?_]
    constructor
    · intro hz
      rcases List.mem_cons.1 ((h z).1 (List.mem_cons_of_mem _ hz)) with e | h2
      · subst e; exact absurd (ha1 z hz) (irr z)
      · exact h2
    · intro hz
      rcases List.mem_cons.1 ((h z).2 (List.mem_cons_of_mem _ hz)) with e | h2
      · subst e; exact absurd (hb1 z hz) (irr z)
      · exact h2
end Go.Proofs.YtibekkfbpmloiabGreatDoor.Heap

/- Layers: the place of a path, the first fault: the model's side. -/
namespace Go.Proofs.YtibekkfbpmloiabGreatDoor.Recs
set_option maxRecDepth 100000
open Go.RowKit Paths

theorem str_eq_of {a b : ByteArray} (h : (a.toList == b.toList) = true) : a = b := by
  have := eq_of_beq h
  rw [Lib.toList_data, Lib.toList_data] at this
  exact ByteArray.ext (Array.toList_inj.1 this)

set_option maxHeartbeats 400000 in
theorem l03At_any (v : Value) (l : List R) (q : ByteArray) (w : World) (h : RecSl w v l) (hl : l.length ≤ 1048576) :
    Calls Tryz.prog 138 #[v, .string q] w fun e w' => e = .returned (.int .i64 (atL l q)) ∧ w = w' := by
  obtain ⟨A, cap, rfl, hcap, h⟩ := h
  have H := Lib.hid h
  clear h
  go_enter Tryz.func138, Tryz.ntmps138
  go_wp2
  go_loop [5] (fun i => ∃ k : Nat, k ≤ l.length ∧ i = .int .i64 k ∧ Hid (atL l q = atFrom (l.drop k) k q)) (fun i => l.length - (intOf i).toNat)
  case atStart => exact ⟨0, by omega, rfl, rfl⟩
  case round =>
    obtain ⟨k, hk, rfl, HK⟩ := hrel
    by_cases hlt : k < l.length
    · obtain ⟨b, off, rfl, hb, hcell⟩ := H.out (by omega)
      obtain ⟨_, hc1, _⟩ := hcell k l[k] (by simp [hlt])
      have HS := Lib.hid (HK.out.trans (atFrom_step hlt q))
      clear hcell HK
      have hi1 : (k : Int) < (l.length : Int) := by omega
      have hi0 : (0 : Int) ≤ (k : Int) := by omega
      rcases Bool.eq_false_or_eq_true (l[k].p.toList == q.toList) with he | he
      · have HE : Hid (atL l q = k) := by show _ = _; rw [HS.out, if_pos (str_eq_of he)]
        go_wp2
        go_ret
        exact ⟨ret_int HE.out.symm, rfl⟩
      · have HE : Hid (atL l q = atFrom (l.drop (k + 1)) (k + 1) q) := by show _ = _; rw [HS.out, if_neg (fun e => by rw [e] at he; simp at he)]
        go_wp2
        exact ⟨⟨k + 1, by omega, by go_num, HE⟩, by simp [intOf]; omega⟩
    · have HE := Lib.hid (HK.out.trans (atFrom_end (by omega) q))
      go_wp2
      go_ret
      exact ⟨ret_int HE.out.symm, rfl⟩
end Go.Proofs.YtibekkfbpmloiabGreatDoor.Recs

/- The laws' own marks: markText, and the marks written into a row of strings and read again; eqStringS. -/
namespace Go.Proofs.YtibekkfbpmloiabGreatDoor.Paths
open Go.RowKit

/-- A slice that reads as the strings L, wherever it lies. -/
def Strs (w : World) (v : Value) (L : List (List UInt8)) : Prop :=
  ∃ A cap, v = .slice A L.length cap ∧ L.length ≤ cap ∧ (0 < L.length → ∃ b off, A = some ⟨b, off, none⟩ ∧ b < w.heap.size ∧ ∀ k p, L[k]? = some p → w.cell? ⟨b, off + k, none⟩ = some (strV p))
theorem Strs.own {w : World} {base : Nat} {v : Value} {L : List (List UInt8)} (h : w.ownsRow base 9 1 v L.length (L.map strV)) : Strs w v L := by
  rcases h.2 with ⟨rfl, hn⟩ | ⟨g, cap, cur, rfl, hb, hg, hc, _⟩
  · exact ⟨none, 0, by rw [hn], by omega, fun h => by omega⟩
  · refine ⟨_, cap, rfl, hc, fun _ => ⟨g, 0, rfl, (Array.getElem?_eq_some_iff.1 hg).1, fun k p hk => ?_⟩⟩
    have := h.cells (g := g) rfl k (strV p) (by simp [hk])
    simpa [Addr.add_lit] using this
theorem Strs.below {w w' : World} {v : Value} {L : List (List UInt8)} (h : Strs w v L) (hb : Below w.heap.size w w') : Strs w' v L := by
  obtain ⟨A, cap, rfl, hc, h⟩ := h
  refine ⟨A, cap, rfl, hc, fun hn => ?_⟩
  obtain ⟨b, off, rfl, hlt, hcell⟩ := h hn
  exact ⟨b, off, rfl, Nat.lt_of_lt_of_le hlt hb.size, fun k p hk => (hb.cell (p := ⟨b, off + k, none⟩) hlt).trans (hcell k p hk)⟩

theorem take_snoc_eq {α : Type} [DecidableEq α] {A B : List α} {k : Nat} (ha : k < A.length) (hb : k < B.length) (h : A.take k = B.take k) (he : A[k] = B[k]) : A.take (k + 1) = B.take (k + 1) := by
  rw [List.take_succ_eq_append_getElem ha, List.take_succ_eq_append_getElem hb, h, he]
theorem getElem_of_eq {α : Type} {A B : List α} {k : Nat} (ha : k < A.length) (hb : k < B.length) (h : A = B) : A[k] = B[k] := by subst h; rfl

theorem grown_trans {a b c : World} {row : Option Nat} (h : a.grownBy b row) (k : b.grownBy c row) : a.grownBy c row :=
  ⟨k.os.trans h.os, k.tape.trans h.tape, k.output.trans h.output, Nat.le_trans h.size k.size, fun i hi hne => (k.block i (Nat.lt_of_lt_of_le hi h.size) hne).trans (h.block i hi hne)⟩

end Go.Proofs.YtibekkfbpmloiabGreatDoor.Paths
