/- Applying a layer to a tree, both as plain sorted lists (a node is a record that is not Opaque): what the result holds, in closed form. -/
import Derived.Test.YtbgejefmchnhcaaDoorPlainJ
namespace Go.Proofs.YtbgejefmchnhcaaDoor.Recs
open Go.RowKit Paths

/-- q is above p. -/
def isUp (q p : ByteArray) : Bool := (ups p).any fun a => decide (a = q)
theorem isUp_iff {q p : ByteArray} : isUp q p = true ↔ q ∈ ups p := by
  unfold isUp
  rw [List.any_eq_true]
  constructor
  · rintro ⟨a, ha, he⟩
    rw [decide_eq_true_eq] at he
    exact he ▸ ha
  · exact fun h => ⟨q, h, by simp⟩
theorem isUp_no {q p : ByteArray} : isUp q p = false ↔ q ∉ ups p := by
  rw [← isUp_iff]
  simp
def nodeOf (r : R) : R := { r with o := false }
/-- Without what is below a path, and, if so asked, without its own node. -/
def withoutL (t : List R) (q : ByteArray) (self : Bool) : List R := t.filter fun x => !isUp q x.p && !(self && decide (x.p = q))
/-- A node in its place, in the place of one of its path. -/
def putL (t : List R) (n : R) : List R := t.filter (fun x => lessR x n) ++ n :: t.filter (fun x => lessR n x)
/-- Must what is below a record's path go? -/
def clears (t : List R) (r : R) : Bool := stops r || (recAt t r.p).any (fun n => decide (n.k ≠ 3))
def doR (t : List R) (r : R) : List R :=
  if r.k = 4 then withoutL t r.p true else putL (if clears t r then withoutL t r.p false else t) (nodeOf r)
def applyL (l t : List R) : List R := l.foldl doR t

theorem mem_without {t : List R} {q : ByteArray} {self : Bool} {x : R} : x ∈ withoutL t q self ↔ x ∈ t ∧ q ∉ ups x.p ∧ (self = true → x.p ≠ q) := by
  unfold withoutL
  rw [List.mem_filter, Bool.and_eq_true, Bool.not_eq_true', isUp_no]
  cases self <;> simp
theorem without_sorted {t : List R} (h : Sorted t) (q : ByteArray) (self : Bool) : Sorted (withoutL t q self) := List.Pairwise.filter _ h
theorem bytes_cut {a b : ByteArray} (h : cutAt 47 a.data.toList = cutAt 47 b.data.toList) : a = b := by
  have e : a.data.toList = b.data.toList := by rw [← join_cut a.data.toList, h, join_cut]
  apply ByteArray.ext
  exact Array.ext' e
/-- Of two records of different paths one is less. -/
theorem less_or {x n : R} (h : x.p ≠ n.p) : lessR x n = true ∨ lessR n x = true := by
  rcases Bool.eq_false_or_eq_true (lessR x n) with h1 | h1
  · exact .inl h1
  rcases Bool.eq_false_or_eq_true (lessR n x) with h2 | h2
  · exact .inr h2
  exact absurd (bytes_cut (lessP_total _ _ h1 h2)) h
theorem less_ne {x n : R} (h : lessR x n = true) : x.p ≠ n.p := fun e => by
  unfold lessR at h
  rw [e, lessP_irrefl] at h
  cases h
theorem mem_put {t : List R} {n x : R} : x ∈ putL t n ↔ x = n ∨ x ∈ t ∧ x.p ≠ n.p := by
  unfold putL
  rw [List.mem_append, List.mem_cons, List.mem_filter, List.mem_filter]
  constructor
  · rintro (⟨h1, h2⟩ | h | ⟨h1, h2⟩)
    · exact .inr ⟨h1, less_ne h2⟩
    · exact .inl h
    · exact .inr ⟨h1, fun e => less_ne h2 e.symm⟩
  · rintro (h | ⟨h1, h2⟩)
    · exact .inr (.inl h)
    · rcases less_or h2 with h3 | h3
      · exact .inl ⟨h1, h3⟩
      · exact .inr (.inr ⟨h1, h3⟩)
theorem put_sorted {t : List R} (h : Sorted t) (n : R) : Sorted (putL t n) := by
  unfold putL Sorted
  rw [List.pairwise_append]
  refine ⟨List.Pairwise.filter _ h, ?_, ?_⟩
  · rw [List.pairwise_cons]
    exact ⟨fun x hx => (List.mem_filter.1 hx).2, List.Pairwise.filter _ h⟩
  · intro a ha b hb
    have h1 := (List.mem_filter.1 ha).2
    rcases List.mem_cons.1 hb with rfl | hb
    · exact h1
    · exact lessP_trans _ _ _ h1 (List.mem_filter.1 hb).2
theorem do_sorted {t : List R} (h : Sorted t) (r : R) : Sorted (doR t r) := by
  unfold doR
  split
  · exact without_sorted h _ _
  · split
    · exact put_sorted (without_sorted h _ _) _
    · exact put_sorted h _
theorem apply_sorted : ∀ (l : List R) {t : List R}, Sorted t → Sorted (applyL l t)
  | [], _, h => h
  | r :: l, _, h => apply_sorted l (do_sorted h r)
theorem mem_do {t : List R} {r x : R} : x ∈ doR t r ↔ (r.k ≠ 4 ∧ x = nodeOf r) ∨ (x ∈ t ∧ x.p ≠ r.p ∧ ((r.k = 4 ∨ clears t r = true) → r.p ∉ ups x.p)) := by
  unfold doR
  by_cases hk : r.k = 4
  · rw [if_pos hk, mem_without]
    constructor
    · rintro ⟨h1, h2, h3⟩
      exact .inr ⟨h1, h3 rfl, fun _ => h2⟩
    · rintro (⟨h1, _⟩ | ⟨h1, h2, h3⟩)
      · exact absurd hk h1
      · exact ⟨h1, h3 (.inl hk), fun _ => h2⟩
  · rw [if_neg hk, mem_put]
    have ep : (nodeOf r).p = r.p := rfl
    rw [ep]
    by_cases hc : clears t r = true
    · rw [if_pos hc, mem_without]
      constructor
      · rintro (h | ⟨⟨h1, h2, _⟩, h4⟩)
        · exact .inl ⟨hk, h⟩
        · exact .inr ⟨h1, h4, fun _ => h2⟩
      · rintro (⟨_, h⟩ | ⟨h1, h2, h3⟩)
        · exact .inl h
        · exact .inr ⟨⟨h1, h3 (.inr hc), fun h => by cases h⟩, h2⟩
    · rw [if_neg hc]
      constructor
      · rintro (h | ⟨h1, h2⟩)
        · exact .inl ⟨hk, h⟩
        · exact .inr ⟨h1, h2, fun h => by rcases h with h | h <;> contradiction⟩
      · rintro (⟨_, h⟩ | ⟨h1, h2, _⟩)
        · exact .inl h
        · exact .inr ⟨h1, h2⟩

/-- Lists that grow at their end: Sorted. -/
theorem sorted_snoc {l : List R} {r : R} (h : Sorted (l ++ [r])) : Sorted l ∧ ∀ x ∈ l, lessR x r = true := by
  unfold Sorted at h
  rw [List.pairwise_append] at h
  exact ⟨h.1, fun x hx => h.2.2 x hx r (by simp)⟩
theorem recAt_snoc (l : List R) (r : R) (q : ByteArray) : recAt (l ++ [r]) q = (recAt l q).or (if r.p = q then some r else none) := by
  unfold recAt
  rw [List.find?_append]
  congr 1
  by_cases h : r.p = q <;> simp [h]
theorem cuts_snoc {l : List R} {r : R} (h : Sorted (l ++ [r])) (q : ByteArray) : cutsL (l ++ [r]) q = (cutsL l q || (isUp r.p q && stops r)) := by
  obtain ⟨_, hlt⟩ := sorted_snoc h
  have hno : recAt l r.p = none := by
    cases hr : recAt l r.p with
    | none => rfl
    | some x =>
      obtain ⟨h1, h2⟩ := recAt_mem hr
      exact absurd h2 (less_ne (hlt x h1))
  have hat : ∀ a, stopsAt (l ++ [r]) a = (stopsAt l a || (decide (r.p = a) && stops r)) := by
    intro a
    unfold stopsAt
    rw [recAt_snoc]
    by_cases e : r.p = a
    · subst e
      rw [hno]
      simp
    · rw [if_neg e]
      cases recAt l a <;> simp [e]
  unfold cutsL
  rw [Bool.eq_iff_iff]
  simp only [List.any_eq_true, Bool.or_eq_true, Bool.and_eq_true, decide_eq_true_eq, isUp_iff, hat]
  constructor
  · rintro ⟨a, ha, h1 | ⟨rfl, h1⟩⟩
    · exact .inl ⟨a, ha, h1⟩
    · exact .inr ⟨ha, h1⟩
  · rintro (⟨a, ha, h1⟩ | ⟨ha, h1⟩)
    · exact ⟨a, ha, .inl h1⟩
    · exact ⟨r.p, ha, .inr ⟨rfl, h1⟩⟩

/-- A tree: sorted, housed, its paths are paths. -/
structure IsTree (t : List R) : Prop where
  sorted : Sorted t
  housed : Housed t
  path : ∀ x ∈ t, pathB x.p.data.toList = true

/-- WHAT APPLYING LEAVES: the records that are no whiteouts, as nodes; and of the tree what the layer has no record of and does not cut off. -/
theorem mem_apply {t : List R} (ht : IsTree t) (l : List R) : Sorted l → (∀ r ∈ l, pathB r.p.data.toList = true) → ∀ x, x ∈ applyL l t ↔ (∃ r ∈ l, r.k ≠ 4 ∧ x = nodeOf r) ∨ (x ∈ t ∧ recAt l x.p = none ∧ cutsL l x.p = false) := by
  have hrev : ∀ m : List R, Sorted m.reverse → (∀ r ∈ m.reverse, pathB r.p.data.toList = true) → ∀ x, x ∈ applyL m.reverse t ↔ (∃ r ∈ m.reverse, r.k ≠ 4 ∧ x = nodeOf r) ∨ (x ∈ t ∧ recAt m.reverse x.p = none ∧ cutsL m.reverse x.p = false) := by
    intro m
    induction m with
    | nil =>
      intro _ _ x
      have e2 : cutsL [] x.p = false := by
        unfold cutsL
        rw [List.any_eq_false]
        intro a _
        simp [stopsAt, recAt]
      simp [applyL, recAt, e2]
    | cons r m ih =>
      intro hs hpath x
      rw [List.reverse_cons] at hs hpath ⊢
      obtain ⟨hs1, hlt⟩ := sorted_snoc hs
      have ih := ih hs1 (fun y hy => hpath y (by simp at hy ⊢; exact .inl hy))
      have hrp : pathB r.p.data.toList = true := hpath r (by simp)
      have eA : applyL (m.reverse ++ [r]) t = doR (applyL m.reverse t) r := by unfold applyL; rw [List.foldl_append]; rfl
      rw [eA, mem_do, cuts_snoc hs, recAt_snoc]
      have hno : recAt m.reverse r.p = none := by
        cases hr : recAt m.reverse r.p with
        | none => rfl
        | some y =>
          obtain ⟨h1, h2⟩ := recAt_mem hr
          exact absurd h2 (less_ne (hlt y h1))
      -- a record of the elder part is neither at r's path nor below it
      have hold : ∀ y ∈ m.reverse, y.p ≠ r.p ∧ r.p ∉ ups y.p := fun y hy => ⟨less_ne (hlt y hy), fun hu => by
        have h1 := ups_less (hpath y (by simp at hy ⊢; exact .inl hy)) _ hu
        have h2 := hlt y hy
        unfold lessR at h2
        rw [lessP_asymm _ _ h1] at h2
        cases h2⟩
      -- what is in the tree below r's path, not cut off, has a directory there
      have hclear : ∀ y ∈ t, r.p ∈ ups y.p → clears (applyL m.reverse t) r = stops r := by
        intro y hy hu
        obtain ⟨n, hn, hnp, hnk⟩ := housed_ups ht.housed (ht.path y hy) y hy rfl r.p hu
        unfold clears
        cases hr : recAt (applyL m.reverse t) r.p with
        | none => simp
        | some z =>
          obtain ⟨hz, hzp⟩ := recAt_mem hr
          have hzk : z.k = 3 := by
            rcases (ih z).1 hz with ⟨q, hq, _, rfl⟩ | ⟨hzt, _⟩
            · exact absurd hzp (hold q hq).1
            · rw [sorted_mem_once ht.sorted hzt hn (hzp.trans hnp.symm)]; exact hnk
          simp [hzk]
      constructor
      · rintro (⟨h1, h2⟩ | ⟨h1, h2, h3⟩)
        · exact .inl ⟨r, by simp, h1, h2⟩
        · rcases (ih x).1 h1 with ⟨q, hq, hqk, hqx⟩ | ⟨hxt, hx1, hx2⟩
          · exact .inl ⟨q, by simp at hq ⊢; exact .inl hq, hqk, hqx⟩
          · refine .inr ⟨hxt, ?_, ?_⟩
            · rw [hx1, if_neg (fun e => h2 e.symm)]; rfl
            · rw [hx2, Bool.false_or]
              by_cases hu : r.p ∈ ups x.p
              · have hc := hclear x hxt hu
                have hns : stops r = false := by
                  rcases Bool.eq_false_or_eq_true (stops r) with h5 | h5
                  · exact absurd hu (h3 (.inr (hc.trans h5)))
                  · exact h5
                rw [hns, Bool.and_false]
              · rw [isUp_no.2 hu, Bool.false_and]
      · rintro (⟨q, hq, hqk, hqx⟩ | ⟨hxt, hx1, hx2⟩)
        · rcases List.mem_append.1 hq with hq | hq
          · refine .inr ⟨(ih x).2 (.inl ⟨q, hq, hqk, hqx⟩), ?_, fun _ => ?_⟩
            · rw [hqx]; exact (hold q hq).1
            · rw [hqx]; exact (hold q hq).2
          · rw [List.mem_singleton.1 hq] at hqk hqx
            exact .inl ⟨hqk, hqx⟩
        · have hxr : recAt m.reverse x.p = none ∧ ¬ r.p = x.p := by
            cases hr : recAt m.reverse x.p with
            | some z => rw [hr] at hx1; cases hx1
            | none =>
              refine ⟨rfl, fun e => ?_⟩
              rw [hr, if_pos e] at hx1
              cases hx1
          rw [Bool.or_eq_false_iff] at hx2
          refine .inr ⟨(ih x).2 (.inr ⟨hxt, hxr.1, hx2.1⟩), fun e => hxr.2 e.symm, fun hc hu => ?_⟩
          have h5 := hx2.2
          rw [isUp_iff.2 hu, Bool.true_and] at h5
          rcases hc with hc | hc
          · unfold stops at h5
            rw [hc] at h5
            simp at h5
          · rw [hclear x hxt hu, h5] at hc
            cases hc
  intro hs hp
  have := hrev l.reverse (by rwa [List.reverse_reverse]) (by rwa [List.reverse_reverse])
  rwa [List.reverse_reverse] at this
end Go.Proofs.YtbgejefmchnhcaaDoor.Recs
