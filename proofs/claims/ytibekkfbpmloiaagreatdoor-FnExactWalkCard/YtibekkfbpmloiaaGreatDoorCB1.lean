/- Parts of several texts of mine in one file (each begins with its own remark). -/
import Derived.Test.YtibekkfbpmloiaaGreatDoorCA1
import Derived.Test.YtibekkfbpmloiaaGreatDoorCA2
import Derived.Test.YtibekkfbpmloiaaGreatDoorCA3
import Derived.Test.YtibekkfbpmloiaaGreatDoorCA4
import Derived.Test.YtibekkfbpmloiaaGreatDoorCA5
import Derived.Test.YtibekkfbpmloiaaGreatDoorChecked
import Derived.Lib.Join
import Derived.WalkKit
import Derived.Lib.Strings
import Derived.Deep.Slices
import Derived.OpenShut
import Derived.ShutString
import Derived.ChangeArms
import Derived.WideShapes
import Derived.Lib.LaidTab
import Derived.BigQuiet
import Derived.Deep.QuietTactic
import Derived.Deep.RegionHeld3
import Derived.StillTailTactics
import Derived.Deep.Draws
import Derived.Deep.LoopGhost
import Derived.WalkSpells
import Derived.WalkSmall
import Derived.Lib.OthersKept
import Derived.Lib.Hide
/- Plain facts on paths: a path is its parent and one part; the order of paths is strict and total; what is below a path follows it at once. -/
namespace Go.Proofs.YtibekkfbpmloiaaGreatDoor

theorem lessP_prefix : ∀ (A : List (List UInt8)) (c : List UInt8) (C : List (List UInt8)), lessP A (A ++ c :: C) = true
  | [], _, _ => rfl
  | a :: A, c, C => by
    simp only [List.cons_append, lessP, if_true]
    exact lessP_prefix A c C
/-! ### A path is its parent and one part -/
end Go.Proofs.YtibekkfbpmloiaaGreatDoor

/- Layers as plain lists of records: when a list is a layer; the records of a canonical form; it is a layer. -/
namespace Go.Proofs.YtibekkfbpmloiaaGreatDoor.Recs
open Go.RowKit Paths

theorem lessR_irrefl (r : R) : lessR r r = false := lessP_irrefl _
theorem parent_less {q : ByteArray} (h : pathB q.data.toList = true) (hp : parentL q.data.toList ≠ []) : lessP (cutAt 47 (parO q).data.toList) (cutAt 47 q.data.toList) = true := by
  rcases parent_cases h with ⟨h1, _⟩ | ⟨_, h2, _, _, _⟩
  · exact absurd h1 hp
  · have e := cut_parent q.data.toList
    rw [parO_data, h2]
    rw [e]
    simp only [List.dropLast_concat]
    exact lessP_prefix _ _ _

/-! ### The canonical form -/
end Go.Proofs.YtibekkfbpmloiaaGreatDoor.Recs

/- Sorted lists of records are told by their members; what is above a path; a housed list has all that is above its records. -/
namespace Go.Proofs.YtibekkfbpmloiaaGreatDoor.Recs
open Go.RowKit Paths

theorem sorted_ext : ∀ a b : List R, Sorted a → Sorted b → (∀ x, x ∈ a ↔ x ∈ b) → a = b
  | [], [], _, _, _ => rfl
  | [], y :: b, _, _, h => by have := (h y).2 (by simp); cases this
  | x :: a, [], _, _, h => by have := (h x).1 (by simp); cases this
  | x :: a, y :: b, ha, hb, h => by
    unfold Sorted at ha hb
    rw [List.pairwise_cons] at ha hb
    have exy : x = y := by
      rcases List.mem_cons.1 ((h x).1 (by simp)) with e | hx
      · exact e
      rcases List.mem_cons.1 ((h y).2 (by simp)) with e | hy
      · exact e.symm
      have h1 := hb.1 x hx
      have h2 := ha.1 y hy
      unfold lessR at h1 h2
      rw [lessP_asymm _ _ h1] at h2
      cases h2
    subst exy
    rw [sorted_ext a b ha.2 hb.2 fun z => ?_]
    constructor
    · intro hz
      rcases List.mem_cons.1 ((h z).1 (by simp [hz])) with e | hz'
      · subst e
        have := ha.1 z hz
        rw [lessR_irrefl] at this
        cases this
      · exact hz'
    · intro hz
      rcases List.mem_cons.1 ((h z).2 (by simp [hz])) with e | hz'
      · subst e
        have := hb.1 z hz
        rw [lessR_irrefl] at this
        cases this
      · exact hz'

theorem ups_less {q : ByteArray} (h : pathB q.data.toList = true) : ∀ a ∈ ups q, lessP (cutAt 47 a.data.toList) (cutAt 47 q.data.toList) = true := by
  refine path_ind (P := fun q => ∀ a ∈ ups q, lessP (cutAt 47 a.data.toList) (cutAt 47 q.data.toList) = true) ?_ ?_ q h
  · intro q hq hp a ha
    rw [ups_step hq, if_pos hp] at ha
    cases ha
  · intro q hq hp h1 ih a ha
    rw [ups_step hq, if_neg hp] at ha
    have h2 := parent_less hq hp
    rcases List.mem_cons.1 ha with rfl | ha
    · exact h2
    · exact lessP_trans _ _ _ (ih a ha) h2
theorem ups_trans {c : ByteArray} (h : pathB c.data.toList = true) : ∀ a b, b ∈ ups c → a ∈ ups b → a ∈ ups c := by
  refine path_ind (P := fun c => ∀ a b, b ∈ ups c → a ∈ ups b → a ∈ ups c) ?_ ?_ c h
  · intro q hq hp a b hb
    rw [ups_step hq, if_pos hp] at hb
    cases hb
  · intro q hq hp h1 ih a b hb ha
    rw [ups_step hq, if_neg hp] at hb ⊢
    rcases List.mem_cons.1 hb with rfl | hb
    · exact List.mem_cons_of_mem _ ha
    · exact List.mem_cons_of_mem _ (ih a b hb ha)
/-- All that is above a record of a housed list is a directory of it. -/
theorem housed_ups {t : List R} (hh : Housed t) {q : ByteArray} (h : pathB q.data.toList = true) : ∀ x ∈ t, x.p = q → ∀ a ∈ ups q, ∃ n ∈ t, n.p = a ∧ n.k = 3 := by
  refine path_ind (P := fun q => ∀ x ∈ t, x.p = q → ∀ a ∈ ups q, ∃ n ∈ t, n.p = a ∧ n.k = 3) ?_ ?_ q h
  · intro q hq hp x _ _ a ha
    rw [ups_step hq, if_pos hp] at ha
    cases ha
  · intro q hq hp h1 ih x hx hxq a ha
    rw [ups_step hq, if_neg hp] at ha
    subst hxq
    obtain ⟨n, hn, hnp, hnk⟩ := hh x hx hp
    rcases List.mem_cons.1 ha with rfl | ha
    · exact ⟨n, hn, hnp, hnk⟩
    · exact ih n hn hnp a ha
end Go.Proofs.YtibekkfbpmloiaaGreatDoor.Recs

/- Applying a layer to a tree, both as plain sorted lists (a node is a record that is not Opaque): what the result holds, in closed form. -/
namespace Go.Proofs.YtibekkfbpmloiaaGreatDoor.Recs
open Go.RowKit Paths

theorem isUp_no {q p : ByteArray} : isUp q p = false ↔ q ∉ ups p := by
  rw [← isUp_iff]
  simp
theorem mem_without {t : List R} {q : ByteArray} {self : Bool} {x : R} : x ∈ withoutL t q self ↔ x ∈ t ∧ q ∉ ups x.p ∧ (self = true → x.p ≠ q) := by
  unfold withoutL
  rw [List.mem_filter, Bool.and_eq_true, Bool.not_eq_true', isUp_no]
  cases self <;> simp
theorem without_sorted {t : List R} (h : Sorted t) (q : ByteArray) (self : Bool) : Sorted (withoutL t q self) := List.Pairwise.filter _ h
/-- Of two records of different paths one is less. -/
theorem less_or {x n : R} (h : x.p ≠ n.p) : lessR x n = true ∨ lessR n x = true := by
  rcases Bool.eq_false_or_eq_true (lessR x n) with h1 | h1
  · exact .inl h1
  rcases Bool.eq_false_or_eq_true (lessR n x) with h2 | h2
  · exact .inr h2
  exact absurd (bytes_cut (lessP_total _ _ h1 h2)) h
theorem less_ne {x n : R} (h : lessR x n = true) : x.p ≠ n.p := fun e => by
  unfold lessR at h
  rw [e, lessP_irrefl] at h
  cases h
theorem mem_put {t : List R} {n x : R} : x ∈ putL t n ↔ x = n ∨ x ∈ t ∧ x.p ≠ n.p := by
  unfold putL
  rw [List.mem_append, List.mem_cons, List.mem_filter, List.mem_filter]
  constructor
  · rintro (⟨h1, h2⟩ | h | ⟨h1, h2⟩)
    · exact .inr ⟨h1, less_ne h2⟩
    · exact .inl h
    · exact .inr ⟨h1, fun e => less_ne h2 e.symm⟩
  · rintro (h | ⟨h1, h2⟩)
    · exact .inr (.inl h)
    · rcases less_or h2 with h3 | h3
      · exact .inl ⟨h1, h3⟩
      · exact .inr (.inr ⟨h1, h3⟩)
theorem put_sorted {t : List R} (h : Sorted t) (n : R) : Sorted (putL t n) := by
  unfold putL Sorted
  rw [List.pairwise_append]
  refine ⟨List.Pairwise.filter _ h, ?_, ?_⟩
  · rw [List.pairwise_cons]
    exact ⟨fun x hx => (List.mem_filter.1 hx).2, List.Pairwise.filter _ h⟩
  · intro a ha b hb
    have h1 := (List.mem_filter.1 ha).2
    rcases List.mem_cons.1 hb with rfl | hb
    · exact h1
    · exact lessP_trans _ _ _ h1 (List.mem_filter.1 hb).2
theorem do_sorted {t : List R} (h : Sorted t) (r : R) : Sorted (doR t r) := by
  unfold doR
  split
  · exact without_sorted h _ _
  · split
    · exact put_sorted (without_sorted h _ _) _
    · exact put_sorted h _
theorem apply_sorted : ∀ (l : List R) {t : List R}, Sorted t → Sorted (applyL l t)
  | [], _, h => h
  | r :: l, _, h => apply_sorted l (do_sorted h r)
theorem mem_do {t : List R} {r x : R} : x ∈ doR t r ↔ (r.k ≠ 4 ∧ x = nodeOf r) ∨ (x ∈ t ∧ x.p ≠ r.p ∧ ((r.k = 4 ∨ clears t r = true) → r.p ∉ ups x.p)) := by
  unfold doR
  by_cases hk : r.k = 4
  · rw [if_pos hk, mem_without]
    constructor
    · rintro ⟨h1, h2, h3⟩
      exact .inr ⟨h1, h3 rfl, fun _ => h2⟩
    · rintro (⟨h1, _⟩ | ⟨h1, h2, h3⟩)
      · exact absurd hk h1
      · exact ⟨h1, h3 (.inl hk), fun _ => h2⟩
  · rw [if_neg hk, mem_put]
    have ep : (nodeOf r).p = r.p := rfl
    rw [ep]
    by_cases hc : clears t r = true
    · rw [if_pos hc, mem_without]
      constructor
      · rintro (h | ⟨⟨h1, h2, _⟩, h4⟩)
        · exact .inl ⟨hk, h⟩
        · exact .inr ⟨h1, h4, fun _ => h2⟩
      · rintro (⟨_, h⟩ | ⟨h1, h2, h3⟩)
        · exact .inl h
        · exact .inr ⟨⟨h1, h3 (.inr hc), fun h => by cases h⟩, h2⟩
    · rw [if_neg hc]
      constructor
      · rintro (h | ⟨h1, h2⟩)
        · exact .inl ⟨hk, h⟩
        · exact .inr ⟨h1, h2, fun h => by rcases h with h | h <;> contradiction⟩
      · rintro (⟨_, h⟩ | ⟨h1, h2, _⟩)
        · exact .inl h
        · exact .inr ⟨h1, h2⟩

/-- Lists that grow at their end: Sorted. -/
theorem sorted_snoc {l : List R} {r : R} (h : Sorted (l ++ [r])) : Sorted l ∧ ∀ x ∈ l, lessR x r = true := by
  unfold Sorted at h
  rw [List.pairwise_append] at h
  exact ⟨h.1, fun x hx => h.2.2 x hx r (by simp)⟩
theorem recAt_snoc (l : List R) (r : R) (q : ByteArray) : recAt (l ++ [r]) q = (recAt l q).or (if r.p = q then some r else none) := by
  unfold recAt
  rw [List.find?_append]
  congr 1
  by_cases h : r.p = q <;> simp [h]
theorem cuts_snoc {l : List R} {r : R} (h : Sorted (l ++ [r])) (q : ByteArray) : cutsL (l ++ [r]) q = (cutsL l q || (isUp r.p q && stops r)) := by
  obtain ⟨_, hlt⟩ := sorted_snoc h
  have hno : recAt l r.p = none := by
    cases hr : recAt l r.p with
    | none => rfl
    | some x =>
      obtain ⟨h1, h2⟩ := recAt_mem hr
      exact absurd h2 (less_ne (hlt x h1))
  have hat : ∀ a, stopsAt (l ++ [r]) a = (stopsAt l a || (decide (r.p = a) && stops r)) := by
    intro a
    unfold stopsAt
    rw [recAt_snoc]
    by_cases e : r.p = a
    · subst e
      rw [hno]
      simp
    · rw [if_neg e]
      cases recAt l a <;> simp [e]
  unfold cutsL
  rw [Bool.eq_iff_iff]
  simp only [List.any_eq_true, Bool.or_eq_true, Bool.and_eq_true, decide_eq_true_eq, isUp_iff, hat]
  constructor
  · rintro ⟨a, ha, h1 | ⟨rfl, h1⟩⟩
    · exact .inl ⟨a, ha, h1⟩
    · exact .inr ⟨ha, h1⟩
  · rintro (⟨a, ha, h1⟩ | ⟨ha, h1⟩)
    · exact ⟨a, ha, .inl h1⟩
    · exact ⟨r.p, ha, .inr ⟨rfl, h1⟩⟩

/-- WHAT APPLYING LEAVES: the records that are no whiteouts, as nodes; and of the tree what the layer has no record of and does not cut off. -/
theorem mem_apply {t : List R} (ht : IsTree t) (l : List R) : Sorted l → (∀ r ∈ l, pathB r.p.data.toList = true) → ∀ x, x ∈ applyL l t ↔ (∃ r ∈ l, r.k ≠ 4 ∧ x = nodeOf r) ∨ (x ∈ t ∧ recAt l x.p = none ∧ cutsL l x.p = false) := by
  have hrev : ∀ m : List R, Sorted m.reverse → (∀ r ∈ m.reverse, pathB r.p.data.toList = true) → ∀ x, x ∈ applyL m.reverse t ↔ (∃ r ∈ m.reverse, r.k ≠ 4 ∧ x = nodeOf r) ∨ (x ∈ t ∧ recAt m.reverse x.p = none ∧ cutsL m.reverse x.p = false) := by
    intro m
    induction m with
    | nil =>
      intro _ _ x
      have e2 : cutsL [] x.p = false := by
        unfold cutsL
        rw [List.any_eq_false]
        intro a _
        simp [stopsAt, recAt]
      simp [applyL, recAt, e2]
    | cons r m ih =>
      intro hs hpath x
      rw [List.reverse_cons] at hs hpath ⊢
      obtain ⟨hs1, hlt⟩ := sorted_snoc hs
      have ih := ih hs1 (fun y hy => hpath y (by simp at hy ⊢; exact .inl hy))
      have hrp : pathB r.p.data.toList = true := hpath r (by simp)
      have eA : applyL (m.reverse ++ [r]) t = doR (applyL m.reverse t) r := by unfold applyL; rw [List.foldl_append]; rfl
      rw [eA, mem_do, cuts_snoc hs, recAt_snoc]
      have hno : recAt m.reverse r.p = none := by
        cases hr : recAt m.reverse r.p with
        | none => rfl
        | some y =>
          obtain ⟨h1, h2⟩ := recAt_mem hr
          exact absurd h2 (less_ne (hlt y h1))
      -- a record of the elder part is neither at r's path nor below it
      have hold : ∀ y ∈ m.reverse, y.p ≠ r.p ∧ r.p ∉ ups y.p := fun y hy => ⟨less_ne (hlt y hy), fun hu => by
        have h1 := ups_less (hpath y (by simp at hy ⊢; exact .inl hy)) _ hu
        have h2 := hlt y hy
        unfold lessR at h2
        rw [lessP_asymm _ _ h1] at h2
        cases h2⟩
      -- what is in the tree below r's path, not cut off, has a directory there
      have hclear : ∀ y ∈ t, r.p ∈ ups y.p → clears (applyL m.reverse t) r = stops r := by
        intro y hy hu
        obtain ⟨n, hn, hnp, hnk⟩ := housed_ups ht.housed (ht.path y hy) y hy rfl r.p hu
        unfold clears
        cases hr : recAt (applyL m.reverse t) r.p with
        | none => simp
        | some z =>
          obtain ⟨hz, hzp⟩ := recAt_mem hr
          have hzk : z.k = 3 := by
            rcases (ih z).1 hz with ⟨q, hq, _, rfl⟩ | ⟨hzt, _⟩
            · exact absurd hzp (hold q hq).1
            · rw [sorted_mem_once ht.sorted hzt hn (hzp.trans hnp.symm)]; exact hnk
          simp [hzk]
      constructor
      · rintro (⟨h1, h2⟩ | ⟨h1, h2, h3⟩)
        · exact .inl ⟨r, by simp, h1, h2⟩
        · rcases (ih x).1 h1 with ⟨q, hq, hqk, hqx⟩ | ⟨hxt, hx1, hx2⟩
          · exact .inl ⟨q, by simp at hq ⊢; exact .inl hq, hqk, hqx⟩
          · refine .inr ⟨hxt, ?_, ?_⟩
            · rw [hx1, if_neg (fun e => h2 e.symm)]; rfl
            · rw [hx2, Bool.false_or]
              by_cases hu : r.p ∈ ups x.p
              · have hc := hclear x hxt hu
                have hns : stops r = false := by
                  rcases Bool.eq_false_or_eq_true (stops r) with h5 | h5
                  · exact absurd hu (h3 (.inr (hc.trans h5)))
                  · exact h5
                rw [hns, Bool.and_false]
              · rw [isUp_no.2 hu, Bool.false_and]
      · rintro (⟨q, hq, hqk, hqx⟩ | ⟨hxt, hx1, hx2⟩)
        · rcases List.mem_append.1 hq with hq | hq
          · refine .inr ⟨(ih x).2 (.inl ⟨q, hq, hqk, hqx⟩), ?_, fun _ => ?_⟩
            · rw [hqx]; exact (hold q hq).1
            · rw [hqx]; exact (hold q hq).2
          · rw [List.mem_singleton.1 hq] at hqk hqx
            exact .inl ⟨hqk, hqx⟩
        · have hxr : recAt m.reverse x.p = none ∧ ¬ r.p = x.p := by
            cases hr : recAt m.reverse x.p with
            | some z => rw [hr] at hx1; cases hx1
            | none =>
              refine ⟨rfl, fun e => ?_⟩
              rw [hr, if_pos e] at hx1
              cases hx1
          rw [Bool.or_eq_false_iff] at hx2
          refine .inr ⟨(ih x).2 (.inr ⟨hxt, hxr.1, hx2.1⟩), fun e => hxr.2 e.symm, fun hc hu => ?_⟩
          have h5 := hx2.2
          rw [isUp_iff.2 hu, Bool.true_and] at h5
          rcases hc with hc | hc
          · unfold stops at h5
            rw [hc] at h5
            simp at h5
          · rw [hclear x hxt hu, h5] at hc
            cases hc
  intro hs hp
  have := hrev l.reverse (by rwa [List.reverse_reverse]) (by rwa [List.reverse_reverse])
  rwa [List.reverse_reverse] at this
end Go.Proofs.YtibekkfbpmloiaaGreatDoor.Recs

/- Applying layers, plain: the result is a tree; applying again changes nothing; the canonical form has the same effect on every tree. -/
namespace Go.Proofs.YtibekkfbpmloiaaGreatDoor.Recs
open Go.RowKit Paths

theorem cuts_up {l : List R} {c q : ByteArray} (hq : pathB q.data.toList = true) (hc : c ∈ ups q) (h : cutsL l c = true) : cutsL l q = true := by
  unfold cutsL at h ⊢
  rw [List.any_eq_true] at h ⊢
  obtain ⟨a, ha, hs⟩ := h
  exact ⟨a, ups_trans hq a c hc ha, hs⟩
theorem cuts_at {l : List R} {c q : ByteArray} (hc : c ∈ ups q) {r : R} (hr : recAt l c = some r) (hs : stops r = true) : cutsL l q = true := by
  unfold cutsL
  rw [List.any_eq_true]
  exact ⟨c, hc, by unfold stopsAt; rw [hr]; simpa using hs⟩
theorem stops_no {r : R} (h : stops r = false) : r.k = 3 ∧ r.o = false := by
  unfold stops at h
  simpa using h
theorem parent_up {q : ByteArray} (h : pathB q.data.toList = true) (hp : parentL q.data.toList ≠ []) : parO q ∈ ups q := by
  rw [ups_step h, if_neg hp]
  simp

/-- (a) The result of applying a layer to a tree is a tree. -/
theorem apply_tree {l t : List R} (hl : IsLayer l) (ht : IsTree t) : IsTree (applyL l t) := by
  have hm := mem_apply ht l hl.sorted hl.path
  have hpath : ∀ x ∈ applyL l t, pathB x.p.data.toList = true := by
    intro x hx
    rcases (hm x).1 hx with ⟨r, hr, _, rfl⟩ | ⟨h1, _⟩
    · exact hl.path r hr
    · exact ht.path x h1
  refine ⟨apply_sorted l ht.sorted, ?_, hpath⟩
  intro x hx hp
  rcases (hm x).1 hx with ⟨r, hr, _, rfl⟩ | ⟨h1, h2, h3⟩
  · obtain ⟨s, hs, hsp, hsk⟩ := hl.housed r hr hp
    exact ⟨nodeOf s, (hm _).2 (.inl ⟨s, hs, by omega, rfl⟩), hsp, hsk⟩
  · obtain ⟨n, hn, hnp, hnk⟩ := ht.housed x h1 hp
    have hup := parent_up (ht.path x h1) hp
    cases hr : recAt l (parO x.p) with
    | some s =>
      obtain ⟨hs, hsp⟩ := recAt_mem hr
      have hst : stops s = false := by
        rcases Bool.eq_false_or_eq_true (stops s) with h | h
        · rw [cuts_at hup hr h] at h3; cases h3
        · exact h
      have hk := (stops_no hst).1
      exact ⟨nodeOf s, (hm _).2 (.inl ⟨s, hs, by omega, rfl⟩), hsp, hk⟩
    | none =>
      refine ⟨n, (hm n).2 (.inr ⟨hn, by rw [hnp]; exact hr, ?_⟩), hnp, hnk⟩
      rw [hnp]
      rcases Bool.eq_false_or_eq_true (cutsL l (parO x.p)) with h | h
      · rw [cuts_up (ht.path x h1) hup h] at h3; cases h3
      · exact h

end Go.Proofs.YtibekkfbpmloiaaGreatDoor.Recs

/- The combination of two layers, plain: its effect on every tree is that of applying one after the other. -/
namespace Go.Proofs.YtibekkfbpmloiaaGreatDoor.Recs
open Go.RowKit Paths

theorem less_path {x y z : R} (h : y.p = z.p) : lessR x y = lessR x z := by unfold lessR; rw [h]
theorem less_path' {x y z : R} (h : x.p = y.p) : lessR x z = lessR y z := by unfold lessR; rw [h]
section
variable {a b : List R} (ha : IsLayer a) (hb : IsLayer b)
include ha hb
end
end Go.Proofs.YtibekkfbpmloiaaGreatDoor.Recs

/- Combining layers, plain: the combination is canonical; combining is associative; the combination of a stack has the effect of applying its layers in order, and no other canonical layer has it. -/
namespace Go.Proofs.YtibekkfbpmloiaaGreatDoor.Recs
open Go.RowKit Paths

def applyAllL (s : List (List R)) (t : List R) : List R := s.foldl (fun x l => applyL l x) t
end Go.Proofs.YtibekkfbpmloiaaGreatDoor.Recs

/- Combining many layers in one pass, plain: the canonical form of the winners at all paths is the combination of the stack. A stack is given highest layer first. -/
namespace Go.Proofs.YtibekkfbpmloiaaGreatDoor.Recs
open Go.RowKit Paths

/-- A layer of the stack cuts the path off. -/
def cutsAny (s : List (List R)) (q : ByteArray) : Bool := s.any fun l => cutsL l q
/-- Applying a stack that is given highest layer first. -/
def applyDown : List (List R) → List R → List R
  | [], t => t
  | l :: s, t => applyL l (applyDown s t)
theorem applyDown_tree : ∀ (s : List (List R)), (∀ l ∈ s, Fine l) → ∀ {t : List R}, IsTree t → IsTree (applyDown s t)
  | [], _, _, ht => ht
  | l :: s, hs, _, ht => apply_tree (hs l (by simp)).layer (applyDown_tree s (fun x hx => hs x (by simp [hx])) ht)
/-- What applying a stack leaves: the winners that are no whiteouts, as nodes; and of the tree what no layer has a record of, or cuts off. -/
theorem mem_down : ∀ (s : List (List R)), (∀ l ∈ s, Fine l) → ∀ {t : List R}, IsTree t → ∀ x, x ∈ applyDown s t ↔ (∃ r, winner s x.p = some r ∧ r.k ≠ 4 ∧ x = nodeOf r) ∨ (x ∈ t ∧ winner s x.p = none ∧ cutsAny s x.p = false)
  | [], _, t, _, x => by simp [applyDown, winner, cutsAny]
  | l :: s, hs, t, ht, x => by
    have hl := hs l (by simp)
    have hs' : ∀ y ∈ s, Fine y := fun y hy => hs y (by simp [hy])
    have ih := mem_down s hs' ht x
    show x ∈ applyL l (applyDown s t) ↔ _
    rw [mem_apply (applyDown_tree s hs' ht) l hl.layer.sorted hl.layer.path, ih]
    have hnode : ∀ y : R, nodeOf (if y.k = 3 ∧ cutsL l x.p = false ∧ lowStops s x.p = true then { y with o := true } else y) = nodeOf y := by
      intro y; split <;> rfl
    have hkind : ∀ y : R, (if y.k = 3 ∧ cutsL l x.p = false ∧ lowStops s x.p = true then { y with o := true } else y).k = y.k := by
      intro y; split <;> rfl
    have hcut : cutsAny (l :: s) x.p = (cutsL l x.p || cutsAny s x.p) := by simp [cutsAny]
    rw [hcut]
    constructor
    · rintro (⟨y, hy, hk, e⟩ | ⟨h1, h2, h3⟩)
      · have hyp : y.p = x.p := by rw [e]; rfl
        have hr : recAt l x.p = some y := by rw [← hyp]; exact recAt_of hl.layer.sorted hy
        refine .inl ⟨_, by unfold winner; rw [hr], by rw [hkind]; exact hk, by rw [hnode]; exact e⟩
      · have hw : winner (l :: s) x.p = winner s x.p := by
          unfold winner
          rw [h2]
          show (if cutsL l x.p then none else winner s x.p) = _
          rw [if_neg (by rw [h3]; decide)]
          cases s <;> rfl
        rw [hw, h3, Bool.false_or]
        exact h1
    · rintro (⟨r, hr, hk, e⟩ | ⟨hx, h2, h3⟩)
      · unfold winner at hr
        cases hy : recAt l x.p with
        | some y =>
          rw [hy] at hr
          simp only [Option.some.injEq] at hr
          rw [← hr] at hk e
          rw [hkind] at hk
          rw [hnode] at e
          exact .inl ⟨y, (recAt_mem hy).1, hk, e⟩
        | none =>
          rw [hy] at hr
          have hr' : (if cutsL l x.p then none else winner s x.p) = some r := hr
          split at hr'
          · cases hr'
          · rename_i hc
            exact .inr ⟨.inl ⟨r, hr', hk, e⟩, rfl, by simpa using hc⟩
      · rw [Bool.or_eq_false_iff] at h3
        unfold winner at h2
        cases hy : recAt l x.p with
        | some y => rw [hy] at h2; cases h2
        | none =>
          rw [hy] at h2
          have h2' : (if cutsL l x.p then none else winner s x.p) = none := h2
          rw [if_neg (by rw [h3.1]; decide)] at h2'
          exact .inr ⟨.inr ⟨hx, h2', h3.2⟩, rfl, h3.1⟩

section
variable {s : List (List R)} {m : List R} (hs : ∀ l ∈ s, Fine l) (hm : Winners s m)
include hs hm
end
end Go.Proofs.YtibekkfbpmloiaaGreatDoor.Recs
