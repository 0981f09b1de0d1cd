/- Parts of several texts of mine in one file (each begins with its own remark). -/
import Derived.Test.YtibekkfbpmloiabGreatDoorCA1
import Derived.Test.YtibekkfbpmloiabGreatDoorCA16
import Derived.Test.YtibekkfbpmloiabGreatDoorCA3
import Derived.Test.YtibekkfbpmloiabGreatDoorCA4
import Derived.Test.YtibekkfbpmloiabGreatDoorCA5
import Derived.Test.YtibekkfbpmloiabGreatDoorCA6
import Derived.Test.YtibekkfbpmloiabGreatDoorChecked
import Derived.Deep.Slices
import Derived.OpenShut
import Derived.ShutString
import Derived.ChangeArms
import Derived.WideShapes
import Derived.Lib.LaidTab
import Derived.BigQuiet
import Derived.Deep.QuietTactic
import Derived.Deep.RegionHeld3
import Derived.StillTailTactics
import Derived.Deep.Draws
import Derived.Deep.LoopGhost
import Derived.WalkKit
import Derived.WalkSpells
import Derived.WalkSmall
import Derived.Lib.OthersKept
import Derived.Lib.Hide
import Derived.Lib.Strings
import Derived.Lib.Join
/- Layers as plain lists of records: in a layer the paths increase, so each path is there once; a parent that is no root stands before its record, and is a directory; how far up one can go. -/
namespace Go.Proofs.YtibekkfbpmloiabGreatDoor.Recs
open Go.RowKit Paths

/-- Any bound that reaches the parts serves. -/
theorem underF_more (l : List R) : ∀ (n : Nat) (q : ByteArray), pathB q.data.toList = true → (cutAt 47 q.data.toList).length ≤ n → ∀ m, n ≤ m → underF m l q = underF n l q := by
  intro n
  induction n with
  | zero =>
    intro q _ hl
    exact absurd (List.eq_nil_of_length_eq_zero (show (cutAt 47 q.data.toList).length = 0 by omega)) (cutAt_ne 47 _)
  | succ n ih =>
    intro q hq hl m hm
    obtain ⟨m', rfl⟩ : ∃ m', m = m' + 1 := ⟨m - 1, by omega⟩
    simp only [underF]
    by_cases hp : parentL q.data.toList = []
    · rw [if_pos hp, if_pos hp]
    · obtain ⟨h1, h2⟩ := parts_parent hq hp
      rw [if_neg hp, if_neg hp, ih (parO q) h1 (by omega) m' (by omega)]
theorem underL_step (l : List R) {q : ByteArray} (h : pathB q.data.toList = true) : underL l q = if parentL q.data.toList = [] then false else opaqueAt l (parO q) || underL l (parO q) := by
  have e : underL l q = if parentL q.data.toList = [] then false else opaqueAt l (parO q) || underF 3 l (parO q) := rfl
  by_cases hp : parentL q.data.toList = []
  · rw [e, if_pos hp, if_pos hp]
  · obtain ⟨h1, h2⟩ := parts_parent h hp
    have h3 := (pathB_parts h).1
    have h4 : underL l (parO q) = underF 3 l (parO q) := underF_more l 3 (parO q) h1 (by omega) 4 (by omega)
    rw [e, if_neg hp, if_neg hp, h4]
end Go.Proofs.YtibekkfbpmloiabGreatDoor.Recs

/- Layers as plain lists of records: when a list is a layer; the records of a canonical form; it is a layer. -/
namespace Go.Proofs.YtibekkfbpmloiabGreatDoor.Recs
open Go.RowKit Paths

/-! ### The canonical form -/
theorem canonR_path {l : List R} {r x : R} (h : canonR l r = some x) : x.p = r.p ∧ x.k = r.k ∧ x.b = r.b ∧ x.m = r.m ∧ (x.o = true → r.o = true) := by
  unfold canonR at h
  split at h
  · split at h
    · cases h
    · cases h; exact ⟨rfl, rfl, rfl, rfl, fun h => by cases h⟩
  · cases h; exact ⟨rfl, rfl, rfl, rfl, fun h => by simp at h; exact h.1⟩
theorem canonR_dir {l : List R} {r : R} (h : r.k = 3) : ∃ x, canonR l r = some x := by
  unfold canonR
  split
  · rw [if_neg (by omega)]; exact ⟨_, rfl⟩
  · exact ⟨_, rfl⟩
theorem canonR_fault {l : List R} {r x : R} (h : canonR l r = some x) (hr : r.fault = 0) : x.fault = 0 := by
  obtain ⟨h1, h2, h3, h4, h5⟩ := canonR_path h
  unfold R.fault at hr ⊢
  rw [h1, h2, h3, h4]
  cases hx : x.o with
  | true => rw [h5 hx] at hr; exact hr
  | false =>
    cases ho : r.o with
    | false => rw [ho] at hr; exact hr
    | true =>
      rw [ho] at hr
      unfold faultI at hr ⊢
      split at hr
      · cases hr
      split at hr
      · cases hr
      split at hr
      · cases hr
      split at hr
      · cases hr
      split at hr
      · cases hr
      rename_i a1 a2 a3 a4 a5
      rw [if_neg a1, if_neg a2, if_neg a3, if_neg (by simp only [Bool.false_eq_true, false_and, or_false]; omega), if_neg a5]
theorem mem_canon {l : List R} {x : R} : x ∈ canonL l ↔ ∃ r ∈ l, canonR l r = some x := by
  unfold canonL
  rw [List.mem_filterMap]
theorem canon_sorted {l : List R} (h : Sorted l) : Sorted (canonL l) := by
  unfold Sorted canonL
  rw [List.pairwise_filterMap]
  refine List.Pairwise.imp (fun {a b} hab x hx y hy => ?_) h
  unfold lessR at hab ⊢
  rw [(canonR_path hx).1, (canonR_path hy).1]
  exact hab
end Go.Proofs.YtibekkfbpmloiabGreatDoor.Recs

/- Layers as plain lists of records: the canonical form is canonical; what is above a path, as a list; what a layer cuts off. -/
namespace Go.Proofs.YtibekkfbpmloiabGreatDoor.Recs
open Go.RowKit Paths

theorem under_cuts {l : List R} {q : ByteArray} (h : underL l q = true) : cutsL l q = true := by
  rw [underL_any, List.any_eq_true] at h
  obtain ⟨a, ha, hb⟩ := h
  unfold cutsL
  rw [List.any_eq_true]
  refine ⟨a, ha, ?_⟩
  rw [opaqueAt_eq] at hb
  unfold stopsAt
  cases hr : recAt l a with
  | none => rw [hr] at hb; cases hb
  | some r => rw [hr] at hb; simp at hb; simp [stops, hb]

theorem canon_recAt {l : List R} (h : Sorted l) (q : ByteArray) : recAt (canonL l) q = (recAt l q).bind (canonR l) := by
  cases hr : recAt l q with
  | none =>
    cases hc : recAt (canonL l) q with
    | none => rfl
    | some x =>
      obtain ⟨h1, h2⟩ := recAt_mem hc
      obtain ⟨r, hm, he⟩ := mem_canon.1 h1
      exact absurd ((canonR_path he).1.symm.trans h2) (recAt_none hr r hm)
  | some r =>
    obtain ⟨h1, h2⟩ := recAt_mem hr
    show _ = canonR l r
    cases he : canonR l r with
    | none =>
      cases hc : recAt (canonL l) q with
      | none => rfl
      | some x =>
        obtain ⟨h3, h4⟩ := recAt_mem hc
        obtain ⟨y, hm, hy⟩ := mem_canon.1 h3
        have e := sorted_mem_once h hm h1 ((canonR_path hy).1.symm.trans (h4.trans h2.symm))
        subst e
        rw [he] at hy
        cases hy
    | some x =>
      have hx := mem_canon.2 ⟨r, h1, he⟩
      have e := recAt_of (canon_sorted h) hx
      rw [(canonR_path he).1, h2] at e
      exact e
theorem canon_opaque_le {l : List R} (h : Sorted l) {q : ByteArray} (ho : opaqueAt (canonL l) q = true) : opaqueAt l q = true := by
  rw [opaqueAt_eq, canon_recAt h] at ho
  rw [opaqueAt_eq]
  cases hr : recAt l q with
  | none => rw [hr] at ho; cases ho
  | some r =>
    rw [hr] at ho
    have ho' : (canonR l r).any (fun x => x.o) = true := ho
    cases he : canonR l r with
    | none => rw [he] at ho'; cases ho'
    | some x =>
      rw [he] at ho'
      simp at ho'
      simpa using (canonR_path he).2.2.2.2 ho'
theorem canon_under_le {l : List R} (h : Sorted l) {q : ByteArray} (ho : underL (canonL l) q = true) : underL l q = true := by
  rw [underL_any, List.any_eq_true] at ho ⊢
  obtain ⟨a, ha, hb⟩ := ho
  exact ⟨a, ha, canon_opaque_le h hb⟩
/-- The canonical form is canonical. -/
theorem canon_idem {l : List R} (h : Sorted l) : canonL (canonL l) = canonL l := by
  have hall : ∀ x ∈ canonL l, canonR (canonL l) x = some x := by
    intro x hx
    obtain ⟨r, hm, he⟩ := mem_canon.1 hx
    have hp := (canonR_path he).1
    have he' := he
    unfold canonR at he'
    by_cases hu : underL l r.p = true
    · rw [if_pos hu] at he'
      split at he'
      · cases he'
      · rename_i hk
        cases he'
        unfold canonR
        split
        · first | rfl | rw [if_neg hk]
        · simp
    · rw [if_neg hu] at he'
      cases he'
      unfold canonR
      rw [if_neg (fun hc => hu (canon_under_le h hc))]
      simp
  have hid : ∀ (c : List R) (f : R → Option R), (∀ x ∈ c, f x = some x) → c.filterMap f = c := by
    intro c f
    induction c with
    | nil => intro _; rfl
    | cons a t ih =>
      intro ha
      rw [List.filterMap_cons, ha a (by simp)]
      simp only
      rw [ih (fun x hx => ha x (by simp [hx]))]
  exact hid _ _ hall
end Go.Proofs.YtibekkfbpmloiabGreatDoor.Recs

/- Applying layers, plain: the result is a tree; applying again changes nothing; the canonical form has the same effect on every tree. -/
namespace Go.Proofs.YtibekkfbpmloiabGreatDoor.Recs
open Go.RowKit Paths

theorem cuts_get {l : List R} {q : ByteArray} (h : cutsL l q = true) : ∃ c ∈ ups q, ∃ r, recAt l c = some r ∧ stops r = true := by
  unfold cutsL at h
  rw [List.any_eq_true] at h
  obtain ⟨c, hc, hs⟩ := h
  unfold stopsAt at hs
  cases hr : recAt l c with
  | none => rw [hr] at hs; cases hs
  | some r => rw [hr] at hs; exact ⟨c, hc, r, hr, by simpa using hs⟩
theorem parts_up {q : ByteArray} (h : pathB q.data.toList = true) : ∀ a ∈ ups q, (cutAt 47 a.data.toList).length < (cutAt 47 q.data.toList).length := by
  refine path_ind (P := fun q => ∀ a ∈ ups q, (cutAt 47 a.data.toList).length < (cutAt 47 q.data.toList).length) ?_ ?_ q h
  · intro q hq hp a ha
    rw [ups_step hq, if_pos hp] at ha
    cases ha
  · intro q hq hp h1 ih a ha
    rw [ups_step hq, if_neg hp] at ha
    obtain ⟨_, h2⟩ := parts_parent hq hp
    rcases List.mem_cons.1 ha with rfl | ha
    · omega
    · have := ih a ha; omega
/-- A record that is not under an opaque directory, and has something below it, stops in the canonical form as it did. -/
theorem canonR_stops {l : List R} {r : R} (hu : underL l r.p = false) (hlen : (cutAt 47 r.p.data.toList).length < 4) : ∃ x, canonR l r = some x ∧ stops x = stops r := by
  refine ⟨{ r with o := r.o && decide ((cutAt 47 r.p.data.toList).length < 4) }, ?_, ?_⟩
  · unfold canonR
    rw [if_neg (by rw [hu]; decide)]
  · unfold stops
    simp [hlen]
theorem under_canon {l : List R} (hs : Sorted l) {q : ByteArray} (h : pathB q.data.toList = true) : underL l q = true → cutsL (canonL l) q = true := by
  refine path_ind (P := fun q => underL l q = true → cutsL (canonL l) q = true) ?_ ?_ q h
  · intro q hq hp hu
    rw [underL_step l hq, if_pos hp] at hu
    cases hu
  · intro q hq hp h1 ih hu
    have hup := parent_up hq hp
    rw [underL_step l hq, if_neg hp, Bool.or_eq_true] at hu
    rcases Bool.eq_false_or_eq_true (underL l (parO q)) with h2 | h2
    · exact cuts_up hq hup (ih h2)
    · rcases hu with hu | hu
      · rw [opaqueAt_eq] at hu
        cases hr : recAt l (parO q) with
        | none => rw [hr] at hu; cases hu
        | some r =>
          rw [hr] at hu
          have ho : r.o = true := by simpa using hu
          obtain ⟨_, hrp⟩ := recAt_mem hr
          have h3 := parts_up hq _ hup
          have h4 := (pathB_parts hq).1
          obtain ⟨x, hx, hxs⟩ := canonR_stops (l := l) (r := r) (by rw [hrp]; exact h2) (by rw [hrp]; omega)
          refine cuts_at hup (r := x) (by rw [canon_recAt hs, hr]; exact hx) ?_
          rw [hxs]
          simp [stops, ho]
      · rw [h2] at hu; cases hu
theorem canon_cuts {l : List R} (hs : Sorted l) {q : ByteArray} (h : pathB q.data.toList = true) : cutsL (canonL l) q = cutsL l q := by
  rw [Bool.eq_iff_iff]
  constructor
  · intro hc
    obtain ⟨c, hcu, x, hx, hst⟩ := cuts_get hc
    rw [canon_recAt hs] at hx
    cases hr : recAt l c with
    | none => rw [hr] at hx; cases hx
    | some r =>
      rw [hr] at hx
      obtain ⟨_, h2, _, _, h5⟩ := canonR_path (show canonR l r = some x from hx)
      refine cuts_at hcu hr ?_
      unfold stops at hst ⊢
      rw [h2] at hst
      simp only [Bool.or_eq_true] at hst ⊢
      rcases hst with hst | hst
      · exact .inl hst
      · exact .inr (h5 hst)
  · intro hc
    obtain ⟨c, hcu, r, hr, hst⟩ := cuts_get hc
    obtain ⟨_, hrp⟩ := recAt_mem hr
    have hcp := ups_path h c hcu
    rcases Bool.eq_false_or_eq_true (underL l c) with h2 | h2
    · exact cuts_up h hcu (under_canon hs hcp h2)
    · have h3 := parts_up h _ hcu
      have h4 := (pathB_parts h).1
      obtain ⟨x, hx, hxs⟩ := canonR_stops (l := l) (r := r) (by rw [hrp]; exact h2) (by rw [hrp]; omega)
      exact cuts_at hcu (r := x) (by rw [canon_recAt hs, hr]; exact hx) (by rw [hxs]; exact hst)
theorem canon_path {l : List R} (hp : ∀ x ∈ l, pathB x.p.data.toList = true) : ∀ x ∈ canonL l, pathB x.p.data.toList = true := by
  intro x hx
  obtain ⟨r, hr, he⟩ := mem_canon.1 hx
  rw [(canonR_path he).1]
  exact hp r hr
theorem nodeOf_canon {l : List R} {r x : R} (h : canonR l r = some x) : nodeOf x = nodeOf r := by
  obtain ⟨h1, h2, h3, h4, _⟩ := canonR_path h
  unfold nodeOf
  rw [h1, h2, h3, h4]
/-- (b) The canonical form has the same effect on every tree. -/
theorem apply_canon {l t : List R} (hs : Sorted l) (hp : ∀ x ∈ l, pathB x.p.data.toList = true) (ht : IsTree t) : applyL (canonL l) t = applyL l t := by
  refine sorted_ext _ _ (apply_sorted _ ht.sorted) (apply_sorted _ ht.sorted) fun x => ?_
  rw [mem_apply ht _ (canon_sorted hs) (canon_path hp), mem_apply ht _ hs hp]
  constructor
  · rintro (⟨y, hy, hk, rfl⟩ | ⟨h1, h2, h3⟩)
    · obtain ⟨r, hr, he⟩ := mem_canon.1 hy
      exact .inl ⟨r, hr, by rw [← (canonR_path he).2.1]; exact hk, nodeOf_canon he⟩
    · have hxp := ht.path x h1
      rw [canon_cuts hs hxp] at h3
      refine .inr ⟨h1, ?_, h3⟩
      rw [canon_recAt hs] at h2
      cases hr : recAt l x.p with
      | none => rfl
      | some r =>
        rw [hr] at h2
        have h2' : canonR l r = none := h2
        obtain ⟨_, hrp⟩ := recAt_mem hr
        unfold canonR at h2'
        split at h2'
        · rename_i hu
          rw [hrp] at hu
          rw [under_cuts hu] at h3
          cases h3
        · cases h2'
  · rintro (⟨r, hr, hk, rfl⟩ | ⟨h1, h2, h3⟩)
    · have he : ∃ y, canonR l r = some y := by
        unfold canonR
        split
        · exact ⟨_, rfl⟩
        · exact ⟨_, rfl⟩
      obtain ⟨y, hy⟩ := he
      exact .inl ⟨y, mem_canon.2 ⟨r, hr, hy⟩, by rw [(canonR_path hy).2.1]; exact hk, (nodeOf_canon hy).symm⟩
    · refine .inr ⟨h1, ?_, by rw [canon_cuts hs (ht.path x h1)]; exact h3⟩
      rw [canon_recAt hs, h2]
      rfl
end Go.Proofs.YtibekkfbpmloiabGreatDoor.Recs

/- The combination of two layers, plain: what it holds; it is a layer but for its length; it has the same effect on every tree as applying one after the other. -/
namespace Go.Proofs.YtibekkfbpmloiabGreatDoor.Recs
open Go.RowKit Paths

/-- What the upper record becomes over what the lower layer has of its path. -/
def overO (a : List R) (y : R) : R := match recAt a y.p with | some x => overR x y | none => y
theorem overR_same (x y : R) : (overR x y).p = y.p ∧ (overR x y).k = y.k ∧ (overR x y).b = y.b ∧ (overR x y).m = y.m ∧ (y.o = true → (overR x y).o = true) := by
  unfold overR
  split
  · exact ⟨rfl, rfl, rfl, rfl, fun _ => rfl⟩
  · exact ⟨rfl, rfl, rfl, rfl, fun h => h⟩
theorem overO_same (a : List R) (y : R) : (overO a y).p = y.p ∧ (overO a y).k = y.k ∧ (overO a y).b = y.b ∧ (overO a y).m = y.m ∧ (y.o = true → (overO a y).o = true) := by
  unfold overO
  split
  · exact overR_same _ _
  · exact ⟨rfl, rfl, rfl, rfl, fun h => h⟩

theorem mem_two (u : List R) : ∀ a b : List R, Sorted a → Sorted b → ∀ z, z ∈ twoL u a b ↔ (∃ y ∈ b, z = overO a y) ∨ (z ∈ a ∧ recAt b z.p = none ∧ cutsL u z.p = false)
  | [], b, _, _, z => by
    rw [twoL]
    simp [overO, recAt]
  | x :: a, [], ha, hb, z => by
    unfold Sorted at ha
    rw [List.pairwise_cons] at ha
    have ih := mem_two u a [] ha.2 hb z
    rw [twoL]
    split
    · rename_i hc
      rw [ih]
      simp only [List.not_mem_nil, false_and, exists_false, false_or, List.mem_cons]
      constructor
      · rintro ⟨h1, h2⟩; exact ⟨.inr h1, h2⟩
      · rintro ⟨rfl | h1, h2, h3⟩
        · rw [hc] at h3; cases h3
        · exact ⟨h1, h2, h3⟩
    · rename_i hc
      rw [List.mem_cons, ih]
      simp only [List.not_mem_nil, false_and, exists_false, false_or, List.mem_cons]
      constructor
      · rintro (rfl | ⟨h1, h2⟩)
        · exact ⟨.inl rfl, rfl, by simpa using hc⟩
        · exact ⟨.inr h1, h2⟩
      · rintro ⟨rfl | h1, h2⟩
        · exact .inl rfl
        · exact .inr ⟨h1, h2⟩
  | x :: a, y :: b, ha, hb, z => by
    have ha' := ha
    have hb' := hb
    unfold Sorted at ha hb
    rw [List.pairwise_cons] at ha hb
    rw [twoL]
    split
    · rename_i hxy
      have ih := mem_two u a (y :: b) ha.2 hb' z
      -- x stands in no record of the upper list
      have hnx : recAt (y :: b) x.p = none := recAt_less fun w hw => by
        rcases List.mem_cons.1 hw with rfl | hw
        · exact hxy
        · exact lessP_trans _ _ _ hxy (hb.1 w hw)
      have hov : ∀ w ∈ y :: b, overO (x :: a) w = overO a w := by
        intro w hw
        have hne : x.p ≠ w.p := by
          rcases List.mem_cons.1 hw with rfl | hw
          · exact less_ne hxy
          · exact less_ne (lessP_trans _ _ _ hxy (hb.1 w hw) : lessR x w = true)
        unfold overO
        rw [recAt_cons_ne hne]
      have hex : (∃ w ∈ y :: b, z = overO (x :: a) w) ↔ ∃ w ∈ y :: b, z = overO a w :=
        ⟨fun ⟨w, hw, e⟩ => ⟨w, hw, by rw [e, hov w hw]⟩, fun ⟨w, hw, e⟩ => ⟨w, hw, by rw [e, hov w hw]⟩⟩
      rw [hex]
      split
      · rename_i hc
        rw [ih]
        constructor
        · rintro (h | ⟨h1, h2⟩)
          · exact .inl h
          · exact .inr ⟨List.mem_cons_of_mem _ h1, h2⟩
        · rintro (h | ⟨h1, h2, h3⟩)
          · exact .inl h
          · rcases List.mem_cons.1 h1 with rfl | h1
            · rw [hc] at h3; cases h3
            · exact .inr ⟨h1, h2, h3⟩
      · rename_i hc
        rw [List.mem_cons, ih]
        constructor
        · rintro (rfl | h | ⟨h1, h2⟩)
          · exact .inr ⟨by simp, hnx, by simpa using hc⟩
          · exact .inl h
          · exact .inr ⟨List.mem_cons_of_mem _ h1, h2⟩
        · rintro (h | ⟨h1, h2⟩)
          · exact .inr (.inl h)
          · rcases List.mem_cons.1 h1 with rfl | h1
            · exact .inl rfl
            · exact .inr (.inr ⟨h1, h2⟩)
    · rename_i hxy
      split
      · rename_i hyx
        have ih := mem_two u (x :: a) b ha' hb.2 z
        have hny : recAt (x :: a) y.p = none := recAt_less fun w hw => by
          rcases List.mem_cons.1 hw with rfl | hw
          · exact hyx
          · exact lessP_trans _ _ _ hyx (ha.1 w hw)
        have hy0 : overO (x :: a) y = y := by unfold overO; rw [hny]
        have hb0 : ∀ w ∈ x :: a, recAt (y :: b) w.p = recAt b w.p := by
          intro w hw
          refine recAt_cons_ne ?_
          rcases List.mem_cons.1 hw with rfl | hw
          · exact less_ne hyx
          · exact less_ne (lessP_trans _ _ _ hyx (ha.1 w hw) : lessR y w = true)
        rw [List.mem_cons, ih]
        constructor
        · rintro (rfl | ⟨w, hw, e⟩ | ⟨h1, h2, h3⟩)
          · exact .inl ⟨z, by simp, hy0.symm⟩
          · exact .inl ⟨w, List.mem_cons_of_mem _ hw, e⟩
          · exact .inr ⟨h1, by rw [hb0 z h1]; exact h2, h3⟩
        · rintro (⟨w, hw, e⟩ | ⟨h1, h2, h3⟩)
          · rcases List.mem_cons.1 hw with rfl | hw
            · exact .inl (e.trans hy0)
            · exact .inr (.inl ⟨w, hw, e⟩)
          · exact .inr (.inr ⟨h1, by rw [← hb0 z h1]; exact h2, h3⟩)
      · rename_i hyx
        have exy : x.p = y.p := by
          refine Classical.byContradiction fun hne => ?_
          rcases less_or hne with h | h
          · exact hxy h
          · exact hyx h
        have ih := mem_two u a b ha.2 hb.2 z
        have hy0 : overO (x :: a) y = overR x y := by unfold overO; rw [recAt_cons_eq exy]
        have hov : ∀ w ∈ b, overO (x :: a) w = overO a w := by
          intro w hw
          unfold overO
          rw [recAt_cons_ne (by rw [exy]; exact less_ne (hb.1 w hw))]
        have hb0 : ∀ w ∈ a, recAt (y :: b) w.p = recAt b w.p := by
          intro w hw
          exact recAt_cons_ne (by rw [← exy]; exact less_ne (ha.1 w hw))
        rw [List.mem_cons, ih]
        constructor
        · rintro (rfl | ⟨w, hw, e⟩ | ⟨h1, h2, h3⟩)
          · exact .inl ⟨y, by simp, hy0.symm⟩
          · exact .inl ⟨w, List.mem_cons_of_mem _ hw, by rw [e, hov w hw]⟩
          · exact .inr ⟨List.mem_cons_of_mem _ h1, by rw [hb0 z h1]; exact h2, h3⟩
        · rintro (⟨w, hw, e⟩ | ⟨h1, h2, h3⟩)
          · rcases List.mem_cons.1 hw with rfl | hw
            · exact .inl (e.trans hy0)
            · exact .inr (.inl ⟨w, hw, by rw [e, hov w hw]⟩)
          · rcases List.mem_cons.1 h1 with rfl | h1
            · rw [recAt_cons_eq exy.symm] at h2; cases h2
            · exact .inr (.inr ⟨h1, by rw [← hb0 z h1]; exact h2, h3⟩)
termination_by a b => a.length + b.length
end Go.Proofs.YtibekkfbpmloiabGreatDoor.Recs

/- The combination of two layers, plain: its effect on every tree is that of applying one after the other. -/
namespace Go.Proofs.YtibekkfbpmloiabGreatDoor.Recs
open Go.RowKit Paths

theorem less_path {x y z : R} (h : y.p = z.p) : lessR x y = lessR x z := by unfold lessR; rw [h]
theorem less_path' {x y z : R} (h : x.p = y.p) : lessR x z = lessR y z := by unfold lessR; rw [h]
/-- All that follows a record in both lists follows it in the one. -/
theorem two_after {u a b : List R} (ha : Sorted a) (hb : Sorted b) {x : R} (h1 : ∀ w ∈ a, lessR x w = true) (h2 : ∀ w ∈ b, lessR x w = true) : ∀ z ∈ twoL u a b, lessR x z = true := by
  intro z hz
  rcases (mem_two u a b ha hb z).1 hz with ⟨y, hy, rfl⟩ | ⟨h, _⟩
  · rw [less_path (overO_same a y).1]; exact h2 y hy
  · exact h1 z h
theorem two_sorted (u : List R) : ∀ a b : List R, Sorted a → Sorted b → Sorted (twoL u a b)
  | [], b, _, hb => by rw [twoL]; exact hb
  | x :: a, [], ha, hb => by
    unfold Sorted at ha
    rw [List.pairwise_cons] at ha
    have ih := two_sorted u a [] ha.2 hb
    rw [twoL]
    split
    · exact ih
    · exact List.pairwise_cons.2 ⟨two_after ha.2 hb ha.1 (fun w hw => by cases hw), ih⟩
  | x :: a, y :: b, ha, hb => by
    have ha' := ha
    have hb' := hb
    unfold Sorted at ha hb
    rw [List.pairwise_cons] at ha hb
    rw [twoL]
    split
    · rename_i hxy
      have ih := two_sorted u a (y :: b) ha.2 hb'
      split
      · exact ih
      · refine List.pairwise_cons.2 ⟨two_after ha.2 hb' ha.1 (fun w hw => ?_), ih⟩
        rcases List.mem_cons.1 hw with rfl | hw
        · exact hxy
        · exact lessP_trans _ _ _ hxy (hb.1 w hw)
    · rename_i hxy
      split
      · rename_i hyx
        refine List.pairwise_cons.2 ⟨two_after ha' hb.2 (fun w hw => ?_) hb.1, two_sorted u (x :: a) b ha' hb.2⟩
        rcases List.mem_cons.1 hw with rfl | hw
        · exact hyx
        · exact lessP_trans _ _ _ hyx (ha.1 w hw)
      · rename_i hyx
        have exy : x.p = y.p := by
          refine Classical.byContradiction fun hne => ?_
          rcases less_or hne with h | h
          · exact hxy h
          · exact hyx h
        refine List.pairwise_cons.2 ⟨two_after ha.2 hb.2 (fun w hw => ?_) (fun w hw => ?_), two_sorted u a b ha.2 hb.2⟩
        · rw [less_path' ((overR_same x y).1.trans exy.symm)]; exact ha.1 w hw
        · rw [less_path' (overR_same x y).1]; exact hb.1 w hw
termination_by a b => a.length + b.length

def squashL (a b : List R) : List R := canonL (two a b)
section
variable {a b : List R} (ha : IsLayer a) (hb : IsLayer b)
include ha hb
theorem two_recAt (q : ByteArray) : recAt (two a b) q = match recAt b q with | some y => some (overO a y) | none => if cutsL b q then none else recAt a q := by
  have hs := two_sorted b a b ha.sorted hb.sorted
  have hm := mem_two b a b ha.sorted hb.sorted
  cases hr : recAt b q with
  | some y =>
    obtain ⟨h1, h2⟩ := recAt_mem hr
    have hin : overO a y ∈ two a b := (hm _).2 (.inl ⟨y, h1, rfl⟩)
    have e := recAt_of hs hin
    rw [(overO_same a y).1, h2] at e
    exact e
  | none =>
    show recAt (two a b) q = if cutsL b q then none else recAt a q
    cases hc : recAt (two a b) q with
    | some z =>
      obtain ⟨h1, h2⟩ := recAt_mem hc
      rcases (hm z).1 h1 with ⟨y, hy, rfl⟩ | ⟨h3, h4, h5⟩
      · exact absurd ((overO_same a y).1.symm.trans h2) (recAt_none hr y hy)
      · rw [h2] at h5
        rw [if_neg (by rw [h5]; decide), ← h2, recAt_of ha.sorted h3]
    | none =>
      split
      · rfl
      · rename_i hcut
        cases hx : recAt a q with
        | none => rfl
        | some x =>
          obtain ⟨h1, h2⟩ := recAt_mem hx
          exact absurd h2 (recAt_none hc x ((hm x).2 (.inr ⟨h1, by rw [h2]; exact hr, by rw [h2]; simpa using hcut⟩)))
theorem two_path : ∀ z ∈ two a b, pathB z.p.data.toList = true := by
  intro z hz
  rcases (mem_two b a b ha.sorted hb.sorted z).1 hz with ⟨y, hy, rfl⟩ | ⟨h, _⟩
  · rw [(overO_same a y).1]; exact hb.path y hy
  · exact ha.path z h
omit ha hb in
theorem stops_over {y : R} (h : stops y = true) : stops (overO a y) = true := by
  obtain ⟨_, h2, _, _, h5⟩ := overO_same a y
  unfold stops at h ⊢
  rw [h2]
  simp only [Bool.or_eq_true] at h ⊢
  rcases h with h | h
  · exact .inl h
  · exact .inr (h5 h)
omit ha hb in
theorem stops_over_low {x y : R} (hx : recAt a y.p = some x) (h : stops x = true) : stops (overO a y) = true := by
  unfold overO
  rw [hx]
  show stops (overR x y) = true
  unfold overR
  split
  · simp [stops]
  · rename_i hn
    have : ¬ y.k = 3 := fun e => hn ⟨e, h⟩
    simp [stops, this]
/-- What the combination cuts off is what one of the two does. -/
theorem two_cuts {q : ByteArray} (h : pathB q.data.toList = true) : cutsL (two a b) q = (cutsL a q || cutsL b q) := by
  have hlow : ∀ q : ByteArray, pathB q.data.toList = true → cutsL b q = true → cutsL (two a b) q = true := by
    intro q _ hc
    obtain ⟨c, hcu, y, hy, hst⟩ := cuts_get hc
    exact cuts_at hcu (r := overO a y) (by rw [two_recAt ha hb, hy]) (stops_over hst)
  rw [Bool.eq_iff_iff, Bool.or_eq_true]
  constructor
  · intro hc
    obtain ⟨c, hcu, z, hz, hst⟩ := cuts_get hc
    rw [two_recAt ha hb] at hz
    cases hr : recAt b c with
    | some y =>
      rw [hr] at hz
      cases hz
      obtain ⟨_, hyp⟩ := recAt_mem hr
      rcases Bool.eq_false_or_eq_true (stops y) with hy | hy
      · exact .inr (cuts_at hcu hr hy)
      · cases hx : recAt a y.p with
        | none =>
          have e : overO a y = y := by unfold overO; rw [hx]
          rw [e, hy] at hst
          cases hst
        | some x =>
          rcases Bool.eq_false_or_eq_true (stops x) with hsx | hsx
          · exact .inl (cuts_at hcu (by rw [← hyp]; exact hx) hsx)
          · have e : overO a y = y := by
              unfold overO
              rw [hx]
              show overR x y = y
              unfold overR
              rw [if_neg (fun hh => by rw [hsx] at hh; cases hh.2)]
            rw [e, hy] at hst
            cases hst
    | none =>
      rw [hr] at hz
      have hz' : (if cutsL b c then none else recAt a c) = some z := hz
      split at hz'
      · cases hz'
      · exact .inl (cuts_at hcu hz' hst)
  · rintro (hc | hc)
    · obtain ⟨c, hcu, x, hx, hst⟩ := cuts_get hc
      have hcp := ups_path h c hcu
      cases hr : recAt b c with
      | some y =>
        obtain ⟨_, hyp⟩ := recAt_mem hr
        exact cuts_at hcu (r := overO a y) (by rw [two_recAt ha hb, hr]) (stops_over_low (by rw [hyp]; exact hx) hst)
      | none =>
        rcases Bool.eq_false_or_eq_true (cutsL b c) with h2 | h2
        · exact cuts_up h hcu (hlow c hcp h2)
        · exact cuts_at hcu (r := x) (by rw [two_recAt ha hb, hr]; show (if cutsL b c then none else recAt a c) = some x; rw [if_neg (by rw [h2]; decide)]; exact hx) hst
    · exact hlow q h hc
omit ha hb in
theorem nodeOf_over (a : List R) (y : R) : nodeOf (overO a y) = nodeOf y := by
  obtain ⟨h1, h2, h3, h4, _⟩ := overO_same a y
  unfold nodeOf
  rw [h1, h2, h3, h4]
/-- (d) THE COMBINATION HAS THE SAME EFFECT ON EVERY TREE AS APPLYING ONE AFTER THE OTHER. -/
theorem apply_two {t : List R} (ht : IsTree t) : applyL (two a b) t = applyL b (applyL a t) := by
  have h1 := apply_tree ha ht
  have hs : Sorted (two a b) := two_sorted b a b ha.sorted hb.sorted
  refine sorted_ext _ _ (apply_sorted _ ht.sorted) (apply_sorted _ h1.sorted) fun x => ?_
  rw [mem_apply ht _ hs (two_path ha hb), mem_apply h1 _ hb.sorted hb.path, mem_apply ht _ ha.sorted ha.path]
  constructor
  · rintro (⟨z, hz, hk, rfl⟩ | ⟨hx, h2, h3⟩)
    · rcases (mem_two b a b ha.sorted hb.sorted z).1 hz with ⟨y, hy, rfl⟩ | ⟨h4, h5, h6⟩
      · exact .inl ⟨y, hy, by rw [← (overO_same a y).2.1]; exact hk, nodeOf_over a y⟩
      · exact .inr ⟨.inl ⟨z, h4, hk, rfl⟩, h5, h6⟩
    · rw [two_cuts ha hb (ht.path x hx), Bool.or_eq_false_iff] at h3
      rw [two_recAt ha hb] at h2
      cases hr : recAt b x.p with
      | some y => rw [hr] at h2; cases h2
      | none =>
        rw [hr] at h2
        have h2' : (if cutsL b x.p then none else recAt a x.p) = none := h2
        rw [if_neg (by rw [h3.2]; decide)] at h2'
        exact .inr ⟨.inr ⟨hx, h2', h3.1⟩, rfl, h3.2⟩
  · rintro (⟨y, hy, hk, rfl⟩ | ⟨⟨r, hr, hk, rfl⟩ | ⟨hx, h4, h5⟩, h2, h3⟩)
    · exact .inl ⟨overO a y, (mem_two b a b ha.sorted hb.sorted _).2 (.inl ⟨y, hy, rfl⟩), by rw [(overO_same a y).2.1]; exact hk, (nodeOf_over a y).symm⟩
    · exact .inl ⟨r, (mem_two b a b ha.sorted hb.sorted _).2 (.inr ⟨hr, h2, h3⟩), hk, rfl⟩
    · refine .inr ⟨hx, ?_, ?_⟩
      · rw [two_recAt ha hb, h2]
        show (if cutsL b x.p then none else recAt a x.p) = none
        rw [if_neg (by rw [h3]; decide)]
        exact h4
      · rw [two_cuts ha hb (ht.path x hx), h5, h3]
        rfl
/-- The same of its canonical form. -/
theorem apply_squash {t : List R} (ht : IsTree t) : applyL (squashL a b) t = applyL b (applyL a t) := by
  unfold squashL
  rw [apply_canon (show Sorted (two a b) from two_sorted b a b ha.sorted hb.sorted) (two_path ha hb) ht, apply_two ha hb ht]
theorem two_housed : Housed (two a b) := by
  have hm := mem_two b a b ha.sorted hb.sorted
  intro z hz hp
  rcases (hm z).1 hz with ⟨y, hy, rfl⟩ | ⟨h1, h2, h3⟩
  · rw [(overO_same a y).1] at hp ⊢
    obtain ⟨w, hw, hwp, hwk⟩ := hb.housed y hy hp
    exact ⟨overO a w, (hm _).2 (.inl ⟨w, hw, rfl⟩), (overO_same a w).1.trans hwp, (overO_same a w).2.1.trans hwk⟩
  · obtain ⟨r, hr, hrp, hrk⟩ := ha.housed z h1 hp
    have hup := parent_up (ha.path z h1) hp
    cases hc : recAt b (parO z.p) with
    | some y =>
      obtain ⟨hy, hyp⟩ := recAt_mem hc
      have hst : stops y = false := by
        rcases Bool.eq_false_or_eq_true (stops y) with h | h
        · rw [cuts_at hup hc h] at h3; cases h3
        · exact h
      exact ⟨overO a y, (hm _).2 (.inl ⟨y, hy, rfl⟩), (overO_same a y).1.trans hyp, (overO_same a y).2.1.trans (stops_no hst).1⟩
    | none =>
      refine ⟨r, (hm r).2 (.inr ⟨hr, by rw [hrp]; exact hc, ?_⟩), hrp, hrk⟩
      rw [hrp]
      rcases Bool.eq_false_or_eq_true (cutsL b (parO z.p)) with h | h
      · rw [cuts_up (ha.path z h1) hup h] at h3; cases h3
      · exact h
theorem two_layer : IsLayer (two a b) := ⟨two_sorted b a b ha.sorted hb.sorted, two_housed ha hb, two_path ha hb⟩
end
end Go.Proofs.YtibekkfbpmloiabGreatDoor.Recs

/- The canonical form is told by the effect: two canonical layers that have the same effect on every tree are one. -/
namespace Go.Proofs.YtibekkfbpmloiabGreatDoor.Recs
open Go.RowKit Paths

theorem nil_tree : IsTree [] := ⟨List.Pairwise.nil, (fun _ hr => by cases hr), (fun _ hr => by cases hr)⟩

/-! ### A name that is free -/
end Go.Proofs.YtibekkfbpmloiabGreatDoor.Recs

/- The canonical form is told by the effect: two canonical layers that have the same effect on every tree are one; so combining is associative. -/
namespace Go.Proofs.YtibekkfbpmloiabGreatDoor.Recs
open Go.RowKit Paths

theorem R_ext {x r : R} (h1 : x.k = r.k) (h2 : x.m = r.m) (h3 : x.p = r.p) (h4 : x.b = r.b) (h5 : x.o = r.o) : x = r := by
  obtain ⟨a, b, c, d, e⟩ := x
  obtain ⟨a', b', c', d', e'⟩ := r
  simp only at h1 h2 h3 h4 h5
  subst h1 h2 h3 h4 h5
  rfl

section
variable {a b : List R} (ha : Canon a) (hb : Canon b) (hlen : a.length + b.length < 4096) (he : ∀ t, IsTree t → applyL a t = applyL b t)
include ha hb he
include hlen
end
end Go.Proofs.YtibekkfbpmloiabGreatDoor.Recs
