/- Parts of several texts of mine in one file (each begins with its own remark). -/
import Derived.Test.YtibekkfbpmloiabGreatDoorGA1
import Derived.Test.YtibekkfbpmloiabGreatDoorGA2
import Derived.Test.YtibekkfbpmloiabGreatDoorGA3
import Derived.Test.YtibekkfbpmloiabGreatDoorGA4
import Derived.Test.YtibekkfbpmloiabGreatDoorGA5
import Derived.Test.YtibekkfbpmloiabGreatDoorChecked
import Derived.Deep.Slices
import Derived.OpenShut
import Derived.ShutString
import Derived.ChangeArms
import Derived.WideShapes
import Derived.Lib.LaidTab
import Derived.BigQuiet
import Derived.Deep.QuietTactic
import Derived.Deep.RegionHeld3
import Derived.StillTailTactics
import Derived.Deep.Draws
import Derived.Deep.LoopGhost
import Derived.WalkKit
import Derived.WalkSpells
import Derived.WalkSmall
import Derived.Lib.OthersKept
import Derived.Lib.Hide
import Derived.Lib.Strings
import Derived.Lib.Join
/- Applying layers, plain: the result is a tree; applying again changes nothing; the canonical form has the same effect on every tree. -/
namespace Go.Proofs.YtibekkfbpmloiabGreatDoor.Recs
open Go.RowKit Paths

/-- What a layer is, for its effect. -/
structure IsLayer (l : List R) : Prop where
  sorted : Sorted l
  housed : Housed l
  path : ∀ x ∈ l, pathB x.p.data.toList = true
theorem layer_is {l : List R} (h : layerOK l = true) : IsLayer l := ⟨layer_sorted h, layer_housed h, fun _ hx => (fault_path (layer_rec h hx)).1⟩

theorem cuts_up {l : List R} {c q : ByteArray} (hq : pathB q.data.toList = true) (hc : c ∈ ups q) (h : cutsL l c = true) : cutsL l q = true := by
  unfold cutsL at h ⊢
  rw [List.any_eq_true] at h ⊢
  obtain ⟨a, ha, hs⟩ := h
  exact ⟨a, ups_trans hq a c hc ha, hs⟩
theorem cuts_at {l : List R} {c q : ByteArray} (hc : c ∈ ups q) {r : R} (hr : recAt l c = some r) (hs : stops r = true) : cutsL l q = true := by
  unfold cutsL
  rw [List.any_eq_true]
  exact ⟨c, hc, by unfold stopsAt; rw [hr]; simpa using hs⟩
theorem cuts_get {l : List R} {q : ByteArray} (h : cutsL l q = true) : ∃ c ∈ ups q, ∃ r, recAt l c = some r ∧ stops r = true := by
  unfold cutsL at h
  rw [List.any_eq_true] at h
  obtain ⟨c, hc, hs⟩ := h
  unfold stopsAt at hs
  cases hr : recAt l c with
  | none => rw [hr] at hs; cases hs
  | some r => rw [hr] at hs; exact ⟨c, hc, r, hr, by simpa using hs⟩
theorem stops_no {r : R} (h : stops r = false) : r.k = 3 ∧ r.o = false := by
  unfold stops at h
  simpa using h
theorem parent_up {q : ByteArray} (h : pathB q.data.toList = true) (hp : parentL q.data.toList ≠ []) : parO q ∈ ups q := by
  rw [ups_step h, if_neg hp]
  simp

/-- (a) The result of applying a layer to a tree is a tree. -/
theorem apply_tree {l t : List R} (hl : IsLayer l) (ht : IsTree t) : IsTree (applyL l t) := by
  have hm := mem_apply ht l hl.sorted hl.path
  have hpath : ∀ x ∈ applyL l t, pathB x.p.data.toList = true := by
    intro x hx
    rcases (hm x).1 hx with ⟨r, hr, _, rfl⟩ | ⟨h1, _⟩
    · exact hl.path r hr
    · exact ht.path x h1
  refine ⟨apply_sorted l ht.sorted, ?_, hpath⟩
  intro x hx hp
  rcases (hm x).1 hx with ⟨r, hr, _, rfl⟩ | ⟨h1, h2, h3⟩
  · obtain ⟨s, hs, hsp, hsk⟩ := hl.housed r hr hp
    exact ⟨nodeOf s, (hm _).2 (.inl ⟨s, hs, by omega, rfl⟩), hsp, hsk⟩
  · obtain ⟨n, hn, hnp, hnk⟩ := ht.housed x h1 hp
    have hup := parent_up (ht.path x h1) hp
    cases hr : recAt l (parO x.p) with
    | some s =>
      obtain ⟨hs, hsp⟩ := recAt_mem hr
      have hst : stops s = false := by
        rcases Bool.eq_false_or_eq_true (stops s) with h | h
        · rw [cuts_at hup hr h] at h3; cases h3
        · exact h
      have hk := (stops_no hst).1
      exact ⟨nodeOf s, (hm _).2 (.inl ⟨s, hs, by omega, rfl⟩), hsp, hk⟩
    | none =>
      refine ⟨n, (hm n).2 (.inr ⟨hn, by rw [hnp]; exact hr, ?_⟩), hnp, hnk⟩
      rw [hnp]
      rcases Bool.eq_false_or_eq_true (cutsL l (parO x.p)) with h | h
      · rw [cuts_up (ht.path x h1) hup h] at h3; cases h3
      · exact h

theorem parts_up {q : ByteArray} (h : pathB q.data.toList = true) : ∀ a ∈ ups q, (cutAt 47 a.data.toList).length < (cutAt 47 q.data.toList).length := by
  refine path_ind (P := fun q => ∀ a ∈ ups q, (cutAt 47 a.data.toList).length < (cutAt 47 q.data.toList).length) ?_ ?_ q h
  · intro q hq hp a ha
    rw [ups_step hq, if_pos hp] at ha
    cases ha
  · intro q hq hp h1 ih a ha
    rw [ups_step hq, if_neg hp] at ha
    obtain ⟨_, h2⟩ := parts_parent hq hp
    rcases List.mem_cons.1 ha with rfl | ha
    · omega
    · have := ih a ha; omega
/-- A record that is not under an opaque directory, and has something below it, stops in the canonical form as it did. -/
theorem canonR_stops {l : List R} {r : R} (hu : underL l r.p = false) (hlen : (cutAt 47 r.p.data.toList).length < 4) : ∃ x, canonR l r = some x ∧ stops x = stops r := by
  refine ⟨{ r with o := r.o && decide ((cutAt 47 r.p.data.toList).length < 4) }, ?_, ?_⟩
  · unfold canonR
    rw [if_neg (by rw [hu]; decide)]
  · unfold stops
    simp [hlen]
theorem under_canon {l : List R} (hs : Sorted l) {q : ByteArray} (h : pathB q.data.toList = true) : underL l q = true → cutsL (canonL l) q = true := by
  refine path_ind (P := fun q => underL l q = true → cutsL (canonL l) q = true) ?_ ?_ q h
  · intro q hq hp hu
    rw [underL_step l hq, if_pos hp] at hu
    cases hu
  · intro q hq hp h1 ih hu
    have hup := parent_up hq hp
    rw [underL_step l hq, if_neg hp, Bool.or_eq_true] at hu
    rcases Bool.eq_false_or_eq_true (underL l (parO q)) with h2 | h2
    · exact cuts_up hq hup (ih h2)
    · rcases hu with hu | hu
      · rw [opaqueAt_eq] at hu
        cases hr : recAt l (parO q) with
        | none => rw [hr] at hu; cases hu
        | some r =>
          rw [hr] at hu
          have ho : r.o = true := by simpa using hu
          obtain ⟨_, hrp⟩ := recAt_mem hr
          have h3 := parts_up hq _ hup
          have h4 := (pathB_parts hq).1
          obtain ⟨x, hx, hxs⟩ := canonR_stops (l := l) (r := r) (by rw [hrp]; exact h2) (by rw [hrp]; omega)
          refine cuts_at hup (r := x) (by rw [canon_recAt hs, hr]; exact hx) ?_
          rw [hxs]
          simp [stops, ho]
      · rw [h2] at hu; cases hu
theorem canon_cuts {l : List R} (hs : Sorted l) {q : ByteArray} (h : pathB q.data.toList = true) : cutsL (canonL l) q = cutsL l q := by
  rw [Bool.eq_iff_iff]
  constructor
  · intro hc
    obtain ⟨c, hcu, x, hx, hst⟩ := cuts_get hc
    rw [canon_recAt hs] at hx
    cases hr : recAt l c with
    | none => rw [hr] at hx; cases hx
    | some r =>
      rw [hr] at hx
      obtain ⟨_, h2, _, _, h5⟩ := canonR_path (show canonR l r = some x from hx)
      refine cuts_at hcu hr ?_
      unfold stops at hst ⊢
      rw [h2] at hst
      simp only [Bool.or_eq_true] at hst ⊢
      rcases hst with hst | hst
      · exact .inl hst
      · exact .inr (h5 hst)
  · intro hc
    obtain ⟨c, hcu, r, hr, hst⟩ := cuts_get hc
    obtain ⟨_, hrp⟩ := recAt_mem hr
    have hcp := ups_path h c hcu
    rcases Bool.eq_false_or_eq_true (underL l c) with h2 | h2
    · exact cuts_up h hcu (under_canon hs hcp h2)
    · have h3 := parts_up h _ hcu
      have h4 := (pathB_parts h).1
      obtain ⟨x, hx, hxs⟩ := canonR_stops (l := l) (r := r) (by rw [hrp]; exact h2) (by rw [hrp]; omega)
      exact cuts_at hcu (r := x) (by rw [canon_recAt hs, hr]; exact hx) (by rw [hxs]; exact hst)
theorem canon_path {l : List R} (hp : ∀ x ∈ l, pathB x.p.data.toList = true) : ∀ x ∈ canonL l, pathB x.p.data.toList = true := by
  intro x hx
  obtain ⟨r, hr, he⟩ := mem_canon.1 hx
  rw [(canonR_path he).1]
  exact hp r hr
theorem nodeOf_canon {l : List R} {r x : R} (h : canonR l r = some x) : nodeOf x = nodeOf r := by
  obtain ⟨h1, h2, h3, h4, _⟩ := canonR_path h
  unfold nodeOf
  rw [h1, h2, h3, h4]
/-- (b) The canonical form has the same effect on every tree. -/
theorem apply_canon {l t : List R} (hs : Sorted l) (hp : ∀ x ∈ l, pathB x.p.data.toList = true) (ht : IsTree t) : applyL (canonL l) t = applyL l t := by
  refine sorted_ext _ _ (apply_sorted _ ht.sorted) (apply_sorted _ ht.sorted) fun x => ?_
  rw [mem_apply ht _ (canon_sorted hs) (canon_path hp), mem_apply ht _ hs hp]
  constructor
  · rintro (⟨y, hy, hk, rfl⟩ | ⟨h1, h2, h3⟩)
    · obtain ⟨r, hr, he⟩ := mem_canon.1 hy
      exact .inl ⟨r, hr, by rw [← (canonR_path he).2.1]; exact hk, nodeOf_canon he⟩
    · have hxp := ht.path x h1
      rw [canon_cuts hs hxp] at h3
      refine .inr ⟨h1, ?_, h3⟩
      rw [canon_recAt hs] at h2
      cases hr : recAt l x.p with
      | none => rfl
      | some r =>
        rw [hr] at h2
        have h2' : canonR l r = none := h2
        obtain ⟨_, hrp⟩ := recAt_mem hr
        unfold canonR at h2'
        split at h2'
        · rename_i hu
          rw [hrp] at hu
          rw [under_cuts hu] at h3
          cases h3
        · cases h2'
  · rintro (⟨r, hr, hk, rfl⟩ | ⟨h1, h2, h3⟩)
    · have he : ∃ y, canonR l r = some y := by
        unfold canonR
        split
        · exact ⟨_, rfl⟩
        · exact ⟨_, rfl⟩
      obtain ⟨y, hy⟩ := he
      exact .inl ⟨y, mem_canon.2 ⟨r, hr, hy⟩, by rw [(canonR_path hy).2.1]; exact hk, (nodeOf_canon hy).symm⟩
    · refine .inr ⟨h1, ?_, by rw [canon_cuts hs (ht.path x h1)]; exact h3⟩
      rw [canon_recAt hs, h2]
      rfl
end Go.Proofs.YtibekkfbpmloiabGreatDoor.Recs

/- The combination of two layers, plain: what it holds; it is a layer but for its length; it has the same effect on every tree as applying one after the other. -/
namespace Go.Proofs.YtibekkfbpmloiabGreatDoor.Recs
open Go.RowKit Paths

/-- The upper record, over the lower one of its path. -/
def overR (x y : R) : R := if y.k = 3 ∧ stops x = true then { y with o := true } else y
/-- Two sorted lists in one: of the lower one what the upper one (u) does not cut off. -/
def twoL (u : List R) : List R → List R → List R
  | [], b => b
  | x :: a, [] => if cutsL u x.p then twoL u a [] else x :: twoL u a []
  | x :: a, y :: b =>
    if lessR x y then (if cutsL u x.p then twoL u a (y :: b) else x :: twoL u a (y :: b))
    else if lessR y x then y :: twoL u (x :: a) b
    else overR x y :: twoL u a b
termination_by a b => a.length + b.length
/-- What the upper record becomes over what the lower layer has of its path. -/
def overO (a : List R) (y : R) : R := match recAt a y.p with | some x => overR x y | none => y
theorem overR_same (x y : R) : (overR x y).p = y.p ∧ (overR x y).k = y.k ∧ (overR x y).b = y.b ∧ (overR x y).m = y.m ∧ (y.o = true → (overR x y).o = true) := by
  unfold overR
  split
  · exact ⟨rfl, rfl, rfl, rfl, fun _ => rfl⟩
  · exact ⟨rfl, rfl, rfl, rfl, fun h => h⟩
theorem overO_same (a : List R) (y : R) : (overO a y).p = y.p ∧ (overO a y).k = y.k ∧ (overO a y).b = y.b ∧ (overO a y).m = y.m ∧ (y.o = true → (overO a y).o = true) := by
  unfold overO
  split
  · exact overR_same _ _
  · exact ⟨rfl, rfl, rfl, rfl, fun h => h⟩

theorem recAt_cons_ne {x : R} {a : List R} {q : ByteArray} (h : x.p ≠ q) : recAt (x :: a) q = recAt a q := by
  unfold recAt
  rw [List.find?_cons_of_neg (by simpa using h)]
theorem recAt_cons_eq {x : R} {a : List R} {q : ByteArray} (h : x.p = q) : recAt (x :: a) q = some x := by
  unfold recAt
  rw [List.find?_cons_of_pos (by simpa using h)]
theorem recAt_less {a : List R} {y : R} (h : ∀ x ∈ a, lessR y x = true) : recAt a y.p = none := by
  cases hr : recAt a y.p with
  | none => rfl
  | some x =>
    obtain ⟨h1, h2⟩ := recAt_mem hr
    exact absurd h2.symm (less_ne (h x h1))

theorem mem_two (u : List R) : ∀ a b : List R, Sorted a → Sorted b → ∀ z, z ∈ twoL u a b ↔ (∃ y ∈ b, z = overO a y) ∨ (z ∈ a ∧ recAt b z.p = none ∧ cutsL u z.p = false)
  | [], b, _, _, z => by
    rw [twoL]
    simp [overO, recAt]
  | x :: a, [], ha, hb, z => by
    unfold Sorted at ha
    rw [List.pairwise_cons] at ha
    have ih := mem_two u a [] ha.2 hb z
    rw [twoL]
    split
    · rename_i hc
      rw [ih]
      simp only [List.not_mem_nil, false_and, exists_false, false_or, List.mem_cons]
      constructor
      · rintro ⟨h1, h2⟩; exact ⟨.inr h1, h2⟩
      · rintro ⟨rfl | h1, h2, h3⟩
        · rw [hc] at h3; cases h3
        · exact ⟨h1, h2, h3⟩
    · rename_i hc
      rw [List.mem_cons, ih]
      simp only [List.not_mem_nil, false_and, exists_false, false_or, List.mem_cons]
      constructor
      · rintro (rfl | ⟨h1, h2⟩)
        · exact ⟨.inl rfl, rfl, by simpa using hc⟩
        · exact ⟨.inr h1, h2⟩
      · rintro ⟨rfl | h1, h2⟩
        · exact .inl rfl
        · exact .inr ⟨h1, h2⟩
  | x :: a, y :: b, ha, hb, z => by
    have ha' := ha
    have hb' := hb
    unfold Sorted at ha hb
    rw [List.pairwise_cons] at ha hb
    rw [twoL]
    split
    · rename_i hxy
      have ih := mem_two u a (y :: b) ha.2 hb' z
      -- x stands in no record of the upper list
      have hnx : recAt (y :: b) x.p = none := recAt_less fun w hw => by
        rcases List.mem_cons.1 hw with rfl | hw
        · exact hxy
        · exact lessP_trans _ _ _ hxy (hb.1 w hw)
      have hov : ∀ w ∈ y :: b, overO (x :: a) w = overO a w := by
        intro w hw
        have hne : x.p ≠ w.p := by
          rcases List.mem_cons.1 hw with rfl | hw
          · exact less_ne hxy
          · exact less_ne (lessP_trans _ _ _ hxy (hb.1 w hw) : lessR x w = true)
        unfold overO
        rw [recAt_cons_ne hne]
      have hex : (∃ w ∈ y :: b, z = overO (x :: a) w) ↔ ∃ w ∈ y :: b, z = overO a w :=
        ⟨fun ⟨w, hw, e⟩ => ⟨w, hw, by rw [e, hov w hw]⟩, fun ⟨w, hw, e⟩ => ⟨w, hw, by rw [e, hov w hw]⟩⟩
      rw [hex]
      split
      · rename_i hc
        rw [ih]
        constructor
        · rintro (h | ⟨h1, h2⟩)
          · exact .inl h
          · exact .inr ⟨List.mem_cons_of_mem _ h1, h2⟩
        · rintro (h | ⟨h1, h2, h3⟩)
          · exact .inl h
          · rcases List.mem_cons.1 h1 with rfl | h1
            · rw [hc] at h3; cases h3
            · exact .inr ⟨h1, h2, h3⟩
      · rename_i hc
        rw [List.mem_cons, ih]
        constructor
        · rintro (rfl | h | ⟨h1, h2⟩)
          · exact .inr ⟨by simp, hnx, by simpa using hc⟩
          · exact .inl h
          · exact .inr ⟨List.mem_cons_of_mem _ h1, h2⟩
        · rintro (h | ⟨h1, h2⟩)
          · exact .inr (.inl h)
          · rcases List.mem_cons.1 h1 with rfl | h1
            · exact .inl rfl
            · exact .inr (.inr ⟨h1, h2⟩)
    · rename_i hxy
      split
      · rename_i hyx
        have ih := mem_two u (x :: a) b ha' hb.2 z
        have hny : recAt (x :: a) y.p = none := recAt_less fun w hw => by
          rcases List.mem_cons.1 hw with rfl | hw
          · exact hyx
          · exact lessP_trans _ _ _ hyx (ha.1 w hw)
        have hy0 : overO (x :: a) y = y := by unfold overO; rw [hny]
        have hb0 : ∀ w ∈ x :: a, recAt (y :: b) w.p = recAt b w.p := by
          intro w hw
          refine recAt_cons_ne ?_
          rcases List.mem_cons.1 hw with rfl | hw
          · exact less_ne hyx
          · exact less_ne (lessP_trans _ _ _ hyx (ha.1 w hw) : lessR y w = true)
        rw [List.mem_cons, ih]
        constructor
        · rintro (rfl | ⟨w, hw, e⟩ | ⟨h1, h2, h3⟩)
          · exact .inl ⟨z, by simp, hy0.symm⟩
          · exact .inl ⟨w, List.mem_cons_of_mem _ hw, e⟩
          · exact .inr ⟨h1, by rw [hb0 z h1]; exact h2, h3⟩
        · rintro (⟨w, hw, e⟩ | ⟨h1, h2, h3⟩)
          · rcases List.mem_cons.1 hw with rfl | hw
            · exact .inl (e.trans hy0)
            · exact .inr (.inl ⟨w, hw, e⟩)
          · exact .inr (.inr ⟨h1, by rw [← hb0 z h1]; exact h2, h3⟩)
      · rename_i hyx
        have exy : x.p = y.p := by
          refine Classical.byContradiction fun hne => ?_
          rcases less_or hne with h | h
          · exact hxy h
          · exact hyx h
        have ih := mem_two u a b ha.2 hb.2 z
        have hy0 : overO (x :: a) y = overR x y := by unfold overO; rw [recAt_cons_eq exy]
        have hov : ∀ w ∈ b, overO (x :: a) w = overO a w := by
          intro w hw
          unfold overO
          rw [recAt_cons_ne (by rw [exy]; exact less_ne (hb.1 w hw))]
        have hb0 : ∀ w ∈ a, recAt (y :: b) w.p = recAt b w.p := by
          intro w hw
          exact recAt_cons_ne (by rw [← exy]; exact less_ne (ha.1 w hw))
        rw [List.mem_cons, ih]
        constructor
        · rintro (rfl | ⟨w, hw, e⟩ | ⟨h1, h2, h3⟩)
          · exact .inl ⟨y, by simp, hy0.symm⟩
          · exact .inl ⟨w, List.mem_cons_of_mem _ hw, by rw [e, hov w hw]⟩
          · exact .inr ⟨List.mem_cons_of_mem _ h1, by rw [hb0 z h1]; exact h2, h3⟩
        · rintro (⟨w, hw, e⟩ | ⟨h1, h2, h3⟩)
          · rcases List.mem_cons.1 hw with rfl | hw
            · exact .inl (e.trans hy0)
            · exact .inr (.inl ⟨w, hw, by rw [e, hov w hw]⟩)
          · rcases List.mem_cons.1 h1 with rfl | h1
            · rw [recAt_cons_eq exy.symm] at h2; cases h2
            · exact .inr (.inr ⟨h1, by rw [← hb0 z h1]; exact h2, h3⟩)
termination_by a b => a.length + b.length
end Go.Proofs.YtibekkfbpmloiabGreatDoor.Recs

/- The combination of two layers, plain: its effect on every tree is that of applying one after the other. -/
namespace Go.Proofs.YtibekkfbpmloiabGreatDoor.Recs
open Go.RowKit Paths

theorem less_path {x y z : R} (h : y.p = z.p) : lessR x y = lessR x z := by unfold lessR; rw [h]
theorem less_path' {x y z : R} (h : x.p = y.p) : lessR x z = lessR y z := by unfold lessR; rw [h]
/-- All that follows a record in both lists follows it in the one. -/
theorem two_after {u a b : List R} (ha : Sorted a) (hb : Sorted b) {x : R} (h1 : ∀ w ∈ a, lessR x w = true) (h2 : ∀ w ∈ b, lessR x w = true) : ∀ z ∈ twoL u a b, lessR x z = true := by
  intro z hz
  rcases (mem_two u a b ha hb z).1 hz with ⟨y, hy, rfl⟩ | ⟨h, _⟩
  · rw [less_path (overO_same a y).1]; exact h2 y hy
  · exact h1 z h
theorem two_sorted (u : List R) : ∀ a b : List R, Sorted a → Sorted b → Sorted (twoL u a b)
  | [], b, _, hb => by rw [twoL]; exact hb
  | x :: a, [], ha, hb => by
    unfold Sorted at ha
    rw [List.pairwise_cons] at ha
    have ih := two_sorted u a [] ha.2 hb
    rw [twoL]
    split
    · exact ih
    · exact List.pairwise_cons.2 ⟨two_after ha.2 hb ha.1 (fun w hw => by cases hw), ih⟩
  | x :: a, y :: b, ha, hb => by
    have ha' := ha
    have hb' := hb
    unfold Sorted at ha hb
    rw [List.pairwise_cons] at ha hb
    rw [twoL]
    split
    · rename_i hxy
      have ih := two_sorted u a (y :: b) ha.2 hb'
      split
      · exact ih
      · refine List.pairwise_cons.2 ⟨two_after ha.2 hb' ha.1 (fun w hw => ?_), ih⟩
        rcases List.mem_cons.1 hw with rfl | hw
        · exact hxy
        · exact lessP_trans _ _ _ hxy (hb.1 w hw)
    · rename_i hxy
      split
      · rename_i hyx
        refine List.pairwise_cons.2 ⟨two_after ha' hb.2 (fun w hw => ?_) hb.1, two_sorted u (x :: a) b ha' hb.2⟩
        rcases List.mem_cons.1 hw with rfl | hw
        · exact hyx
        · exact lessP_trans _ _ _ hyx (ha.1 w hw)
      · rename_i hyx
        have exy : x.p = y.p := by
          refine Classical.byContradiction fun hne => ?_
          rcases less_or hne with h | h
          · exact hxy h
          · exact hyx h
        refine List.pairwise_cons.2 ⟨two_after ha.2 hb.2 (fun w hw => ?_) (fun w hw => ?_), two_sorted u a b ha.2 hb.2⟩
        · rw [less_path' ((overR_same x y).1.trans exy.symm)]; exact ha.1 w hw
        · rw [less_path' (overR_same x y).1]; exact hb.1 w hw
termination_by a b => a.length + b.length

def two (a b : List R) : List R := twoL b a b
def squashL (a b : List R) : List R := canonL (two a b)
section
variable {a b : List R} (ha : IsLayer a) (hb : IsLayer b)
include ha hb
theorem two_recAt (q : ByteArray) : recAt (two a b) q = match recAt b q with | some y => some (overO a y) | none => if cutsL b q then none else recAt a q := by
  have hs := two_sorted b a b ha.sorted hb.sorted
  have hm := mem_two b a b ha.sorted hb.sorted
  cases hr : recAt b q with
  | some y =>
    obtain ⟨h1, h2⟩ := recAt_mem hr
    have hin : overO a y ∈ two a b := (hm _).2 (.inl ⟨y, h1, rfl⟩)
    have e := recAt_of hs hin
    rw [(overO_same a y).1, h2] at e
    exact e
  | none =>
    show recAt (two a b) q = if cutsL b q then none else recAt a q
    cases hc : recAt (two a b) q with
    | some z =>
      obtain ⟨h1, h2⟩ := recAt_mem hc
      rcases (hm z).1 h1 with ⟨y, hy, rfl⟩ | ⟨h3, h4, h5⟩
      · exact absurd ((overO_same a y).1.symm.trans h2) (recAt_none hr y hy)
      · rw [h2] at h5
        rw [if_neg (by rw [h5]; decide), ← h2, recAt_of ha.sorted h3]
    | none =>
      split
      · rfl
      · rename_i hcut
        cases hx : recAt a q with
        | none => rfl
        | some x =>
          obtain ⟨h1, h2⟩ := recAt_mem hx
          exact absurd h2 (recAt_none hc x ((hm x).2 (.inr ⟨h1, by rw [h2]; exact hr, by rw [h2]; simpa using hcut⟩)))
theorem two_path : ∀ z ∈ two a b, pathB z.p.data.toList = true := by
  intro z hz
  rcases (mem_two b a b ha.sorted hb.sorted z).1 hz with ⟨y, hy, rfl⟩ | ⟨h, _⟩
  · rw [(overO_same a y).1]; exact hb.path y hy
  · exact ha.path z h
omit ha hb in
theorem stops_over {y : R} (h : stops y = true) : stops (overO a y) = true := by
  obtain ⟨_, h2, _, _, h5⟩ := overO_same a y
  unfold stops at h ⊢
  rw [h2]
  simp only [Bool.or_eq_true] at h ⊢
  rcases h with h | h
  · exact .inl h
  · exact .inr (h5 h)
omit ha hb in
theorem stops_over_low {x y : R} (hx : recAt a y.p = some x) (h : stops x = true) : stops (overO a y) = true := by
  unfold overO
  rw [hx]
  show stops (overR x y) = true
  unfold overR
  split
  · simp [stops]
  · rename_i hn
    have : ¬ y.k = 3 := fun e => hn ⟨e, h⟩
    simp [stops, this]
/-- What the combination cuts off is what one of the two does. -/
theorem two_cuts {q : ByteArray} (h : pathB q.data.toList = true) : cutsL (two a b) q = (cutsL a q || cutsL b q) := by
  have hlow : ∀ q : ByteArray, pathB q.data.toList = true → cutsL b q = true → cutsL (two a b) q = true := by
    intro q _ hc
    obtain ⟨c, hcu, y, hy, hst⟩ := cuts_get hc
    exact cuts_at hcu (r := overO a y) (by rw [two_recAt ha hb, hy]) (stops_over hst)
  rw [Bool.eq_iff_iff, Bool.or_eq_true]
  constructor
  · intro hc
    obtain ⟨c, hcu, z, hz, hst⟩ := cuts_get hc
    rw [two_recAt ha hb] at hz
    cases hr : recAt b c with
    | some y =>
      rw [hr] at hz
      cases hz
      obtain ⟨_, hyp⟩ := recAt_mem hr
      rcases Bool.eq_false_or_eq_true (stops y) with hy | hy
      · exact .inr (cuts_at hcu hr hy)
      · cases hx : recAt a y.p with
        | none =>
          have e : overO a y = y := by unfold overO; rw [hx]
          rw [e, hy] at hst
          cases hst
        | some x =>
          rcases Bool.eq_false_or_eq_true (stops x) with hsx | hsx
          · exact .inl (cuts_at hcu (by rw [← hyp]; exact hx) hsx)
          · have e : overO a y = y := by
              unfold overO
              rw [hx]
              show overR x y = y
              unfold overR
              rw [if_neg (fun hh => by rw [hsx] at hh; cases hh.2)]
            rw [e, hy] at hst
            cases hst
    | none =>
      rw [hr] at hz
      have hz' : (if cutsL b c then none else recAt a c) = some z := hz
      split at hz'
      · cases hz'
      · exact .inl (cuts_at hcu hz' hst)
  · rintro (hc | hc)
    · obtain ⟨c, hcu, x, hx, hst⟩ := cuts_get hc
      have hcp := ups_path h c hcu
      cases hr : recAt b c with
      | some y =>
        obtain ⟨_, hyp⟩ := recAt_mem hr
        exact cuts_at hcu (r := overO a y) (by rw [two_recAt ha hb, hr]) (stops_over_low (by rw [hyp]; exact hx) hst)
      | none =>
        rcases Bool.eq_false_or_eq_true (cutsL b c) with h2 | h2
        · exact cuts_up h hcu (hlow c hcp h2)
        · exact cuts_at hcu (r := x) (by rw [two_recAt ha hb, hr]; show (if cutsL b c then none else recAt a c) = some x; rw [if_neg (by rw [h2]; decide)]; exact hx) hst
    · exact hlow q h hc
omit ha hb in
theorem nodeOf_over (a : List R) (y : R) : nodeOf (overO a y) = nodeOf y := by
  obtain ⟨h1, h2, h3, h4, _⟩ := overO_same a y
  unfold nodeOf
  rw [h1, h2, h3, h4]
/-- (d) THE COMBINATION HAS THE SAME EFFECT ON EVERY TREE AS APPLYING ONE AFTER THE OTHER. -/
theorem apply_two {t : List R} (ht : IsTree t) : applyL (two a b) t = applyL b (applyL a t) := by
  have h1 := apply_tree ha ht
  have hs : Sorted (two a b) := two_sorted b a b ha.sorted hb.sorted
  refine sorted_ext _ _ (apply_sorted _ ht.sorted) (apply_sorted _ h1.sorted) fun x => ?_
  rw [mem_apply ht _ hs (two_path ha hb), mem_apply h1 _ hb.sorted hb.path, mem_apply ht _ ha.sorted ha.path]
  constructor
  · rintro (⟨z, hz, hk, rfl⟩ | ⟨hx, h2, h3⟩)
    · rcases (mem_two b a b ha.sorted hb.sorted z).1 hz with ⟨y, hy, rfl⟩ | ⟨h4, h5, h6⟩
      · exact .inl ⟨y, hy, by rw [← (overO_same a y).2.1]; exact hk, nodeOf_over a y⟩
      · exact .inr ⟨.inl ⟨z, h4, hk, rfl⟩, h5, h6⟩
    · rw [two_cuts ha hb (ht.path x hx), Bool.or_eq_false_iff] at h3
      rw [two_recAt ha hb] at h2
      cases hr : recAt b x.p with
      | some y => rw [hr] at h2; cases h2
      | none =>
        rw [hr] at h2
        have h2' : (if cutsL b x.p then none else recAt a x.p) = none := h2
        rw [if_neg (by rw [h3.2]; decide)] at h2'
        exact .inr ⟨.inr ⟨hx, h2', h3.1⟩, rfl, h3.2⟩
  · rintro (⟨y, hy, hk, rfl⟩ | ⟨⟨r, hr, hk, rfl⟩ | ⟨hx, h4, h5⟩, h2, h3⟩)
    · exact .inl ⟨overO a y, (mem_two b a b ha.sorted hb.sorted _).2 (.inl ⟨y, hy, rfl⟩), by rw [(overO_same a y).2.1]; exact hk, (nodeOf_over a y).symm⟩
    · exact .inl ⟨r, (mem_two b a b ha.sorted hb.sorted _).2 (.inr ⟨hr, h2, h3⟩), hk, rfl⟩
    · refine .inr ⟨hx, ?_, ?_⟩
      · rw [two_recAt ha hb, h2]
        show (if cutsL b x.p then none else recAt a x.p) = none
        rw [if_neg (by rw [h3]; decide)]
        exact h4
      · rw [two_cuts ha hb (ht.path x hx), h5, h3]
        rfl
/-- The same of its canonical form. -/
theorem apply_squash {t : List R} (ht : IsTree t) : applyL (squashL a b) t = applyL b (applyL a t) := by
  unfold squashL
  rw [apply_canon (show Sorted (two a b) from two_sorted b a b ha.sorted hb.sorted) (two_path ha hb) ht, apply_two ha hb ht]
theorem two_housed : Housed (two a b) := by
  have hm := mem_two b a b ha.sorted hb.sorted
  intro z hz hp
  rcases (hm z).1 hz with ⟨y, hy, rfl⟩ | ⟨h1, h2, h3⟩
  · rw [(overO_same a y).1] at hp ⊢
    obtain ⟨w, hw, hwp, hwk⟩ := hb.housed y hy hp
    exact ⟨overO a w, (hm _).2 (.inl ⟨w, hw, rfl⟩), (overO_same a w).1.trans hwp, (overO_same a w).2.1.trans hwk⟩
  · obtain ⟨r, hr, hrp, hrk⟩ := ha.housed z h1 hp
    have hup := parent_up (ha.path z h1) hp
    cases hc : recAt b (parO z.p) with
    | some y =>
      obtain ⟨hy, hyp⟩ := recAt_mem hc
      have hst : stops y = false := by
        rcases Bool.eq_false_or_eq_true (stops y) with h | h
        · rw [cuts_at hup hc h] at h3; cases h3
        · exact h
      exact ⟨overO a y, (hm _).2 (.inl ⟨y, hy, rfl⟩), (overO_same a y).1.trans hyp, (overO_same a y).2.1.trans (stops_no hst).1⟩
    | none =>
      refine ⟨r, (hm r).2 (.inr ⟨hr, by rw [hrp]; exact hc, ?_⟩), hrp, hrk⟩
      rw [hrp]
      rcases Bool.eq_false_or_eq_true (cutsL b (parO z.p)) with h | h
      · rw [cuts_up (ha.path z h1) hup h] at h3; cases h3
      · exact h
theorem two_layer : IsLayer (two a b) := ⟨two_sorted b a b ha.sorted hb.sorted, two_housed ha hb, two_path ha hb⟩
end
end Go.Proofs.YtibekkfbpmloiabGreatDoor.Recs
