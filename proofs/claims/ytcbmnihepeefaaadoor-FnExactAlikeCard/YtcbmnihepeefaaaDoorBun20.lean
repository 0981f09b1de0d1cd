/- Several texts of mine in one file (each begins with its own remark). -/
import Derived.Test.YtcbmnihepeefaaaDoorBun4
/- Applying layers, plain: the result is a tree; applying again changes nothing; the canonical form has the same effect on every tree. -/

namespace Go.Proofs.YtcbmnihepeefaaaDoor.Recs
open Go.RowKit Paths

/-- What a layer is, for its effect. -/
structure IsLayer (l : List R) : Prop where
  sorted : Sorted l
  housed : Housed l
  path : ∀ x ∈ l, pathB x.p.data.toList = true
theorem layer_is {l : List R} (h : layerOK l = true) : IsLayer l := ⟨layer_sorted h, layer_housed h, fun _ hx => (fault_path (layer_rec h hx)).1⟩

theorem cuts_up {l : List R} {c q : ByteArray} (hq : pathB q.data.toList = true) (hc : c ∈ ups q) (h : cutsL l c = true) : cutsL l q = true := by
  unfold cutsL at h ⊢
  rw [List.any_eq_true] at h ⊢
  obtain ⟨a, ha, hs⟩ := h
  exact ⟨a, ups_trans hq a c hc ha, hs⟩
theorem cuts_at {l : List R} {c q : ByteArray} (hc : c ∈ ups q) {r : R} (hr : recAt l c = some r) (hs : stops r = true) : cutsL l q = true := by
  unfold cutsL
  rw [List.any_eq_true]
  exact ⟨c, hc, by unfold stopsAt; rw [hr]; simpa using hs⟩
theorem cuts_get {l : List R} {q : ByteArray} (h : cutsL l q = true) : ∃ c ∈ ups q, ∃ r, recAt l c = some r ∧ stops r = true := by
  unfold cutsL at h
  rw [List.any_eq_true] at h
  obtain ⟨c, hc, hs⟩ := h
  unfold stopsAt at hs
  cases hr : recAt l c with
  | none => rw [hr] at hs; cases hs
  | some r => rw [hr] at hs; exact ⟨c, hc, r, hr, by simpa using hs⟩
theorem stops_no {r : R} (h : stops r = false) : r.k = 3 ∧ r.o = false := by
  unfold stops at h
  simpa using h
theorem parent_up {q : ByteArray} (h : pathB q.data.toList = true) (hp : parentL q.data.toList ≠ []) : parO q ∈ ups q := by
  rw [ups_step h, if_neg hp]
  simp

/-- (a) The result of applying a layer to a tree is a tree. -/
theorem apply_tree {l t : List R} (hl : IsLayer l) (ht : IsTree t) : IsTree (applyL l t) := by
  have hm := mem_apply ht l hl.sorted hl.path
  have hpath : ∀ x ∈ applyL l t, pathB x.p.data.toList = true := by
    intro x hx
    rcases (hm x).1 hx with ⟨r, hr, _, rfl⟩ | ⟨h1, _⟩
    · exact hl.path r hr
    · exact ht.path x h1
  refine ⟨apply_sorted l ht.sorted, ?_, hpath⟩
  intro x hx hp
  rcases (hm x).1 hx with ⟨r, hr, _, rfl⟩ | ⟨h1, h2, h3⟩
  · obtain ⟨s, hs, hsp, hsk⟩ := hl.housed r hr hp
    exact ⟨nodeOf s, (hm _).2 (.inl ⟨s, hs, by omega, rfl⟩), hsp, hsk⟩
  · obtain ⟨n, hn, hnp, hnk⟩ := ht.housed x h1 hp
    have hup := parent_up (ht.path x h1) hp
    cases hr : recAt l (parO x.p) with
    | some s =>
      obtain ⟨hs, hsp⟩ := recAt_mem hr
      have hst : stops s = false := by
        rcases Bool.eq_false_or_eq_true (stops s) with h | h
        · rw [cuts_at hup hr h] at h3; cases h3
        · exact h
      have hk := (stops_no hst).1
      exact ⟨nodeOf s, (hm _).2 (.inl ⟨s, hs, by omega, rfl⟩), hsp, hk⟩
    | none =>
      refine ⟨n, (hm n).2 (.inr ⟨hn, by rw [hnp]; exact hr, ?_⟩), hnp, hnk⟩
      rw [hnp]
      rcases Bool.eq_false_or_eq_true (cutsL l (parO x.p)) with h | h
      · rw [cuts_up (ht.path x h1) hup h] at h3; cases h3
      · exact h

/-- (c) Applying a layer again changes nothing. -/
theorem apply_again {l t : List R} (hl : IsLayer l) (ht : IsTree t) : applyL l (applyL l t) = applyL l t := by
  have h1 := apply_tree hl ht
  refine sorted_ext _ _ (apply_sorted l h1.sorted) h1.sorted fun x => ?_
  rw [mem_apply h1 l hl.sorted hl.path, mem_apply ht l hl.sorted hl.path]
  constructor
  · rintro (h | ⟨h2, _⟩)
    · exact .inl h
    · exact h2
  · rintro (h | h)
    · exact .inl h
    · exact .inr ⟨.inr h, h.2⟩

theorem parts_up {q : ByteArray} (h : pathB q.data.toList = true) : ∀ a ∈ ups q, (cutAt 47 a.data.toList).length < (cutAt 47 q.data.toList).length := by
  refine path_ind (P := fun q => ∀ a ∈ ups q, (cutAt 47 a.data.toList).length < (cutAt 47 q.data.toList).length) ?_ ?_ q h
  · intro q hq hp a ha
    rw [ups_step hq, if_pos hp] at ha
    cases ha
  · intro q hq hp h1 ih a ha
    rw [ups_step hq, if_neg hp] at ha
    obtain ⟨_, h2⟩ := parts_parent hq hp
    rcases List.mem_cons.1 ha with rfl | ha
    · omega
    · have := ih a ha; omega
/-- A record that is not under an opaque directory, and has something below it, stops in the canonical form as it did. -/
theorem canonR_stops {l : List R} {r : R} (hu : underL l r.p = false) (hlen : (cutAt 47 r.p.data.toList).length < 4) : ∃ x, canonR l r = some x ∧ stops x = stops r := by
  refine ⟨{ r with o := r.o && decide ((cutAt 47 r.p.data.toList).length < 4) }, ?_, ?_⟩
  · unfold canonR
    rw [if_neg (by rw [hu]; decide)]
  · unfold stops
    simp [hlen]
theorem under_canon {l : List R} (hs : Sorted l) {q : ByteArray} (h : pathB q.data.toList = true) : underL l q = true → cutsL (canonL l) q = true := by
  refine path_ind (P := fun q => underL l q = true → cutsL (canonL l) q = true) ?_ ?_ q h
  · intro q hq hp hu
    rw [underL_step l hq, if_pos hp] at hu
    cases hu
  · intro q hq hp h1 ih hu
    have hup := parent_up hq hp
    rw [underL_step l hq, if_neg hp, Bool.or_eq_true] at hu
    rcases Bool.eq_false_or_eq_true (underL l (parO q)) with h2 | h2
    · exact cuts_up hq hup (ih h2)
    · rcases hu with hu | hu
      · rw [opaqueAt_eq] at hu
        cases hr : recAt l (parO q) with
        | none => rw [hr] at hu; cases hu
        | some r =>
          rw [hr] at hu
          have ho : r.o = true := by simpa using hu
          obtain ⟨_, hrp⟩ := recAt_mem hr
          have h3 := parts_up hq _ hup
          have h4 := (pathB_parts hq).1
          obtain ⟨x, hx, hxs⟩ := canonR_stops (l := l) (r := r) (by rw [hrp]; exact h2) (by rw [hrp]; omega)
          refine cuts_at hup (r := x) (by rw [canon_recAt hs, hr]; exact hx) ?_
          rw [hxs]
          simp [stops, ho]
      · rw [h2] at hu; cases hu
theorem canon_cuts {l : List R} (hs : Sorted l) {q : ByteArray} (h : pathB q.data.toList = true) : cutsL (canonL l) q = cutsL l q := by
  rw [Bool.eq_iff_iff]
  constructor
  · intro hc
    obtain ⟨c, hcu, x, hx, hst⟩ := cuts_get hc
    rw [canon_recAt hs] at hx
    cases hr : recAt l c with
    | none => rw [hr] at hx; cases hx
    | some r =>
      rw [hr] at hx
      obtain ⟨_, h2, _, _, h5⟩ := canonR_path (show canonR l r = some x from hx)
      refine cuts_at hcu hr ?_
      unfold stops at hst ⊢
      rw [h2] at hst
      simp only [Bool.or_eq_true] at hst ⊢
      rcases hst with hst | hst
      · exact .inl hst
      · exact .inr (h5 hst)
  · intro hc
    obtain ⟨c, hcu, r, hr, hst⟩ := cuts_get hc
    obtain ⟨_, hrp⟩ := recAt_mem hr
    have hcp := ups_path h c hcu
    rcases Bool.eq_false_or_eq_true (underL l c) with h2 | h2
    · exact cuts_up h hcu (under_canon hs hcp h2)
    · have h3 := parts_up h _ hcu
      have h4 := (pathB_parts h).1
      obtain ⟨x, hx, hxs⟩ := canonR_stops (l := l) (r := r) (by rw [hrp]; exact h2) (by rw [hrp]; omega)
      exact cuts_at hcu (r := x) (by rw [canon_recAt hs, hr]; exact hx) (by rw [hxs]; exact hst)
theorem canon_path {l : List R} (hp : ∀ x ∈ l, pathB x.p.data.toList = true) : ∀ x ∈ canonL l, pathB x.p.data.toList = true := by
  intro x hx
  obtain ⟨r, hr, he⟩ := mem_canon.1 hx
  rw [(canonR_path he).1]
  exact hp r hr
theorem nodeOf_canon {l : List R} {r x : R} (h : canonR l r = some x) : nodeOf x = nodeOf r := by
  obtain ⟨h1, h2, h3, h4, _⟩ := canonR_path h
  unfold nodeOf
  rw [h1, h2, h3, h4]
/-- (b) The canonical form has the same effect on every tree. -/
theorem apply_canon {l t : List R} (hs : Sorted l) (hp : ∀ x ∈ l, pathB x.p.data.toList = true) (ht : IsTree t) : applyL (canonL l) t = applyL l t := by
  refine sorted_ext _ _ (apply_sorted _ ht.sorted) (apply_sorted _ ht.sorted) fun x => ?_
  rw [mem_apply ht _ (canon_sorted hs) (canon_path hp), mem_apply ht _ hs hp]
  constructor
  · rintro (⟨y, hy, hk, rfl⟩ | ⟨h1, h2, h3⟩)
    · obtain ⟨r, hr, he⟩ := mem_canon.1 hy
      exact .inl ⟨r, hr, by rw [← (canonR_path he).2.1]; exact hk, nodeOf_canon he⟩
    · have hxp := ht.path x h1
      rw [canon_cuts hs hxp] at h3
      refine .inr ⟨h1, ?_, h3⟩
      rw [canon_recAt hs] at h2
      cases hr : recAt l x.p with
      | none => rfl
      | some r =>
        rw [hr] at h2
        have h2' : canonR l r = none := h2
        obtain ⟨_, hrp⟩ := recAt_mem hr
        unfold canonR at h2'
        split at h2'
        · rename_i hu
          rw [hrp] at hu
          rw [under_cuts hu] at h3
          cases h3
        · cases h2'
  · rintro (⟨r, hr, hk, rfl⟩ | ⟨h1, h2, h3⟩)
    · have he : ∃ y, canonR l r = some y := by
        unfold canonR
        split
        · exact ⟨_, rfl⟩
        · exact ⟨_, rfl⟩
      obtain ⟨y, hy⟩ := he
      exact .inl ⟨y, mem_canon.2 ⟨r, hr, hy⟩, by rw [(canonR_path hy).2.1]; exact hk, (nodeOf_canon hy).symm⟩
    · refine .inr ⟨h1, ?_, by rw [canon_cuts hs (ht.path x h1)]; exact h3⟩
      rw [canon_recAt hs, h2]
      rfl
end Go.Proofs.YtcbmnihepeefaaaDoor.Recs

/- The combination of two layers, plain: what it holds; it is a layer but for its length; it has the same effect on every tree as applying one after the other. -/

namespace Go.Proofs.YtcbmnihepeefaaaDoor.Recs
open Go.RowKit Paths

/-- The upper record, over the lower one of its path. -/
def overR (x y : R) : R := if y.k = 3 ∧ stops x = true then { y with o := true } else y
/-- Two sorted lists in one: of the lower one what the upper one (u) does not cut off. -/
def twoL (u : List R) : List R → List R → List R
  | [], b => b
  | x :: a, [] => if cutsL u x.p then twoL u a [] else x :: twoL u a []
  | x :: a, y :: b =>
    if lessR x y then (if cutsL u x.p then twoL u a (y :: b) else x :: twoL u a (y :: b))
    else if lessR y x then y :: twoL u (x :: a) b
    else overR x y :: twoL u a b
termination_by a b => a.length + b.length
/-- What the upper record becomes over what the lower layer has of its path. -/
def overO (a : List R) (y : R) : R := match recAt a y.p with | some x => overR x y | none => y
theorem overR_same (x y : R) : (overR x y).p = y.p ∧ (overR x y).k = y.k ∧ (overR x y).b = y.b ∧ (overR x y).m = y.m ∧ (y.o = true → (overR x y).o = true) := by
  unfold overR
  split
  · exact ⟨rfl, rfl, rfl, rfl, fun _ => rfl⟩
  · exact ⟨rfl, rfl, rfl, rfl, fun h => h⟩
theorem overO_same (a : List R) (y : R) : (overO a y).p = y.p ∧ (overO a y).k = y.k ∧ (overO a y).b = y.b ∧ (overO a y).m = y.m ∧ (y.o = true → (overO a y).o = true) := by
  unfold overO
  split
  · exact overR_same _ _
  · exact ⟨rfl, rfl, rfl, rfl, fun h => h⟩

theorem recAt_cons_ne {x : R} {a : List R} {q : ByteArray} (h : x.p ≠ q) : recAt (x :: a) q = recAt a q := by
  unfold recAt
  rw [List.find?_cons_of_neg (by simpa using h)]
theorem recAt_cons_eq {x : R} {a : List R} {q : ByteArray} (h : x.p = q) : recAt (x :: a) q = some x := by
  unfold recAt
  rw [List.find?_cons_of_pos (by simpa using h)]
theorem recAt_less {a : List R} {y : R} (h : ∀ x ∈ a, lessR y x = true) : recAt a y.p = none := by
  cases hr : recAt a y.p with
  | none => rfl
  | some x =>
    obtain ⟨h1, h2⟩ := recAt_mem hr
    exact absurd h2.symm (less_ne (h x h1))

theorem mem_two (u : List R) : ∀ a b : List R, Sorted a → Sorted b → ∀ z, z ∈ twoL u a b ↔ (∃ y ∈ b, z = overO a y) ∨ (z ∈ a ∧ recAt b z.p = none ∧ cutsL u z.p = false)
  | [], b, _, _, z => by
    rw [twoL]
    simp [overO, recAt]
  | x :: a, [], ha, hb, z => by
    unfold Sorted at ha
    rw [List.pairwise_cons] at ha
    have ih := mem_two u a [] ha.2 hb z
    rw [twoL]
    split
    · rename_i hc
      rw [ih]
      simp only [List.not_mem_nil, false_and, exists_false, false_or, List.mem_cons]
      constructor
      · rintro ⟨h1, h2⟩; exact ⟨.inr h1, h2⟩
      · rintro ⟨rfl | h1, h2, h3⟩
        · rw [hc] at h3; cases h3
        · exact ⟨h1, h2, h3⟩
    · rename_i hc
      rw [List.mem_cons, ih]
      simp only [List.not_mem_nil, false_and, exists_false, false_or, List.mem_cons]
      constructor
      · rintro (rfl | ⟨h1, h2⟩)
        · exact ⟨.inl rfl, rfl, by simpa using hc⟩
        · exact ⟨.inr h1, h2⟩
      · rintro ⟨rfl | h1, h2⟩
        · exact .inl rfl
        · exact .inr ⟨h1, h2⟩
  | x :: a, y :: b, ha, hb, z => by
    have ha' := ha
    have hb' := hb
    unfold Sorted at ha hb
    rw [List.pairwise_cons] at ha hb
    rw [twoL]
    split
    · rename_i hxy
      have ih := mem_two u a (y :: b) ha.2 hb' z
      -- x stands in no record of the upper list
      have hnx : recAt (y :: b) x.p = none := recAt_less fun w hw => by
        rcases List.mem_cons.1 hw with rfl | hw
        · exact hxy
        · exact lessP_trans _ _ _ hxy (hb.1 w hw)
      have hov : ∀ w ∈ y :: b, overO (x :: a) w = overO a w := by
        intro w hw
        have hne : x.p ≠ w.p := by
          rcases List.mem_cons.1 hw with rfl | hw
          · exact less_ne hxy
          · exact less_ne (lessP_trans _ _ _ hxy (hb.1 w hw) : lessR x w = true)
        unfold overO
        rw [recAt_cons_ne hne]
      have hex : (∃ w ∈ y :: b, z = overO (x :: a) w) ↔ ∃ w ∈ y :: b, z = overO a w :=
        ⟨fun ⟨w, hw, e⟩ => ⟨w, hw, by rw [e, hov w hw]⟩, fun ⟨w, hw, e⟩ => ⟨w, hw, by rw [e, hov w hw]⟩⟩
      rw [hex]
      split
      · rename_i hc
        rw [ih]
        constructor
        · rintro (h | ⟨h1, h2⟩)
          · exact .inl h
          · exact .inr ⟨List.mem_cons_of_mem _ h1, h2⟩
        · rintro (h | ⟨h1, h2, h3⟩)
          · exact .inl h
          · rcases List.mem_cons.1 h1 with rfl | h1
            · rw [hc] at h3; cases h3
            · exact .inr ⟨h1, h2, h3⟩
      · rename_i hc
        rw [List.mem_cons, ih]
        constructor
        · rintro (rfl | h | ⟨h1, h2⟩)
          · exact .inr ⟨by simp, hnx, by simpa using hc⟩
          · exact .inl h
          · exact .inr ⟨List.mem_cons_of_mem _ h1, h2⟩
        · rintro (h | ⟨h1, h2⟩)
          · exact .inr (.inl h)
          · rcases List.mem_cons.1 h1 with rfl | h1
            · exact .inl rfl
            · exact .inr (.inr ⟨h1, h2⟩)
    · rename_i hxy
      split
      · rename_i hyx
        have ih := mem_two u (x :: a) b ha' hb.2 z
        have hny : recAt (x :: a) y.p = none := recAt_less fun w hw => by
          rcases List.mem_cons.1 hw with rfl | hw
          · exact hyx
          · exact lessP_trans _ _ _ hyx (ha.1 w hw)
        have hy0 : overO (x :: a) y = y := by unfold overO; rw [hny]
        have hb0 : ∀ w ∈ x :: a, recAt (y :: b) w.p = recAt b w.p := by
          intro w hw
          refine recAt_cons_ne ?_
          rcases List.mem_cons.1 hw with rfl | hw
          · exact less_ne hyx
          · exact less_ne (lessP_trans _ _ _ hyx (ha.1 w hw) : lessR y w = true)
        rw [List.mem_cons, ih]
        constructor
        · rintro (rfl | ⟨w, hw, e⟩ | ⟨h1, h2, h3⟩)
          · exact .inl ⟨z, by simp, hy0.symm⟩
          · exact .inl ⟨w, List.mem_cons_of_mem _ hw, e⟩
          · exact .inr ⟨h1, by rw [hb0 z h1]; exact h2, h3⟩
        · rintro (⟨w, hw, e⟩ | ⟨h1, h2, h3⟩)
          · rcases List.mem_cons.1 hw with rfl | hw
            · exact .inl (e.trans hy0)
            · exact .inr (.inl ⟨w, hw, e⟩)
          · exact .inr (.inr ⟨h1, by rw [← hb0 z h1]; exact h2, h3⟩)
      · rename_i hyx
        have exy : x.p = y.p := by
          refine Classical.byContradiction fun hne => ?_
          rcases less_or hne with h | h
          · exact hxy h
          · exact hyx h
        have ih := mem_two u a b ha.2 hb.2 z
        have hy0 : overO (x :: a) y = overR x y := by unfold overO; rw [recAt_cons_eq exy]
        have hov : ∀ w ∈ b, overO (x :: a) w = overO a w := by
          intro w hw
          unfold overO
          rw [recAt_cons_ne (by rw [exy]; exact less_ne (hb.1 w hw))]
        have hb0 : ∀ w ∈ a, recAt (y :: b) w.p = recAt b w.p := by
          intro w hw
          exact recAt_cons_ne (by rw [← exy]; exact less_ne (ha.1 w hw))
        rw [List.mem_cons, ih]
        constructor
        · rintro (rfl | ⟨w, hw, e⟩ | ⟨h1, h2, h3⟩)
          · exact .inl ⟨y, by simp, hy0.symm⟩
          · exact .inl ⟨w, List.mem_cons_of_mem _ hw, by rw [e, hov w hw]⟩
          · exact .inr ⟨List.mem_cons_of_mem _ h1, by rw [hb0 z h1]; exact h2, h3⟩
        · rintro (⟨w, hw, e⟩ | ⟨h1, h2, h3⟩)
          · rcases List.mem_cons.1 hw with rfl | hw
            · exact .inl (e.trans hy0)
            · exact .inr (.inl ⟨w, hw, by rw [e, hov w hw]⟩)
          · rcases List.mem_cons.1 h1 with rfl | h1
            · rw [recAt_cons_eq exy.symm] at h2; cases h2
            · exact .inr (.inr ⟨h1, by rw [← hb0 z h1]; exact h2, h3⟩)
termination_by a b => a.length + b.length
end Go.Proofs.YtcbmnihepeefaaaDoor.Recs

/- The combination of two layers, plain: its effect on every tree is that of applying one after the other. -/

namespace Go.Proofs.YtcbmnihepeefaaaDoor.Recs
open Go.RowKit Paths

theorem less_path {x y z : R} (h : y.p = z.p) : lessR x y = lessR x z := by unfold lessR; rw [h]
theorem less_path' {x y z : R} (h : x.p = y.p) : lessR x z = lessR y z := by unfold lessR; rw [h]
/-- All that follows a record in both lists follows it in the one. -/
theorem two_after {u a b : List R} (ha : Sorted a) (hb : Sorted b) {x : R} (h1 : ∀ w ∈ a, lessR x w = true) (h2 : ∀ w ∈ b, lessR x w = true) : ∀ z ∈ twoL u a b, lessR x z = true := by
  intro z hz
  rcases (mem_two u a b ha hb z).1 hz with ⟨y, hy, rfl⟩ | ⟨h, _⟩
  · rw [less_path (overO_same a y).1]; exact h2 y hy
  · exact h1 z h
theorem two_sorted (u : List R) : ∀ a b : List R, Sorted a → Sorted b → Sorted (twoL u a b)
  | [], b, _, hb => by rw [twoL]; exact hb
  | x :: a, [], ha, hb => by
    unfold Sorted at ha
    rw [List.pairwise_cons] at ha
    have ih := two_sorted u a [] ha.2 hb
    rw [twoL]
    split
    · exact ih
    · exact List.pairwise_cons.2 ⟨two_after ha.2 hb ha.1 (fun w hw => by cases hw), ih⟩
  | x :: a, y :: b, ha, hb => by
    have ha' := ha
    have hb' := hb
    unfold Sorted at ha hb
    rw [List.pairwise_cons] at ha hb
    rw [twoL]
    split
    · rename_i hxy
      have ih := two_sorted u a (y :: b) ha.2 hb'
      split
      · exact ih
      · refine List.pairwise_cons.2 ⟨two_after ha.2 hb' ha.1 (fun w hw => ?_), ih⟩
        rcases List.mem_cons.1 hw with rfl | hw
        · exact hxy
        · exact lessP_trans _ _ _ hxy (hb.1 w hw)
    · rename_i hxy
      split
      · rename_i hyx
        refine List.pairwise_cons.2 ⟨two_after ha' hb.2 (fun w hw => ?_) hb.1, two_sorted u (x :: a) b ha' hb.2⟩
        rcases List.mem_cons.1 hw with rfl | hw
        · exact hyx
        · exact lessP_trans _ _ _ hyx (ha.1 w hw)
      · rename_i hyx
        have exy : x.p = y.p := by
          refine Classical.byContradiction fun hne => ?_
          rcases less_or hne with h | h
          · exact hxy h
          · exact hyx h
        refine List.pairwise_cons.2 ⟨two_after ha.2 hb.2 (fun w hw => ?_) (fun w hw => ?_), two_sorted u a b ha.2 hb.2⟩
        · rw [less_path' ((overR_same x y).1.trans exy.symm)]; exact ha.1 w hw
        · rw [less_path' (overR_same x y).1]; exact hb.1 w hw
termination_by a b => a.length + b.length

def two (a b : List R) : List R := twoL b a b
def squashL (a b : List R) : List R := canonL (two a b)
section
variable {a b : List R} (ha : IsLayer a) (hb : IsLayer b)
include ha hb
theorem two_recAt (q : ByteArray) : recAt (two a b) q = match recAt b q with | some y => some (overO a y) | none => if cutsL b q then none else recAt a q := by
  have hs := two_sorted b a b ha.sorted hb.sorted
  have hm := mem_two b a b ha.sorted hb.sorted
  cases hr : recAt b q with
  | some y =>
    obtain ⟨h1, h2⟩ := recAt_mem hr
    have hin : overO a y ∈ two a b := (hm _).2 (.inl ⟨y, h1, rfl⟩)
    have e := recAt_of hs hin
    rw [(overO_same a y).1, h2] at e
    exact e
  | none =>
    show recAt (two a b) q = if cutsL b q then none else recAt a q
    cases hc : recAt (two a b) q with
    | some z =>
      obtain ⟨h1, h2⟩ := recAt_mem hc
      rcases (hm z).1 h1 with ⟨y, hy, rfl⟩ | ⟨h3, h4, h5⟩
      · exact absurd ((overO_same a y).1.symm.trans h2) (recAt_none hr y hy)
      · rw [h2] at h5
        rw [if_neg (by rw [h5]; decide), ← h2, recAt_of ha.sorted h3]
    | none =>
      split
      · rfl
      · rename_i hcut
        cases hx : recAt a q with
        | none => rfl
        | some x =>
          obtain ⟨h1, h2⟩ := recAt_mem hx
          exact absurd h2 (recAt_none hc x ((hm x).2 (.inr ⟨h1, by rw [h2]; exact hr, by rw [h2]; simpa using hcut⟩)))
theorem two_path : ∀ z ∈ two a b, pathB z.p.data.toList = true := by
  intro z hz
  rcases (mem_two b a b ha.sorted hb.sorted z).1 hz with ⟨y, hy, rfl⟩ | ⟨h, _⟩
  · rw [(overO_same a y).1]; exact hb.path y hy
  · exact ha.path z h
omit ha hb in
theorem stops_over {y : R} (h : stops y = true) : stops (overO a y) = true := by
  obtain ⟨_, h2, _, _, h5⟩ := overO_same a y
  unfold stops at h ⊢
  rw [h2]
  simp only [Bool.or_eq_true] at h ⊢
  rcases h with h | h
  · exact .inl h
  · exact .inr (h5 h)
omit ha hb in
theorem stops_over_low {x y : R} (hx : recAt a y.p = some x) (h : stops x = true) : stops (overO a y) = true := by
  unfold overO
  rw [hx]
  show stops (overR x y) = true
  unfold overR
  split
  · simp [stops]
  · rename_i hn
    have : ¬ y.k = 3 := fun e => hn ⟨e, h⟩
    simp [stops, this]
/-- What the combination cuts off is what one of the two does. -/
theorem two_cuts {q : ByteArray} (h : pathB q.data.toList = true) : cutsL (two a b) q = (cutsL a q || cutsL b q) := by
  have hlow : ∀ q : ByteArray, pathB q.data.toList = true → cutsL b q = true → cutsL (two a b) q = true := by
    intro q _ hc
    obtain ⟨c, hcu, y, hy, hst⟩ := cuts_get hc
    exact cuts_at hcu (r := overO a y) (by rw [two_recAt ha hb, hy]) (stops_over hst)
  rw [Bool.eq_iff_iff, Bool.or_eq_true]
  constructor
  · intro hc
    obtain ⟨c, hcu, z, hz, hst⟩ := cuts_get hc
    rw [two_recAt ha hb] at hz
    cases hr : recAt b c with
    | some y =>
      rw [hr] at hz
      cases hz
      obtain ⟨_, hyp⟩ := recAt_mem hr
      rcases Bool.eq_false_or_eq_true (stops y) with hy | hy
      · exact .inr (cuts_at hcu hr hy)
      · cases hx : recAt a y.p with
        | none =>
          have e : overO a y = y := by unfold overO; rw [hx]
          rw [e, hy] at hst
          cases hst
        | some x =>
          rcases Bool.eq_false_or_eq_true (stops x) with hsx | hsx
          · exact .inl (cuts_at hcu (by rw [← hyp]; exact hx) hsx)
          · have e : overO a y = y := by
              unfold overO
              rw [hx]
              show overR x y = y
              unfold overR
              rw [if_neg (fun hh => by rw [hsx] at hh; cases hh.2)]
            rw [e, hy] at hst
            cases hst
    | none =>
      rw [hr] at hz
      have hz' : (if cutsL b c then none else recAt a c) = some z := hz
      split at hz'
      · cases hz'
      · exact .inl (cuts_at hcu hz' hst)
  · rintro (hc | hc)
    · obtain ⟨c, hcu, x, hx, hst⟩ := cuts_get hc
      have hcp := ups_path h c hcu
      cases hr : recAt b c with
      | some y =>
        obtain ⟨_, hyp⟩ := recAt_mem hr
        exact cuts_at hcu (r := overO a y) (by rw [two_recAt ha hb, hr]) (stops_over_low (by rw [hyp]; exact hx) hst)
      | none =>
        rcases Bool.eq_false_or_eq_true (cutsL b c) with h2 | h2
        · exact cuts_up h hcu (hlow c hcp h2)
        · exact cuts_at hcu (r := x) (by rw [two_recAt ha hb, hr]; show (if cutsL b c then none else recAt a c) = some x; rw [if_neg (by rw [h2]; decide)]; exact hx) hst
    · exact hlow q h hc
omit ha hb in
theorem nodeOf_over (a : List R) (y : R) : nodeOf (overO a y) = nodeOf y := by
  obtain ⟨h1, h2, h3, h4, _⟩ := overO_same a y
  unfold nodeOf
  rw [h1, h2, h3, h4]
/-- (d) THE COMBINATION HAS THE SAME EFFECT ON EVERY TREE AS APPLYING ONE AFTER THE OTHER. -/
theorem apply_two {t : List R} (ht : IsTree t) : applyL (two a b) t = applyL b (applyL a t) := by
  have h1 := apply_tree ha ht
  have hs : Sorted (two a b) := two_sorted b a b ha.sorted hb.sorted
  refine sorted_ext _ _ (apply_sorted _ ht.sorted) (apply_sorted _ h1.sorted) fun x => ?_
  rw [mem_apply ht _ hs (two_path ha hb), mem_apply h1 _ hb.sorted hb.path, mem_apply ht _ ha.sorted ha.path]
  constructor
  · rintro (⟨z, hz, hk, rfl⟩ | ⟨hx, h2, h3⟩)
    · rcases (mem_two b a b ha.sorted hb.sorted z).1 hz with ⟨y, hy, rfl⟩ | ⟨h4, h5, h6⟩
      · exact .inl ⟨y, hy, by rw [← (overO_same a y).2.1]; exact hk, nodeOf_over a y⟩
      · exact .inr ⟨.inl ⟨z, h4, hk, rfl⟩, h5, h6⟩
    · rw [two_cuts ha hb (ht.path x hx), Bool.or_eq_false_iff] at h3
      rw [two_recAt ha hb] at h2
      cases hr : recAt b x.p with
      | some y => rw [hr] at h2; cases h2
      | none =>
        rw [hr] at h2
        have h2' : (if cutsL b x.p then none else recAt a x.p) = none := h2
        rw [if_neg (by rw [h3.2]; decide)] at h2'
        exact .inr ⟨.inr ⟨hx, h2', h3.1⟩, rfl, h3.2⟩
  · rintro (⟨y, hy, hk, rfl⟩ | ⟨⟨r, hr, hk, rfl⟩ | ⟨hx, h4, h5⟩, h2, h3⟩)
    · exact .inl ⟨overO a y, (mem_two b a b ha.sorted hb.sorted _).2 (.inl ⟨y, hy, rfl⟩), by rw [(overO_same a y).2.1]; exact hk, (nodeOf_over a y).symm⟩
    · exact .inl ⟨r, (mem_two b a b ha.sorted hb.sorted _).2 (.inr ⟨hr, h2, h3⟩), hk, rfl⟩
    · refine .inr ⟨hx, ?_, ?_⟩
      · rw [two_recAt ha hb, h2]
        show (if cutsL b x.p then none else recAt a x.p) = none
        rw [if_neg (by rw [h3]; decide)]
        exact h4
      · rw [two_cuts ha hb (ht.path x hx), h5, h3]
        rfl
/-- The same of its canonical form. -/
theorem apply_squash {t : List R} (ht : IsTree t) : applyL (squashL a b) t = applyL b (applyL a t) := by
  unfold squashL
  rw [apply_canon (show Sorted (two a b) from two_sorted b a b ha.sorted hb.sorted) (two_path ha hb) ht, apply_two ha hb ht]
theorem two_housed : Housed (two a b) := by
  have hm := mem_two b a b ha.sorted hb.sorted
  intro z hz hp
  rcases (hm z).1 hz with ⟨y, hy, rfl⟩ | ⟨h1, h2, h3⟩
  · rw [(overO_same a y).1] at hp ⊢
    obtain ⟨w, hw, hwp, hwk⟩ := hb.housed y hy hp
    exact ⟨overO a w, (hm _).2 (.inl ⟨w, hw, rfl⟩), (overO_same a w).1.trans hwp, (overO_same a w).2.1.trans hwk⟩
  · obtain ⟨r, hr, hrp, hrk⟩ := ha.housed z h1 hp
    have hup := parent_up (ha.path z h1) hp
    cases hc : recAt b (parO z.p) with
    | some y =>
      obtain ⟨hy, hyp⟩ := recAt_mem hc
      have hst : stops y = false := by
        rcases Bool.eq_false_or_eq_true (stops y) with h | h
        · rw [cuts_at hup hc h] at h3; cases h3
        · exact h
      exact ⟨overO a y, (hm _).2 (.inl ⟨y, hy, rfl⟩), (overO_same a y).1.trans hyp, (overO_same a y).2.1.trans (stops_no hst).1⟩
    | none =>
      refine ⟨r, (hm r).2 (.inr ⟨hr, by rw [hrp]; exact hc, ?_⟩), hrp, hrk⟩
      rw [hrp]
      rcases Bool.eq_false_or_eq_true (cutsL b (parO z.p)) with h | h
      · rw [cuts_up (ha.path z h1) hup h] at h3; cases h3
      · exact h
theorem two_layer : IsLayer (two a b) := ⟨two_sorted b a b ha.sorted hb.sorted, two_housed ha hb, two_path ha hb⟩
end
end Go.Proofs.YtcbmnihepeefaaaDoor.Recs

/- The canonical form is told by the effect: two canonical layers that have the same effect on every tree are one. -/

namespace Go.Proofs.YtcbmnihepeefaaaDoor.Recs
open Go.RowKit Paths

def dirN (q : ByteArray) : R := ⟨3, 0, q, ⟨#[]⟩, false⟩
def fileN (q : ByteArray) : R := ⟨1, 0, q, ⟨#[]⟩, false⟩
/-- The directories above a path, from the first part down. -/
def dirsOf (q : ByteArray) : List R := (ups q).reverse.map dirN
/-- A file at a path, and the directories above it. -/
def chainOf (q : ByteArray) : List R := dirsOf q ++ [fileN q]
theorem dirs_step {q : ByteArray} (h : pathB q.data.toList = true) : dirsOf q = if parentL q.data.toList = [] then [] else dirsOf (parO q) ++ [dirN (parO q)] := by
  unfold dirsOf
  rw [ups_step h]
  split
  · rfl
  · simp
theorem mem_dirs {q : ByteArray} {x : R} : x ∈ dirsOf q ↔ ∃ c ∈ ups q, x = dirN c := by
  unfold dirsOf
  simp only [List.mem_map, List.mem_reverse]
  exact ⟨fun ⟨c, hc, e⟩ => ⟨c, hc, e.symm⟩, fun ⟨c, hc, e⟩ => ⟨c, hc, e.symm⟩⟩
theorem dirs_sorted {q : ByteArray} (h : pathB q.data.toList = true) : Sorted (dirsOf q) := by
  refine path_ind (P := fun q => Sorted (dirsOf q)) ?_ ?_ q h
  · intro q hq hp
    rw [dirs_step hq, if_pos hp]
    exact List.Pairwise.nil
  · intro q hq hp h1 ih
    rw [dirs_step hq, if_neg hp]
    unfold Sorted
    rw [List.pairwise_append]
    refine ⟨ih, List.pairwise_singleton _ _, fun x hx y hy => ?_⟩
    rw [List.mem_singleton.1 hy]
    obtain ⟨c, hc, rfl⟩ := mem_dirs.1 hx
    exact ups_less h1 c hc
theorem chain_tree {q : ByteArray} (h : pathB q.data.toList = true) : IsTree (chainOf q) := by
  have hup : ∀ x ∈ chainOf q, x.p = q ∨ x.p ∈ ups q := by
    intro x hx
    rcases List.mem_append.1 hx with hx | hx
    · obtain ⟨c, hc, rfl⟩ := mem_dirs.1 hx; exact .inr hc
    · rw [List.mem_singleton.1 hx]; exact .inl rfl
  have hin : ∀ c ∈ ups q, dirN c ∈ chainOf q := fun c hc => List.mem_append_left _ (mem_dirs.2 ⟨c, hc, rfl⟩)
  refine ⟨?_, ?_, ?_⟩
  · unfold Sorted chainOf
    rw [List.pairwise_append]
    refine ⟨dirs_sorted h, List.pairwise_singleton _ _, fun x hx y hy => ?_⟩
    rw [List.mem_singleton.1 hy]
    obtain ⟨c, hc, rfl⟩ := mem_dirs.1 hx
    exact ups_less h c hc
  · intro x hx hp
    rcases hup x hx with e | hu
    · rw [e] at hp ⊢
      exact ⟨_, hin _ (parent_up h hp), rfl, rfl⟩
    · exact ⟨_, hin _ (ups_trans h _ _ hu (parent_up (ups_path h _ hu) hp)), rfl, rfl⟩
  · intro x hx
    rcases hup x hx with e | hu
    · rw [e]; exact h
    · exact ups_path h _ hu
theorem file_mem (q : ByteArray) : fileN q ∈ chainOf q := by unfold chainOf; simp
/-- What is at the file's own path in the chain is the file. -/
theorem chain_at {q : ByteArray} (h : pathB q.data.toList = true) {x : R} (hx : x ∈ chainOf q) (hp : x.p = q) : x = fileN q := sorted_mem_once (chain_tree h).sorted hx (file_mem q) hp

theorem nil_tree : IsTree [] := ⟨List.Pairwise.nil, (fun _ hr => by cases hr), (fun _ hr => by cases hr)⟩

/-! ### A name that is free -/
theorem pigeon : ∀ (n : Nat) (L : List ByteArray) (f : Nat → ByteArray), (∀ i j, i < n → j < n → f i = f j → i = j) → (∀ i, i < n → f i ∈ L) → n ≤ L.length := by
  intro n
  induction n with
  | zero => intro _ _ _ _; omega
  | succ n ih =>
    intro L f hinj hin
    have h1 := ih (L.filter fun x => decide (x ≠ f n)) f (fun i j hi hj => hinj i j (by omega) (by omega)) (fun i hi => by
      rw [List.mem_filter]
      refine ⟨hin i (by omega), ?_⟩
      simp only [decide_eq_true_eq]
      intro e
      have := hinj i n (by omega) (by omega) e
      omega)
    have h2 : (L.filter fun x => decide (x ≠ f n)).length < L.length := by
      rw [List.length_filter_lt_length_iff_exists]
      exact ⟨f n, hin n (by omega), by simp⟩
    omega
/-- Names z.. : 4096 of them. -/
def zName (i : Nat) : List UInt8 := [122, UInt8.ofNat (48 + i / 64), UInt8.ofNat (48 + i % 64)]
theorem ofNat_small {n : Nat} (h : n < 256) : (UInt8.ofNat n).toNat = n := by simp [UInt8.toNat_ofNat']; omega
theorem zName_inj {i j : Nat} (hi : i < 4096) (hj : j < 4096) (h : zName i = zName j) : i = j := by
  unfold zName at h
  simp only [List.cons.injEq, and_true, true_and] at h
  have h1 := congrArg UInt8.toNat h.1
  have h2 := congrArg UInt8.toNat h.2
  rw [ofNat_small (by omega), ofNat_small (by omega)] at h1 h2
  omega
theorem zName_part {i : Nat} (hi : i < 4096) : partB (zName i) = true := by
  have h1 := ofNat_small (n := 48 + i / 64) (by omega)
  have h2 := ofNat_small (n := 48 + i % 64) (by omega)
  have e1 : (zName i == [46]) = false := by simp [zName]
  have e2 : (zName i == [46, 46]) = false := by simp [zName]
  have e3 : partAll (zName i) = true := by
    unfold partAll zName
    simp only [List.all_cons, List.all_nil, Bool.and_true, Bool.and_eq_true]
    refine ⟨by decide, ?_, ?_⟩
    · rw [h1]; unfold partChar; simp; omega
    · rw [h2]; unfold partChar; simp; omega
  unfold partB
  rw [e1, e2, e3]
  simp [zName]
theorem zName_clear {i : Nat} (hi : i < 4096) : ∀ c ∈ zName i, c ≠ 47 := by
  have h1 := ofNat_small (n := 48 + i / 64) (by omega)
  have h2 := ofNat_small (n := 48 + i % 64) (by omega)
  intro c hc e
  unfold zName at hc
  simp only [List.mem_cons, List.not_mem_nil, or_false] at hc
  have e' := congrArg UInt8.toNat e
  rcases hc with rfl | rfl | rfl
  · exact absurd e' (by decide)
  · rw [h1] at e'; have : (47 : UInt8).toNat = 47 := rfl; omega
  · rw [h2] at e'; have : (47 : UInt8).toNat = 47 := rfl; omega
def joinZ (q : ByteArray) (i : Nat) : ByteArray := ⟨(q.data.toList ++ 47 :: zName i).toArray⟩
theorem joinZ_data (q : ByteArray) (i : Nat) : (joinZ q i).data.toList = q.data.toList ++ 47 :: zName i := by unfold joinZ; simp
theorem joinZ_inj {q : ByteArray} {i j : Nat} (hi : i < 4096) (hj : j < 4096) (h : joinZ q i = joinZ q j) : i = j := by
  have e := congrArg (fun s : ByteArray => s.data.toList) h
  simp only [joinZ_data] at e
  have := List.append_cancel_left e
  simp only [List.cons.injEq, true_and] at this
  exact zName_inj hi hj this
theorem joinZ_path {q : ByteArray} (h : pathB q.data.toList = true) (hl : (cutAt 47 q.data.toList).length < 4) {i : Nat} (hi : i < 4096) : pathB (joinZ q i).data.toList = true := by
  rw [joinZ_data]
  exact pathB_join h (zName_part hi) hl
theorem joinZ_parent (q : ByteArray) {i : Nat} (hi : i < 4096) : parO (joinZ q i) = q := by
  unfold parO
  rw [joinZ_data, parent_at _ _ (zName_clear hi)]
theorem joinZ_up {q : ByteArray} (h : pathB q.data.toList = true) (hl : (cutAt 47 q.data.toList).length < 4) {i : Nat} (hi : i < 4096) : ups (joinZ q i) = q :: ups q := by
  have hp : parentL (joinZ q i).data.toList ≠ [] := by
    rw [joinZ_data, parent_at _ _ (zName_clear hi)]
    exact pathB_ne h
  rw [ups_step (joinZ_path h hl hi), if_neg hp, joinZ_parent q hi]
/-- Among so many names one is free in both lists. -/
theorem free_name (a b : List R) (hlen : a.length + b.length < 4096) (q : ByteArray) : ∃ i, i < 4096 ∧ recAt a (joinZ q i) = none ∧ recAt b (joinZ q i) = none := by
  refine Classical.byContradiction fun hno => ?_
  have hall : ∀ i, i < 4096 → joinZ q i ∈ (a ++ b).map (·.p) := by
    intro i hi
    rw [List.mem_map]
    cases ha : recAt a (joinZ q i) with
    | some x => exact ⟨x, List.mem_append_left _ (recAt_mem ha).1, (recAt_mem ha).2⟩
    | none =>
      cases hb : recAt b (joinZ q i) with
      | some x => exact ⟨x, List.mem_append_right _ (recAt_mem hb).1, (recAt_mem hb).2⟩
      | none => exact absurd ⟨i, hi, ha, hb⟩ hno
  have := pigeon 4096 _ (joinZ q) (fun i j hi hj => joinZ_inj hi hj) hall
  rw [List.length_map, List.length_append] at this
  omega
end Go.Proofs.YtcbmnihepeefaaaDoor.Recs

/- The canonical form is told by the effect: two canonical layers that have the same effect on every tree are one; so combining is associative. -/

namespace Go.Proofs.YtcbmnihepeefaaaDoor.Recs
open Go.RowKit Paths

/-- A canonical layer, of whatever length below a great bound. -/
structure Canon (l : List R) : Prop where
  layer : IsLayer l
  canon : canonL l = l
  fine : ∀ x ∈ l, x.fault = 0

theorem canon_fix {l : List R} (h : Canon l) {x : R} (hx : x ∈ l) : canonR l x = some x := by
  have h1 := canon_recAt h.layer.sorted x.p
  rw [h.canon, recAt_of h.layer.sorted hx] at h1
  exact h1.symm
theorem canon_open {l : List R} (h : Canon l) {x : R} (hx : x ∈ l) : (x.o = true → underL l x.p = false ∧ (cutAt 47 x.p.data.toList).length < 4) ∧ (x.k = 4 → underL l x.p = false) := by
  have h1 := canon_fix h hx
  unfold canonR at h1
  split at h1
  · split at h1
    · cases h1
    · rename_i hk
      have ho : x.o = false := by have := congrArg R.o (Option.some.inj h1); exact this.symm
      exact ⟨(fun h => by rw [ho] at h; cases h), fun h => absurd h hk⟩
  · rename_i hu
    have hu' : underL l x.p = false := by simpa using hu
    refine ⟨fun ho => ⟨hu', ?_⟩, fun _ => hu'⟩
    have := congrArg R.o (Option.some.inj h1)
    rw [ho] at this
    simpa using this
/-- Above a record of a layer only an opaque directory stops. -/
theorem cuts_under {l : List R} (h : IsLayer l) {x : R} (hx : x ∈ l) (hu : underL l x.p = false) : cutsL l x.p = false := by
  rcases Bool.eq_false_or_eq_true (cutsL l x.p) with hc | hc
  · obtain ⟨c, hcu, r, hr, hst⟩ := cuts_get hc
    obtain ⟨hrm, hrp⟩ := recAt_mem hr
    obtain ⟨n, hn, hnp, hnk⟩ := housed_ups h.housed (h.path x hx) x hx rfl c hcu
    have e := sorted_mem_once h.sorted hrm hn (hrp.trans hnp.symm)
    subst e
    have ho : r.o = true := by simpa [stops, hnk] using hst
    have : underL l x.p = true := by
      rw [underL_any, List.any_eq_true]
      exact ⟨c, hcu, by rw [opaqueAt_eq, hr]; simpa using ho⟩
    rw [this] at hu
    cases hu
  · exact hc
theorem cuts_congr {a b : List R} {q : ByteArray} (h : ∀ c ∈ ups q, recAt a c = recAt b c) : cutsL a q = cutsL b q := by
  rw [Bool.eq_iff_iff]
  constructor
  · intro hc
    obtain ⟨c, hcu, r, hr, hst⟩ := cuts_get hc
    exact cuts_at hcu (by rw [← h c hcu]; exact hr) hst
  · intro hc
    obtain ⟨c, hcu, r, hr, hst⟩ := cuts_get hc
    exact cuts_at hcu (by rw [h c hcu]; exact hr) hst
theorem fault_more {r : R} (h : r.fault = 0) : (r.o = true → r.k = 3) ∧ (r.k = 4 → r.b.size = 0 ∧ r.m = 0 ∧ r.o = false) := by
  unfold R.fault faultI at h
  split at h
  · cases h
  split at h
  · cases h
  split at h
  · cases h
  split at h
  · cases h
  split at h
  · cases h
  rename_i h1 h2 h3 h4 h5
  have h6 : r.o = true → r.k = 3 := fun ho => by
    refine Classical.byContradiction fun hk => h4 (.inr ⟨ho, hk⟩)
  refine ⟨h6, fun hk => ⟨?_, ?_, ?_⟩⟩
  · refine Classical.byContradiction fun hz => h4 (.inl ⟨hz, .inr hk⟩)
  · refine Classical.byContradiction fun hz => h5 (.inr (.inr ⟨hz, .inl hk⟩))
  · cases ho : r.o with
    | false => rfl
    | true => have := h6 ho; omega
theorem size_nil {s : ByteArray} (h : s.size = 0) : s = ⟨#[]⟩ := by
  apply ByteArray.ext
  exact Array.eq_empty_of_size_eq_zero h
theorem nodeOf_eq {x r : R} (h : nodeOf x = nodeOf r) : x.k = r.k ∧ x.m = r.m ∧ x.p = r.p ∧ x.b = r.b := by
  unfold nodeOf at h
  injection h with h1 h2 h3 h4
  exact ⟨h1, h2, h3, h4⟩
theorem R_ext {x r : R} (h1 : x.k = r.k) (h2 : x.m = r.m) (h3 : x.p = r.p) (h4 : x.b = r.b) (h5 : x.o = r.o) : x = r := by
  obtain ⟨a, b, c, d, e⟩ := x
  obtain ⟨a', b', c', d', e'⟩ := r
  simp only at h1 h2 h3 h4 h5
  subst h1 h2 h3 h4 h5
  rfl

section
variable {a b : List R} (ha : Canon a) (hb : Canon b) (hlen : a.length + b.length < 4096) (he : ∀ t, IsTree t → applyL a t = applyL b t)
include ha hb he
/-- Where one has a record that is no whiteout, so has the other, the same but for Opaque. -/
theorem eff_node {x : R} (hx : x ∈ a) (hk : x.k ≠ 4) : ∃ r ∈ b, nodeOf x = nodeOf r := by
  have h1 : nodeOf x ∈ applyL a [] := (mem_apply nil_tree a ha.layer.sorted ha.layer.path _).2 (.inl ⟨x, hx, hk, rfl⟩)
  rw [he [] nil_tree] at h1
  rcases (mem_apply nil_tree b hb.layer.sorted hb.layer.path _).1 h1 with ⟨r, hr, _, e⟩ | ⟨h, _⟩
  · exact ⟨r, hr, e⟩
  · cases h
include hlen
theorem eff_opaque {x r : R} (hx : x ∈ a) (hr : r ∈ b) (hp : x.p = r.p) (hup : ∀ c ∈ ups x.p, recAt a c = recAt b c) (ho : x.o = true) (hk : r.k = 3) (hro : r.o = false) : False := by
  obtain ⟨hu, hl⟩ := (canon_open ha hx).1 ho
  have hxp := ha.layer.path x hx
  have hcut := cuts_under ha.layer hx hu
  obtain ⟨i, hi, fa, fb⟩ := free_name a b hlen x.p
  have hq := joinZ_path hxp hl hi
  have hups := joinZ_up hxp hl hi
  have hin : fileN (joinZ x.p i) ∈ applyL b (chainOf (joinZ x.p i)) := by
    refine (mem_apply (chain_tree hq) b hb.layer.sorted hb.layer.path _).2 (.inr ⟨file_mem _, fb, ?_⟩)
    show cutsL b (joinZ x.p i) = false
    unfold cutsL
    rw [hups, List.any_cons]
    have e1 : stopsAt b x.p = false := by unfold stopsAt; rw [hp, recAt_of hb.layer.sorted hr]; simp [stops, hk, hro]
    have e2 : cutsL b x.p = false := by rw [← cuts_congr hup]; exact hcut
    rw [e1, Bool.false_or]
    exact e2
  rw [← he _ (chain_tree hq)] at hin
  rcases (mem_apply (chain_tree hq) a ha.layer.sorted ha.layer.path _).1 hin with ⟨y, hy, _, e⟩ | ⟨_, _, h3⟩
  · exact recAt_none fa y hy (nodeOf_eq (show nodeOf y = nodeOf (fileN (joinZ x.p i)) from e.symm)).2.2.1
  · have h4 : cutsL a (joinZ x.p i) = true := cuts_at (by rw [hups]; simp) (recAt_of ha.layer.sorted hx) (by simp [stops, ho])
    rw [show (fileN (joinZ x.p i)).p = joinZ x.p i from rfl, h4] at h3
    cases h3
end
/-- One half of a path's step. -/
theorem eff_half {a b : List R} (ha : Canon a) (hb : Canon b) (hlen : a.length + b.length < 4096) (he : ∀ t, IsTree t → applyL a t = applyL b t) {x : R} (hx : x ∈ a) (hup : ∀ c ∈ ups x.p, recAt a c = recAt b c) : x ∈ b := by
  have he' : ∀ t, IsTree t → applyL b t = applyL a t := fun t ht => (he t ht).symm
  by_cases hk : x.k = 4
  · have hu := (canon_open ha hx).2 hk
    have hcut := cuts_under ha.layer hx hu
    have hxp := ha.layer.path x hx
    cases hr : recAt b x.p with
    | some r =>
      obtain ⟨hrm, hrp⟩ := recAt_mem hr
      by_cases hrk : r.k = 4
      · obtain ⟨x1, x2, x3⟩ := (fault_more (ha.fine x hx)).2 hk
        obtain ⟨r1, r2, r3⟩ := (fault_more (hb.fine r hrm)).2 hrk
        have e : x = r := R_ext (hk.trans hrk.symm) (x2.trans r2.symm) hrp.symm ((size_nil x1).trans (size_nil r1).symm) (x3.trans r3.symm)
        rw [e]; exact hrm
      · obtain ⟨s, hs, e⟩ := eff_node hb ha he' hrm hrk
        obtain ⟨e1, _, e3, _⟩ := nodeOf_eq e
        have := sorted_mem_once ha.layer.sorted hs hx (e3.symm.trans hrp)
        rw [this] at e1
        omega
    | none =>
      have hin : fileN x.p ∈ applyL b (chainOf x.p) := (mem_apply (chain_tree hxp) b hb.layer.sorted hb.layer.path _).2 (.inr ⟨file_mem _, hr, by show cutsL b x.p = false; rw [← cuts_congr hup]; exact hcut⟩)
      rw [← he _ (chain_tree hxp)] at hin
      rcases (mem_apply (chain_tree hxp) a ha.layer.sorted ha.layer.path _).1 hin with ⟨y, hy, hyk, e⟩ | ⟨_, h2, _⟩
      · have := sorted_mem_once ha.layer.sorted hy hx (nodeOf_eq (show nodeOf y = nodeOf (fileN x.p) from e.symm)).2.2.1
        rw [this] at hyk
        exact absurd hk hyk
      · exact absurd rfl (recAt_none h2 x hx)
  · obtain ⟨r, hr, e⟩ := eff_node ha hb he hx hk
    obtain ⟨e1, e2, e3, e4⟩ := nodeOf_eq e
    have eo : x.o = r.o := by
      cases hxo : x.o with
      | true =>
        cases hro : r.o with
        | true => rfl
        | false => exact (eff_opaque ha hb hlen he hx hr e3 hup hxo (e1.symm.trans ((fault_more (ha.fine x hx)).1 hxo)) hro).elim
      | false =>
        cases hro : r.o with
        | false => rfl
        | true => exact (eff_opaque hb ha (by omega) he' hr hx e3.symm (fun c hc => (hup c (by rw [e3]; exact hc)).symm) hro (e1.trans ((fault_more (hb.fine r hr)).1 hro)) hxo).elim
    rw [R_ext e1 e2 e3 e4 eo]
    exact hr
/-- (e) TWO CANONICAL LAYERS THAT HAVE THE SAME EFFECT ON EVERY TREE ARE ONE. -/
theorem canon_unique {a b : List R} (ha : Canon a) (hb : Canon b) (hlen : a.length + b.length < 4096) (he : ∀ t, IsTree t → applyL a t = applyL b t) : a = b := by
  have he' : ∀ t, IsTree t → applyL b t = applyL a t := fun t ht => (he t ht).symm
  have step : ∀ q : ByteArray, (∀ c ∈ ups q, recAt a c = recAt b c) → recAt a q = recAt b q := by
    intro q hup
    cases hx : recAt a q with
    | some x =>
      obtain ⟨hm, hp⟩ := recAt_mem hx
      have := eff_half ha hb hlen he hm (by rw [hp]; exact hup)
      rw [← hp, recAt_of hb.layer.sorted this]
    | none =>
      cases hy : recAt b q with
      | none => rfl
      | some y =>
        obtain ⟨hm, hp⟩ := recAt_mem hy
        have := eff_half hb ha (by omega) he' hm (by rw [hp]; exact fun c hc => (hup c hc).symm)
        exact absurd hp (recAt_none hx y this)
  have hall : ∀ q : ByteArray, pathB q.data.toList = true → recAt a q = recAt b q ∧ ∀ c ∈ ups q, recAt a c = recAt b c := by
    intro q hq
    refine path_ind (P := fun q => recAt a q = recAt b q ∧ ∀ c ∈ ups q, recAt a c = recAt b c) ?_ ?_ q hq
    · intro q hq hp
      have h0 : ∀ c ∈ ups q, recAt a c = recAt b c := by
        intro c hc
        rw [ups_step hq, if_pos hp] at hc
        cases hc
      exact ⟨step q h0, h0⟩
    · intro q hq hp h1 ih
      have h0 : ∀ c ∈ ups q, recAt a c = recAt b c := by
        intro c hc
        rw [ups_step hq, if_neg hp] at hc
        rcases List.mem_cons.1 hc with rfl | hc
        · exact ih.1
        · exact ih.2 c hc
      exact ⟨step q h0, h0⟩
  refine sorted_ext _ _ ha.layer.sorted hb.layer.sorted fun x => ⟨fun hx => ?_, fun hx => ?_⟩
  · have := (hall x.p (ha.layer.path x hx)).1
    rw [recAt_of ha.layer.sorted hx] at this
    exact (recAt_mem this.symm).1
  · have := (hall x.p (hb.layer.path x hx)).1
    rw [recAt_of hb.layer.sorted hx] at this
    exact (recAt_mem this).1
end Go.Proofs.YtcbmnihepeefaaaDoor.Recs

/- Combining layers, plain: the combination is canonical; combining is associative; the combination of a stack has the effect of applying its layers in order, and no other canonical layer has it. -/

namespace Go.Proofs.YtcbmnihepeefaaaDoor.Recs
open Go.RowKit Paths

/-- A layer of valid records. -/
structure Fine (l : List R) : Prop where
  layer : IsLayer l
  fine : ∀ x ∈ l, x.fault = 0
theorem fine_layer {l : List R} (h : layerOK l = true) : Fine l := ⟨layer_is h, fun _ hx => layer_rec h hx⟩
theorem fine_nil : Fine [] := ⟨⟨List.Pairwise.nil, (fun _ h => by cases h), (fun _ h => by cases h)⟩, (fun _ h => by cases h)⟩
theorem fine_ok {l : List R} (h : Fine l) (hl : l.length ≤ 16) : layerOK l = true := layerOK_of hl h.fine h.layer.sorted h.layer.housed

theorem canon_fine {l : List R} (h : Fine l) : Canon (canonL l) := by
  refine ⟨⟨canon_sorted h.layer.sorted, ?_, canon_path h.layer.path⟩, canon_idem h.layer.sorted, ?_⟩
  · intro x hx hp
    obtain ⟨r, hr, he⟩ := mem_canon.1 hx
    rw [(canonR_path he).1] at hp ⊢
    obtain ⟨q, hq, h1, h2⟩ := h.layer.housed r hr hp
    obtain ⟨y, hy⟩ := canonR_dir (l := l) h2
    obtain ⟨f1, f2, _⟩ := canonR_path hy
    exact ⟨y, mem_canon.2 ⟨q, hq, hy⟩, f1.trans h1, f2.trans h2⟩
  · intro x hx
    obtain ⟨r, hr, he⟩ := mem_canon.1 hx
    exact canonR_fault he (h.fine r hr)
theorem Canon.isFine {l : List R} (h : Canon l) : Fine l := ⟨h.layer, h.fine⟩
theorem over_fault {a : List R} {y : R} (h : y.fault = 0) : (overO a y).fault = 0 := by
  obtain ⟨h1, h2, h3, h4, h5⟩ := overO_same a y
  cases ho : (overO a y).o with
  | false =>
    have hy : y.o = false := by
      cases hyo : y.o with
      | false => rfl
      | true => rw [h5 hyo] at ho; cases ho
    rw [show overO a y = y from R_ext h2 h4 h1 h3 (ho.trans hy.symm)]
    exact h
  | true =>
    by_cases hy : y.o = true
    · rw [show overO a y = y from R_ext h2 h4 h1 h3 (ho.trans hy.symm)]
      exact h
    · have hk : y.k = 3 := by
        unfold overO at ho
        split at ho
        · unfold overR at ho
          split at ho
          · rename_i hh; exact hh.1
          · exact absurd ho hy
        · exact absurd ho hy
      unfold R.fault at h ⊢
      rw [h1, h2, h3, h4, ho]
      unfold faultI at h ⊢
      split at h
      · cases h
      split at h
      · cases h
      split at h
      · cases h
      split at h
      · cases h
      split at h
      · cases h
      rename_i a1 a2 a3 a4 a5
      rw [if_neg a1, if_neg a2, if_neg a3, if_neg (fun hh => by
        rcases hh with hh | hh
        · exact a4 (.inl hh)
        · exact hh.2 hk), if_neg a5]
theorem two_fine {a b : List R} (ha : Fine a) (hb : Fine b) : Fine (two a b) := by
  refine ⟨two_layer ha.layer hb.layer, fun z hz => ?_⟩
  rcases (mem_two b a b ha.layer.sorted hb.layer.sorted z).1 hz with ⟨y, hy, rfl⟩ | ⟨h, _⟩
  · exact over_fault (hb.fine y hy)
  · exact ha.fine z h
theorem squash_canon {a b : List R} (ha : Fine a) (hb : Fine b) : Canon (squashL a b) := canon_fine (two_fine ha hb)
theorem two_len (u : List R) : ∀ a b : List R, (twoL u a b).length ≤ a.length + b.length
  | [], b => by rw [twoL]; simp
  | x :: a, [] => by
    have ih := two_len u a []
    rw [twoL]
    split <;> simp at ih ⊢ <;> omega
  | x :: a, y :: b => by
    have i1 := two_len u a (y :: b)
    have i2 := two_len u (x :: a) b
    have i3 := two_len u a b
    rw [twoL]
    split
    · split <;> simp at i1 ⊢ <;> omega
    · split <;> simp at i2 i3 ⊢ <;> omega
termination_by a b => a.length + b.length
theorem squash_len (a b : List R) : (squashL a b).length ≤ a.length + b.length := by
  have h1 := List.length_filterMap_le (canonR (two a b)) (two a b)
  have h2 := two_len b a b
  unfold squashL canonL
  unfold two at h1 ⊢
  omega
/-- (f) Combining is associative. -/
theorem squash_assoc {a b c : List R} (ha : Fine a) (hb : Fine b) (hc : Fine c) (hlen : a.length + b.length + c.length < 2048) : squashL (squashL a b) c = squashL a (squashL b c) := by
  have hab := (squash_canon ha hb).isFine
  have hbc := (squash_canon hb hc).isFine
  refine canon_unique (squash_canon hab hc) (squash_canon ha hbc) ?_ fun t ht => ?_
  · have h1 := squash_len (squashL a b) c
    have h2 := squash_len a b
    have h3 := squash_len a (squashL b c)
    have h4 := squash_len b c
    omega
  · rw [apply_squash hab.layer hc.layer ht, apply_squash ha.layer hb.layer ht, apply_squash ha.layer hbc.layer ht, apply_squash hb.layer hc.layer (apply_tree ha.layer ht)]

/-- The combination of a stack: an empty layer with the lowest one, the result with the next one, and so on. -/
def squashAllL (s : List (List R)) : List R := s.foldl squashL []
def applyAllL (s : List (List R)) (t : List R) : List R := s.foldl (fun x l => applyL l x) t
theorem foldl_squash (s : List (List R)) (hs : ∀ l ∈ s, Fine l) : ∀ c, Canon c → Canon (s.foldl squashL c) ∧ ∀ t, IsTree t → applyL (s.foldl squashL c) t = applyAllL s (applyL c t) := by
  induction s with
  | nil => exact fun c hc => ⟨hc, fun _ _ => rfl⟩
  | cons l s ih =>
    intro c hc
    have hl := hs l (by simp)
    have h1 := squash_canon hc.isFine hl
    obtain ⟨h2, h3⟩ := ih (fun x hx => hs x (by simp [hx])) (squashL c l) h1
    refine ⟨h2, fun t ht => ?_⟩
    show applyL (s.foldl squashL (squashL c l)) t = applyAllL s (applyL l (applyL c t))
    rw [h3 t ht, apply_squash hc.layer hl.layer ht]
theorem canon_nil : Canon [] := ⟨fine_nil.layer, rfl, fine_nil.fine⟩
/-- (g) The combination of a stack has the effect of applying its layers in order. -/
theorem apply_squashAll {s : List (List R)} (hs : ∀ l ∈ s, Fine l) {t : List R} (ht : IsTree t) : applyL (squashAllL s) t = applyAllL s t := (foldl_squash s hs [] canon_nil).2 t ht
theorem squashAll_canon {s : List (List R)} (hs : ∀ l ∈ s, Fine l) : Canon (squashAllL s) := (foldl_squash s hs [] canon_nil).1
/-- Whatever canonical layer has the effect of a stack is its combination: the order of combining does not matter. -/
theorem squashAll_only {s : List (List R)} (hs : ∀ l ∈ s, Fine l) {c : List R} (hc : Canon c) (hlen : c.length + (squashAllL s).length < 4096) (he : ∀ t, IsTree t → applyL c t = applyAllL s t) : c = squashAllL s :=
  canon_unique hc (squashAll_canon hs) hlen fun t ht => by rw [he t ht, apply_squashAll hs ht]
/-- An empty layer changes nothing; combined with another it gives the canonical form of that. -/
theorem squash_nil_left {a : List R} (ha : Fine a) (hlen : a.length < 1024) : squashL [] a = canonL a := by
  refine canon_unique (squash_canon fine_nil ha) (canon_fine ha) ?_ fun t ht => ?_
  · have h1 := squash_len [] a
    have h2 := List.length_filterMap_le (canonR a) a
    unfold canonL
    simp at h1
    omega
  · rw [apply_squash fine_nil.layer ha.layer ht, apply_canon ha.layer.sorted ha.layer.path ht]
    rfl
theorem squash_nil_right {a : List R} (ha : Fine a) (hlen : a.length < 1024) : squashL a [] = canonL a := by
  refine canon_unique (squash_canon ha fine_nil) (canon_fine ha) ?_ fun t ht => ?_
  · have h1 := squash_len a []
    have h2 := List.length_filterMap_le (canonR a) a
    unfold canonL
    simp at h1
    omega
  · rw [apply_squash ha.layer fine_nil.layer ht, apply_canon ha.layer.sorted ha.layer.path ht]
    rfl
end Go.Proofs.YtcbmnihepeefaaaDoor.Recs
