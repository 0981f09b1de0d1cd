/- Parts of several texts of mine in one file (each begins with its own remark). -/
import Derived.Test.YtcbmnihepeefaaaGreatDoorCA1
import Derived.Test.YtcbmnihepeefaaaGreatDoorCA10
import Derived.Test.YtcbmnihepeefaaaGreatDoorCA2
import Derived.Test.YtcbmnihepeefaaaGreatDoorCA3
import Derived.Test.YtcbmnihepeefaaaGreatDoorCA4
import Derived.Test.YtcbmnihepeefaaaGreatDoorCA5
import Derived.Test.YtcbmnihepeefaaaGreatDoorCA6
import Derived.Test.YtcbmnihepeefaaaGreatDoorCA8
import Derived.Test.YtcbmnihepeefaaaGreatDoorCA9
import Derived.Test.YtcbmnihepeefaaaGreatDoorCC1
import Derived.Test.YtcbmnihepeefaaaGreatDoorCC2
import Derived.Test.YtcbmnihepeefaaaGreatDoorChecked
import Derived.Test.YtcbmnihepeefaaaGreatDoorRows
import Derived.Test.YtcbmnihepeefaaaGreatDoorProg
import Derived.Test.YtcbmnihepeefaaaGreatDoorShelf
import Derived.Deep.Slices
import Derived.OpenShut
import Derived.ShutString
import Derived.ChangeArms
import Derived.WideShapes
import Derived.Lib.LaidTab
import Derived.BigQuiet
import Derived.Deep.QuietTactic
import Derived.Deep.RegionHeld3
import Derived.StillTailTactics
import Derived.Deep.Draws
import Derived.Deep.LoopGhost
import Derived.WalkKit
import Derived.WalkSpells
import Derived.WalkSmall
import Derived.Lib.OthersKept
import Derived.Lib.Hide
import Derived.Lib.Strings
import Derived.Lib.Join
import Derived.Laws.OwnMore
import Derived.BigRegion
import Derived.Laws.BytesArg
import Derived.Deep.RegionWith
import Derived.OneCell
import Derived.Lib.SliceRun
import Derived.Lib.Overlaps
import Derived.Lib.AppendZerosOnto
import Derived.Laws.NewBlocks
import Derived.Laws.IdiomCopy
import Derived.Deep.RegionLaw
import Derived.ChangeVars
import Derived.Deep.DeepHandedRow
import Derived.LaidEql
import Derived.Stop.Asserts
import Derived.Below
import Derived.Stop.LaidErr
import Derived.Stop.LaidTwo
import Derived.WalkLawsBesides
/- The combination of two layers, plain: what it holds; it is a layer but for its length; it has the same effect on every tree as applying one after the other. -/
namespace Go.Proofs.YtcbmnihepeefaaaGreatDoor.Recs
open Go.RowKit Paths

/-- What the upper record becomes over what the lower layer has of its path. -/
def overO (a : List R) (y : R) : R := match recAt a y.p with | some x => overR x y | none => y
theorem overR_same (x y : R) : (overR x y).p = y.p ∧ (overR x y).k = y.k ∧ (overR x y).b = y.b ∧ (overR x y).m = y.m ∧ (y.o = true → (overR x y).o = true) := by
  unfold overR
  split
  · exact ⟨rfl, rfl, rfl, rfl, fun _ => rfl⟩
  · exact ⟨rfl, rfl, rfl, rfl, fun h => h⟩
theorem overO_same (a : List R) (y : R) : (overO a y).p = y.p ∧ (overO a y).k = y.k ∧ (overO a y).b = y.b ∧ (overO a y).m = y.m ∧ (y.o = true → (overO a y).o = true) := by
  unfold overO
  split
  · exact overR_same _ _
  · exact ⟨rfl, rfl, rfl, rfl, fun h => h⟩

theorem recAt_cons_ne {x : R} {a : List R} {q : ByteArray} (h : x.p ≠ q) : recAt (x :: a) q = recAt a q := by
  unfold recAt
  rw [List.find?_cons_of_neg (by simpa using h)]
theorem recAt_cons_eq {x : R} {a : List R} {q : ByteArray} (h : x.p = q) : recAt (x :: a) q = some x := by
  unfold recAt
  rw [List.find?_cons_of_pos (by simpa using h)]
theorem recAt_less {a : List R} {y : R} (h : ∀ x ∈ a, lessR y x = true) : recAt a y.p = none := by
  cases hr : recAt a y.p with
  | none => rfl
  | some x =>
    obtain ⟨h1, h2⟩ := recAt_mem hr
    exact absurd h2.symm (less_ne (h x h1))

theorem mem_two (u : List R) : ∀ a b : List R, Sorted a → Sorted b → ∀ z, z ∈ twoL u a b ↔ (∃ y ∈ b, z = overO a y) ∨ (z ∈ a ∧ recAt b z.p = none ∧ cutsL u z.p = false)
  | [], b, _, _, z => by
    rw [twoL]
    simp [overO, recAt]
  | x :: a, [], ha, hb, z => by
    unfold Sorted at ha
    rw [List.pairwise_cons] at ha
    have ih := mem_two u a [] ha.2 hb z
    rw [twoL]
    split
    · rename_i hc
      rw [ih]
      simp only [List.not_mem_nil, false_and, exists_false, false_or, List.mem_cons]
      constructor
      · rintro ⟨h1, h2⟩; exact ⟨.inr h1, h2⟩
      · rintro ⟨rfl | h1, h2, h3⟩
        · rw [hc] at h3; cases h3
        · exact ⟨h1, h2, h3⟩
    · rename_i hc
      rw [List.mem_cons, ih]
      simp only [List.not_mem_nil, false_and, exists_false, false_or, List.mem_cons]
      constructor
      · rintro (rfl | ⟨h1, h2⟩)
        · exact ⟨.inl rfl, rfl, by simpa using hc⟩
        · exact ⟨.inr h1, h2⟩
      · rintro ⟨rfl | h1, h2⟩
        · exact .inl rfl
        · exact .inr ⟨h1, h2⟩
  | x :: a, y :: b, ha, hb, z => by
    have ha' := ha
    have hb' := hb
    unfold Sorted at ha hb
    rw [List.pairwise_cons] at ha hb
    rw [twoL]
    split
    · rename_i hxy
      have ih := mem_two u a (y :: b) ha.2 hb' z
      -- x stands in no record of the upper list
      have hnx : recAt (y :: b) x.p = none := recAt_less fun w hw => by
        rcases List.mem_cons.1 hw with rfl | hw
        · exact hxy
        · exact lessP_trans _ _ _ hxy (hb.1 w hw)
      have hov : ∀ w ∈ y :: b, overO (x :: a) w = overO a w := by
        intro w hw
        have hne : x.p ≠ w.p := by
          rcases List.mem_cons.1 hw with rfl | hw
          · exact less_ne hxy
          · exact less_ne (lessP_trans _ _ _ hxy (hb.1 w hw) : lessR x w = true)
        unfold overO
        rw [recAt_cons_ne hne]
      have hex : (∃ w ∈ y :: b, z = overO (x :: a) w) ↔ ∃ w ∈ y :: b, z = overO a w :=
        ⟨fun ⟨w, hw, e⟩ => ⟨w, hw, by rw [e, hov w hw]⟩, fun ⟨w, hw, e⟩ => ⟨w, hw, by rw [e, hov w hw]⟩⟩
      rw [hex]
      split
      · rename_i hc
        rw [ih]
        constructor
        · rintro (h | ⟨h1, h2⟩)
          · exact .inl h
          · exact .inr ⟨List.mem_cons_of_mem _ h1, h2⟩
        · rintro (h | ⟨h1, h2, h3⟩)
          · exact .inl h
          · rcases List.mem_cons.1 h1 with rfl | h1
            · rw [hc] at h3; cases h3
            · exact .inr ⟨h1, h2, h3⟩
      · rename_i hc
        rw [List.mem_cons, ih]
        constructor
        · rintro (rfl | h | ⟨h1, h2⟩)
          · exact .inr ⟨by simp, hnx, by simpa using hc⟩
          · exact .inl h
          · exact .inr ⟨List.mem_cons_of_mem _ h1, h2⟩
        · rintro (h | ⟨h1, h2⟩)
          · exact .inr (.inl h)
          · rcases List.mem_cons.1 h1 with rfl | h1
            · exact .inl rfl
            · exact .inr (.inr ⟨h1, h2⟩)
    · rename_i hxy
      split
      · rename_i hyx
        have ih := mem_two u (x :: a) b ha' hb.2 z
        have hny : recAt (x :: a) y.p = none := recAt_less fun w hw => by
          rcases List.mem_cons.1 hw with rfl | hw
          · exact hyx
          · exact lessP_trans _ _ _ hyx (ha.1 w hw)
        have hy0 : overO (x :: a) y = y := by unfold overO; rw [hny]
        have hb0 : ∀ w ∈ x :: a, recAt (y :: b) w.p = recAt b w.p := by
          intro w hw
          refine recAt_cons_ne ?_
          rcases List.mem_cons.1 hw with rfl | hw
          · exact less_ne hyx
          · exact less_ne (lessP_trans _ _ _ hyx (ha.1 w hw) : lessR y w = true)
        rw [List.mem_cons, ih]
        constructor
        · rintro (rfl | ⟨w, hw, e⟩ | ⟨h1, h2, h3⟩)
          · exact .inl ⟨z, by simp, hy0.symm⟩
          · exact .inl ⟨w, List.mem_cons_of_mem _ hw, e⟩
          · exact .inr ⟨h1, by rw [hb0 z h1]; exact h2, h3⟩
        · rintro (⟨w, hw, e⟩ | ⟨h1, h2, h3⟩)
          · rcases List.mem_cons.1 hw with rfl | hw
            · exact .inl (e.trans hy0)
            · exact .inr (.inl ⟨w, hw, e⟩)
          · exact .inr (.inr ⟨h1, by rw [← hb0 z h1]; exact h2, h3⟩)
      · rename_i hyx
        have exy : x.p = y.p := by
          refine Classical.byContradiction fun hne => ?_
          rcases less_or hne with h | h
          · exact hxy h
          · exact hyx h
        have ih := mem_two u a b ha.2 hb.2 z
        have hy0 : overO (x :: a) y = overR x y := by unfold overO; rw [recAt_cons_eq exy]
        have hov : ∀ w ∈ b, overO (x :: a) w = overO a w := by
          intro w hw
          unfold overO
          rw [recAt_cons_ne (by rw [exy]; exact less_ne (hb.1 w hw))]
        have hb0 : ∀ w ∈ a, recAt (y :: b) w.p = recAt b w.p := by
          intro w hw
          exact recAt_cons_ne (by rw [← exy]; exact less_ne (ha.1 w hw))
        rw [List.mem_cons, ih]
        constructor
        · rintro (rfl | ⟨w, hw, e⟩ | ⟨h1, h2, h3⟩)
          · exact .inl ⟨y, by simp, hy0.symm⟩
          · exact .inl ⟨w, List.mem_cons_of_mem _ hw, by rw [e, hov w hw]⟩
          · exact .inr ⟨List.mem_cons_of_mem _ h1, by rw [hb0 z h1]; exact h2, h3⟩
        · rintro (⟨w, hw, e⟩ | ⟨h1, h2, h3⟩)
          · rcases List.mem_cons.1 hw with rfl | hw
            · exact .inl (e.trans hy0)
            · exact .inr (.inl ⟨w, hw, by rw [e, hov w hw]⟩)
          · rcases List.mem_cons.1 h1 with rfl | h1
            · rw [recAt_cons_eq exy.symm] at h2; cases h2
            · exact .inr (.inr ⟨h1, by rw [← hb0 z h1]; exact h2, h3⟩)
termination_by a b => a.length + b.length
end Go.Proofs.YtcbmnihepeefaaaGreatDoor.Recs

/- The combination of two layers, plain: its effect on every tree is that of applying one after the other. -/
namespace Go.Proofs.YtcbmnihepeefaaaGreatDoor.Recs
open Go.RowKit Paths

theorem less_path {x y z : R} (h : y.p = z.p) : lessR x y = lessR x z := by unfold lessR; rw [h]
theorem less_path' {x y z : R} (h : x.p = y.p) : lessR x z = lessR y z := by unfold lessR; rw [h]
/-- All that follows a record in both lists follows it in the one. -/
theorem two_after {u a b : List R} (ha : Sorted a) (hb : Sorted b) {x : R} (h1 : ∀ w ∈ a, lessR x w = true) (h2 : ∀ w ∈ b, lessR x w = true) : ∀ z ∈ twoL u a b, lessR x z = true := by
  intro z hz
  rcases (mem_two u a b ha hb z).1 hz with ⟨y, hy, rfl⟩ | ⟨h, _⟩
  · rw [less_path (overO_same a y).1]; exact h2 y hy
  · exact h1 z h
theorem two_sorted (u : List R) : ∀ a b : List R, Sorted a → Sorted b → Sorted (twoL u a b)
  | [], b, _, hb => by rw [twoL]; exact hb
  | x :: a, [], ha, hb => by
    unfold Sorted at ha
    rw [List.pairwise_cons] at ha
    have ih := two_sorted u a [] ha.2 hb
    rw [twoL]
    split
    · exact ih
    · exact List.pairwise_cons.2 ⟨two_after ha.2 hb ha.1 (fun w hw => by cases hw), ih⟩
  | x :: a, y :: b, ha, hb => by
    have ha' := ha
    have hb' := hb
    unfold Sorted at ha hb
    rw [List.pairwise_cons] at ha hb
    rw [twoL]
    split
    · rename_i hxy
      have ih := two_sorted u a (y :: b) ha.2 hb'
      split
      · exact ih
      · refine List.pairwise_cons.2 ⟨two_after ha.2 hb' ha.1 (fun w hw => ?_), ih⟩
        rcases List.mem_cons.1 hw with rfl | hw
        · exact hxy
        · exact lessP_trans _ _ _ hxy (hb.1 w hw)
    · rename_i hxy
      split
      · rename_i hyx
        refine List.pairwise_cons.2 ⟨two_after ha' hb.2 (fun w hw => ?_) hb.1, two_sorted u (x :: a) b ha' hb.2⟩
        rcases List.mem_cons.1 hw with rfl | hw
        · exact hyx
        · exact lessP_trans _ _ _ hyx (ha.1 w hw)
      · rename_i hyx
        have exy : x.p = y.p := by
          refine Classical.byContradiction fun hne => ?_
          rcases less_or hne with h | h
          · exact hxy h
          · exact hyx h
        refine List.pairwise_cons.2 ⟨two_after ha.2 hb.2 (fun w hw => ?_) (fun w hw => ?_), two_sorted u a b ha.2 hb.2⟩
        · rw [less_path' ((overR_same x y).1.trans exy.symm)]; exact ha.1 w hw
        · rw [less_path' (overR_same x y).1]; exact hb.1 w hw
termination_by a b => a.length + b.length

def squashL (a b : List R) : List R := canonL (two a b)
section
variable {a b : List R} (ha : IsLayer a) (hb : IsLayer b)
include ha hb
theorem two_recAt (q : ByteArray) : recAt (two a b) q = match recAt b q with | some y => some (overO a y) | none => if cutsL b q then none else recAt a q := by
  have hs := two_sorted b a b ha.sorted hb.sorted
  have hm := mem_two b a b ha.sorted hb.sorted
  cases hr : recAt b q with
  | some y =>
    obtain ⟨h1, h2⟩ := recAt_mem hr
    have hin : overO a y ∈ two a b := (hm _).2 (.inl ⟨y, h1, rfl⟩)
    have e := recAt_of hs hin
    rw [(overO_same a y).1, h2] at e
    exact e
  | none =>
    show recAt (two a b) q = if cutsL b q then none else recAt a q
    cases hc : recAt (two a b) q with
    | some z =>
      obtain ⟨h1, h2⟩ := recAt_mem hc
      rcases (hm z).1 h1 with ⟨y, hy, rfl⟩ | ⟨h3, h4, h5⟩
      · exact absurd ((overO_same a y).1.symm.trans h2) (recAt_none hr y hy)
      · rw [h2] at h5
        rw [if_neg (by rw [h5]; decide), ← h2, recAt_of ha.sorted h3]
    | none =>
      split
      · rfl
      · rename_i hcut
        cases hx : recAt a q with
        | none => rfl
        | some x =>
          obtain ⟨h1, h2⟩ := recAt_mem hx
          exact absurd h2 (recAt_none hc x ((hm x).2 (.inr ⟨h1, by rw [h2]; exact hr, by rw [h2]; simpa using hcut⟩)))
theorem two_path : ∀ z ∈ two a b, pathB z.p.data.toList = true := by
  intro z hz
  rcases (mem_two b a b ha.sorted hb.sorted z).1 hz with ⟨y, hy, rfl⟩ | ⟨h, _⟩
  · rw [(overO_same a y).1]; exact hb.path y hy
  · exact ha.path z h
omit ha hb in
theorem stops_over {y : R} (h : stops y = true) : stops (overO a y) = true := by
  obtain ⟨_, h2, _, _, h5⟩ := overO_same a y
  unfold stops at h ⊢
  rw [h2]
  simp only [Bool.or_eq_true] at h ⊢
  rcases h with h | h
  · exact .inl h
  · exact .inr (h5 h)
omit ha hb in
theorem stops_over_low {x y : R} (hx : recAt a y.p = some x) (h : stops x = true) : stops (overO a y) = true := by
  unfold overO
  rw [hx]
  show stops (overR x y) = true
  unfold overR
  split
  · simp [stops]
  · rename_i hn
    have : ¬ y.k = 3 := fun e => hn ⟨e, h⟩
    simp [stops, this]
/-- What the combination cuts off is what one of the two does. -/
theorem two_cuts {q : ByteArray} (h : pathB q.data.toList = true) : cutsL (two a b) q = (cutsL a q || cutsL b q) := by
  have hlow : ∀ q : ByteArray, pathB q.data.toList = true → cutsL b q = true → cutsL (two a b) q = true := by
    intro q _ hc
    obtain ⟨c, hcu, y, hy, hst⟩ := cuts_get hc
    exact cuts_at hcu (r := overO a y) (by rw [two_recAt ha hb, hy]) (stops_over hst)
  rw [Bool.eq_iff_iff, Bool.or_eq_true]
  constructor
  · intro hc
    obtain ⟨c, hcu, z, hz, hst⟩ := cuts_get hc
    rw [two_recAt ha hb] at hz
    cases hr : recAt b c with
    | some y =>
      rw [hr] at hz
      cases hz
      obtain ⟨_, hyp⟩ := recAt_mem hr
      rcases Bool.eq_false_or_eq_true (stops y) with hy | hy
      · exact .inr (cuts_at hcu hr hy)
      · cases hx : recAt a y.p with
        | none =>
          have e : overO a y = y := by unfold overO; rw [hx]
          rw [e, hy] at hst
          cases hst
        | some x =>
          rcases Bool.eq_false_or_eq_true (stops x) with hsx | hsx
          · exact .inl (cuts_at hcu (by rw [← hyp]; exact hx) hsx)
          · have e : overO a y = y := by
              unfold overO
              rw [hx]
              show overR x y = y
              unfold overR
              rw [if_neg (fun hh => by rw [hsx] at hh; cases hh.2)]
            rw [e, hy] at hst
            cases hst
    | none =>
      rw [hr] at hz
      have hz' : (if cutsL b c then none else recAt a c) = some z := hz
      split at hz'
      · cases hz'
      · exact .inl (cuts_at hcu hz' hst)
  · rintro (hc | hc)
    · obtain ⟨c, hcu, x, hx, hst⟩ := cuts_get hc
      have hcp := ups_path h c hcu
      cases hr : recAt b c with
      | some y =>
        obtain ⟨_, hyp⟩ := recAt_mem hr
        exact cuts_at hcu (r := overO a y) (by rw [two_recAt ha hb, hr]) (stops_over_low (by rw [hyp]; exact hx) hst)
      | none =>
        rcases Bool.eq_false_or_eq_true (cutsL b c) with h2 | h2
        · exact cuts_up h hcu (hlow c hcp h2)
        · exact cuts_at hcu (r := x) (by rw [two_recAt ha hb, hr]; show (if cutsL b c then none else recAt a c) = some x; rw [if_neg (by rw [h2]; decide)]; exact hx) hst
    · exact hlow q h hc
omit ha hb in
theorem nodeOf_over (a : List R) (y : R) : nodeOf (overO a y) = nodeOf y := by
  obtain ⟨h1, h2, h3, h4, _⟩ := overO_same a y
  unfold nodeOf
  rw [h1, h2, h3, h4]
/-- (d) THE COMBINATION HAS THE SAME EFFECT ON EVERY TREE AS APPLYING ONE AFTER THE OTHER. -/
theorem apply_two {t : List R} (ht : IsTree t) : applyL (two a b) t = applyL b (applyL a t) := by
  have h1 := apply_tree ha ht
  have hs : Sorted (two a b) := two_sorted b a b ha.sorted hb.sorted
  refine sorted_ext _ _ (apply_sorted _ ht.sorted) (apply_sorted _ h1.sorted) fun x => ?_
  rw [mem_apply ht _ hs (two_path ha hb), mem_apply h1 _ hb.sorted hb.path, mem_apply ht _ ha.sorted ha.path]
  constructor
  · rintro (⟨z, hz, hk, rfl⟩ | ⟨hx, h2, h3⟩)
    · rcases (mem_two b a b ha.sorted hb.sorted z).1 hz with ⟨y, hy, rfl⟩ | ⟨h4, h5, h6⟩
      · exact .inl ⟨y, hy, by rw [← (overO_same a y).2.1]; exact hk, nodeOf_over a y⟩
      · exact .inr ⟨.inl ⟨z, h4, hk, rfl⟩, h5, h6⟩
    · rw [two_cuts ha hb (ht.path x hx), Bool.or_eq_false_iff] at h3
      rw [two_recAt ha hb] at h2
      cases hr : recAt b x.p with
      | some y => rw [hr] at h2; cases h2
      | none =>
        rw [hr] at h2
        have h2' : (if cutsL b x.p then none else recAt a x.p) = none := h2
        rw [if_neg (by rw [h3.2]; decide)] at h2'
        exact .inr ⟨.inr ⟨hx, h2', h3.1⟩, rfl, h3.2⟩
  · rintro (⟨y, hy, hk, rfl⟩ | ⟨⟨r, hr, hk, rfl⟩ | ⟨hx, h4, h5⟩, h2, h3⟩)
    · exact .inl ⟨overO a y, (mem_two b a b ha.sorted hb.sorted _).2 (.inl ⟨y, hy, rfl⟩), by rw [(overO_same a y).2.1]; exact hk, (nodeOf_over a y).symm⟩
    · exact .inl ⟨r, (mem_two b a b ha.sorted hb.sorted _).2 (.inr ⟨hr, h2, h3⟩), hk, rfl⟩
    · refine .inr ⟨hx, ?_, ?_⟩
      · rw [two_recAt ha hb, h2]
        show (if cutsL b x.p then none else recAt a x.p) = none
        rw [if_neg (by rw [h3]; decide)]
        exact h4
      · rw [two_cuts ha hb (ht.path x hx), h5, h3]
        rfl
/-- The same of its canonical form. -/
theorem apply_squash {t : List R} (ht : IsTree t) : applyL (squashL a b) t = applyL b (applyL a t) := by
  unfold squashL
  rw [apply_canon (show Sorted (two a b) from two_sorted b a b ha.sorted hb.sorted) (two_path ha hb) ht, apply_two ha hb ht]
theorem two_housed : Housed (two a b) := by
  have hm := mem_two b a b ha.sorted hb.sorted
  intro z hz hp
  rcases (hm z).1 hz with ⟨y, hy, rfl⟩ | ⟨h1, h2, h3⟩
  · rw [(overO_same a y).1] at hp ⊢
    obtain ⟨w, hw, hwp, hwk⟩ := hb.housed y hy hp
    exact ⟨overO a w, (hm _).2 (.inl ⟨w, hw, rfl⟩), (overO_same a w).1.trans hwp, (overO_same a w).2.1.trans hwk⟩
  · obtain ⟨r, hr, hrp, hrk⟩ := ha.housed z h1 hp
    have hup := parent_up (ha.path z h1) hp
    cases hc : recAt b (parO z.p) with
    | some y =>
      obtain ⟨hy, hyp⟩ := recAt_mem hc
      have hst : stops y = false := by
        rcases Bool.eq_false_or_eq_true (stops y) with h | h
        · rw [cuts_at hup hc h] at h3; cases h3
        · exact h
      exact ⟨overO a y, (hm _).2 (.inl ⟨y, hy, rfl⟩), (overO_same a y).1.trans hyp, (overO_same a y).2.1.trans (stops_no hst).1⟩
    | none =>
      refine ⟨r, (hm r).2 (.inr ⟨hr, by rw [hrp]; exact hc, ?_⟩), hrp, hrk⟩
      rw [hrp]
      rcases Bool.eq_false_or_eq_true (cutsL b (parO z.p)) with h | h
      · rw [cuts_up (ha.path z h1) hup h] at h3; cases h3
      · exact h
theorem two_layer : IsLayer (two a b) := ⟨two_sorted b a b ha.sorted hb.sorted, two_housed ha hb, two_path ha hb⟩
end
end Go.Proofs.YtcbmnihepeefaaaGreatDoor.Recs

/- The canonical form is told by the effect: two canonical layers that have the same effect on every tree are one; so combining is associative. -/
namespace Go.Proofs.YtcbmnihepeefaaaGreatDoor.Recs
open Go.RowKit Paths

theorem R_ext {x r : R} (h1 : x.k = r.k) (h2 : x.m = r.m) (h3 : x.p = r.p) (h4 : x.b = r.b) (h5 : x.o = r.o) : x = r := by
  obtain ⟨a, b, c, d, e⟩ := x
  obtain ⟨a', b', c', d', e'⟩ := r
  simp only at h1 h2 h3 h4 h5
  subst h1 h2 h3 h4 h5
  rfl

section
variable {a b : List R} (ha : Canon a) (hb : Canon b) (hlen : a.length + b.length < 4096) (he : ∀ t, IsTree t → applyL a t = applyL b t)
include ha hb he
include hlen
end
end Go.Proofs.YtcbmnihepeefaaaGreatDoor.Recs

/- Combining layers, plain: the combination is canonical; combining is associative; the combination of a stack has the effect of applying its layers in order, and no other canonical layer has it. -/
namespace Go.Proofs.YtcbmnihepeefaaaGreatDoor.Recs
open Go.RowKit Paths

theorem fine_layer {l : List R} (h : layerOK l = true) : Fine l := ⟨layer_is h, fun _ hx => layer_rec h hx⟩
theorem canon_fine {l : List R} (h : Fine l) : Canon (canonL l) := by
  refine ⟨⟨canon_sorted h.layer.sorted, ?_, canon_path h.layer.path⟩, canon_idem h.layer.sorted, ?_⟩
  · intro x hx hp
    obtain ⟨r, hr, he⟩ := mem_canon.1 hx
    rw [(canonR_path he).1] at hp ⊢
    obtain ⟨q, hq, h1, h2⟩ := h.layer.housed r hr hp
    obtain ⟨y, hy⟩ := canonR_dir (l := l) h2
    obtain ⟨f1, f2, _⟩ := canonR_path hy
    exact ⟨y, mem_canon.2 ⟨q, hq, hy⟩, f1.trans h1, f2.trans h2⟩
  · intro x hx
    obtain ⟨r, hr, he⟩ := mem_canon.1 hx
    exact canonR_fault he (h.fine r hr)
theorem Canon.isFine {l : List R} (h : Canon l) : Fine l := ⟨h.layer, h.fine⟩
theorem over_fault {a : List R} {y : R} (h : y.fault = 0) : (overO a y).fault = 0 := by
  obtain ⟨h1, h2, h3, h4, h5⟩ := overO_same a y
  cases ho : (overO a y).o with
  | false =>
    have hy : y.o = false := by
      cases hyo : y.o with
      | false => rfl
      | true => rw [h5 hyo] at ho; cases ho
    rw [show overO a y = y from R_ext h2 h4 h1 h3 (ho.trans hy.symm)]
    exact h
  | true =>
    by_cases hy : y.o = true
    · rw [show overO a y = y from R_ext h2 h4 h1 h3 (ho.trans hy.symm)]
      exact h
    · have hk : y.k = 3 := by
        unfold overO at ho
        split at ho
        · unfold overR at ho
          split at ho
          · rename_i hh; exact hh.1
          · exact absurd ho hy
        · exact absurd ho hy
      unfold R.fault at h ⊢
      rw [h1, h2, h3, h4, ho]
      unfold faultI at h ⊢
      split at h
      · cases h
      split at h
      · cases h
      split at h
      · cases h
      split at h
      · cases h
      split at h
      · cases h
      rename_i a1 a2 a3 a4 a5
      rw [if_neg a1, if_neg a2, if_neg a3, if_neg (fun hh => by
        rcases hh with hh | hh
        · exact a4 (.inl hh)
        · exact hh.2 hk), if_neg a5]
theorem two_fine {a b : List R} (ha : Fine a) (hb : Fine b) : Fine (two a b) := by
  refine ⟨two_layer ha.layer hb.layer, fun z hz => ?_⟩
  rcases (mem_two b a b ha.layer.sorted hb.layer.sorted z).1 hz with ⟨y, hy, rfl⟩ | ⟨h, _⟩
  · exact over_fault (hb.fine y hy)
  · exact ha.fine z h
theorem squash_canon {a b : List R} (ha : Fine a) (hb : Fine b) : Canon (squashL a b) := canon_fine (two_fine ha hb)
theorem two_len (u : List R) : ∀ a b : List R, (twoL u a b).length ≤ a.length + b.length
  | [], b => by rw [twoL]; simp
  | x :: a, [] => by
    have ih := two_len u a []
    rw [twoL]
    split <;> simp at ih ⊢ <;> omega
  | x :: a, y :: b => by
    have i1 := two_len u a (y :: b)
    have i2 := two_len u (x :: a) b
    have i3 := two_len u a b
    rw [twoL]
    split
    · split <;> simp at i1 ⊢ <;> omega
    · split <;> simp at i2 i3 ⊢ <;> omega
termination_by a b => a.length + b.length
theorem squash_len (a b : List R) : (squashL a b).length ≤ a.length + b.length := by
  have h1 := List.length_filterMap_le (canonR (two a b)) (two a b)
  have h2 := two_len b a b
  unfold squashL canonL
  unfold two at h1 ⊢
  omega
end Go.Proofs.YtcbmnihepeefaaaGreatDoor.Recs

/- Stacks: a copy in memory of its own; StackOK of the program and of its model. Conditions (of the program's): the table of kinds, the two sentinels. -/
namespace Go.Proofs.YtcbmnihepeefaaaGreatDoor.Recs
set_option maxRecDepth 100000
open Go.RowKit Paths Errs

/-- A stack. -/
def stackOK (LL : List (List R)) : Bool := decide (LL.length ≤ 5) && LL.all layerOK
def stkE (LL : List (List R)) : EN := if 4096 < LL.length then .long else if stackOK LL then .fine else .inv
theorem ok_short {l : List R} : (decide (l.length ≤ 4096) && layerOK l) = layerOK l := by
  cases h : layerOK l with
  | false => simp
  | true => simp [Nat.le_trans (layer_len h) (by omega : 16 ≤ 4096)]
theorem stack_bad {LL : List (List R)} {j : Nat} (hj : j < LL.length) (h : layerOK LL[j] = false) : stackOK LL = false := by
  unfold stackOK
  have : LL.all layerOK = false := by
    rw [Bool.eq_false_iff]
    intro h2
    have := List.all_eq_true.1 h2 _ (List.getElem_mem hj)
    rw [h] at this
    cases this
  rw [this]
  simp
theorem stack_many {LL : List (List R)} (h : 5 < LL.length) : stackOK LL = false := by
  unfold stackOK
  rw [decide_eq_false (by omega)]
  rfl
theorem stack_good {LL : List (List R)} (h : LL.length ≤ 5) (ha : ∀ l ∈ LL.take LL.length, layerOK l = true) : stackOK LL = true := by
  rw [List.take_of_length_le (Nat.le_refl _)] at ha
  unfold stackOK
  rw [decide_eq_true h, List.all_eq_true.2 ha]
  rfl
theorem take_more {LL : List (List R)} {j : Nat} (hj : j < LL.length) (h : ∀ l ∈ LL.take j, layerOK l = true) (hl : layerOK LL[j] = true) : ∀ l ∈ LL.take (j + 1), layerOK l = true := by
  rw [List.take_succ_eq_append_getElem hj]
  intro l hm
  rcases List.mem_append.1 hm with hm | hm
  · exact h l hm
  · rw [List.mem_singleton.1 hm]; exact hl

set_option maxHeartbeats 800000 in
theorem l05Stack_any (v : Value) (LL : List (List R)) (w : World) (h : StkSl w v LL) (hl : LL.length ≤ 1048576) (hll : ∀ l ∈ LL, l.length ≤ 1048576) :
    Calls Tryz.prog 147 #[v] w fun e w' => e = .returned (.bool (stackOK LL)) ∧ Below w.heap.size w w' := by
  obtain ⟨A, cap, rfl, hcap, h⟩ := h
  have H := Lib.hid h
  have HL := Lib.hid hll
  clear h hll
  by_cases h5 : 5 < LL.length
  · have hd : decide ((5 : Int) < (LL.length : Int)) = true := by simp; omega
    have HE := Lib.hid (stack_many h5)
    go_enter Tryz.func147, Tryz.ntmps147
    go_wp2_with fail
    go_ret
    exact ⟨ret_bool HE.out.symm, Below.refl _ _⟩
  have hd : decide ((5 : Int) < (LL.length : Int)) = false := by simp; omega
  go_enter Tryz.func147, Tryz.ntmps147
  go_wp2
  go_loopw [3] (fun i wr => ∃ (j : Nat), j ≤ LL.length ∧ i = .int .i64 j ∧ Hid (∀ l ∈ LL.take j, layerOK l = true) ∧ Below w.heap.size w wr) (fun i _ => LL.length - (intOf i).toNat)
  case atStart => exact ⟨0, by omega, rfl, (fun l hl => by simp at hl), Below.refl _ _⟩
  case round =>
    obtain ⟨j, hj, rfl, HA, hbw⟩ := hrel
    by_cases hlt : j < LL.length
    · obtain ⟨b, off, rfl, hb, hcell⟩ := H.out (by omega)
      obtain ⟨u, c0, hu⟩ := hcell j LL[j] (by simp [hlt])
      have c0' := (hbw.cell (p := ⟨b, off + j, none⟩) hb).trans c0
      have HE := l03OK_any u LL[j] wr (hu.below hbw) (HL.out _ (List.getElem_mem hlt))
      obtain ⟨uA, ucap, rfl, _⟩ := hu
      clear hcell c0
      have hi1 : (j : Int) < (LL.length : Int) := by omega
      have hi0 : (0 : Int) ≤ (j : Int) := by omega
      go_wp2_with fail
      refine HE.mono ?_
      rintro e w1 ⟨rfl, hb1⟩
      have hbw1 := hbw.trans (hb1.mono hbw.size)
      cases hk : layerOK LL[j] with
      | false =>
        have HB := Lib.hid (stack_bad hlt hk)
        go_wp2_with fail
        go_ret
        exact ⟨ret_bool HB.out.symm, hbw1⟩
      | true =>
        have HB := Lib.hid (take_more hlt HA.out hk)
        go_wp2_with fail
        go_roundw
        case rel => exact ⟨j + 1, by omega, by go_num, HB.out, hbw1⟩
        case measure => simp [intOf]; omega
    · obtain rfl : j = LL.length := by omega
      have HE := Lib.hid (stack_good (by omega) HA.out)
      go_wp2
      go_ret
      exact ⟨ret_bool HE.out.symm, hbw⟩

set_option maxHeartbeats 800000 in
theorem checkStack_any (v : Value) (LL : List (List R)) (x y : Addr) (w : World) (h : StkSl w v LL) (hl : LL.length ≤ 1048576) (hll : ∀ l ∈ LL, l.length ≤ 1048576 ∧ ∀ r ∈ l, r.p.size ≤ maxLen) (hT : Three w x y) :
    Calls Tryz.prog 146 #[v] w fun e w' => e = .returned ((stkE LL).val x y) ∧ Below w.heap.size w w' := by
  obtain ⟨A, cap, rfl, hcap, h⟩ := h
  have H := Lib.hid h
  have HL := Lib.hid hll
  clear h hll
  have hx := hT.long
  have hy := hT.bad
  by_cases h4 : 4096 < LL.length
  · have hd : decide ((4096 : Int) < (LL.length : Int)) = true := by simp; omega
    have HE : Hid (stkE LL = .long) := if_pos h4
    unfold errV at hx
    go_enter Tryz.func146, Tryz.ntmps146
    go_wp2_with fail
    go_ret
    exact ⟨by rw [HE.out]; rfl, Below.refl _ _⟩
  have hd4 : decide ((4096 : Int) < (LL.length : Int)) = false := by simp; omega
  have hinv : stackOK LL = false → stkE LL = .inv := fun hh => by unfold stkE; rw [if_neg h4, hh]; rfl
  have hfine : stackOK LL = true → stkE LL = .fine := fun hh => by unfold stkE; rw [if_neg h4, if_pos hh]
  by_cases h5 : 5 < LL.length
  · have hd : decide ((5 : Int) < (LL.length : Int)) = true := by simp; omega
    have HE := Lib.hid (hinv (stack_many h5))
    clear hinv hfine
    unfold errV at hy
    go_enter Tryz.func146, Tryz.ntmps146
    go_wp2_with fail
    go_ret
    exact ⟨by rw [HE.out]; rfl, Below.refl _ _⟩
  have hd : decide ((5 : Int) < (LL.length : Int)) = false := by simp; omega
  have HINV := Lib.hid hinv
  have HFINE := Lib.hid hfine
  have HT := Lib.hid hT
  clear hinv hfine hx hy hT
  go_enter Tryz.func146, Tryz.ntmps146
  go_wp2
  go_loopw [15] (fun i wr => ∃ (j : Nat), j ≤ LL.length ∧ i = .int .i64 j ∧ Hid (∀ l ∈ LL.take j, layerOK l = true) ∧ Below w.heap.size w wr) (fun i _ => LL.length - (intOf i).toNat)
  case atStart => exact ⟨0, by omega, rfl, (fun l hl => by simp at hl), Below.refl _ _⟩
  case round =>
    obtain ⟨j, hj, rfl, HA, hbw⟩ := hrel
    by_cases hlt : j < LL.length
    · obtain ⟨b, off, rfl, hb, hcell⟩ := H.out (by omega)
      obtain ⟨u, c0, hu⟩ := hcell j LL[j] (by simp [hlt])
      have c0' := (hbw.cell (p := ⟨b, off + j, none⟩) hb).trans c0
      have hTr := HT.out.below hbw (Nat.le_refl _)
      obtain ⟨hl1, hl2⟩ := HL.out _ (List.getElem_mem hlt)
      have HE := layerOK_impl u LL[j] x wr (hu.below hbw) hl1 hl2 hTr.tab hTr.long
      rw [ok_short] at HE
      obtain ⟨uA, ucap, rfl, _⟩ := hu
      clear hcell c0 hl1 hl2
      have hi1 : (j : Int) < (LL.length : Int) := by omega
      have hi0 : (0 : Int) ≤ (j : Int) := by omega
      go_wp2_with fail
      refine HE.mono ?_
      rintro e w1 ⟨rfl, hb1⟩
      have hbw1 := hbw.trans (hb1.mono hbw.size)
      have hy := (hTr.below hb1 (Nat.le_refl _)).bad
      clear hTr
      unfold errV at hy
      cases hk : layerOK LL[j] with
      | false =>
        have HB := Lib.hid (HINV.out (stack_bad hlt hk))
        go_wp2_with fail
        go_ret
        exact ⟨by rw [HB.out]; rfl, hbw1⟩
      | true =>
        have HB := Lib.hid (take_more hlt HA.out hk)
        go_wp2_with fail
        go_roundw
        case rel => exact ⟨j + 1, by omega, by go_num, HB.out, hbw1⟩
        case measure => simp [intOf]; omega
    · obtain rfl : j = LL.length := by omega
      have HE := Lib.hid (HFINE.out (stack_good (by omega) HA.out))
      go_wp2
      go_ret
      exact ⟨by rw [HE.out]; rfl, hbw⟩

end Go.Proofs.YtcbmnihepeefaaaGreatDoor.Recs

/- The code of a call with a stack. Conditions: the table of kinds, the two sentinels. -/
namespace Go.Proofs.YtcbmnihepeefaaaGreatDoor.Recs
set_option maxRecDepth 100000
open Go.RowKit Paths Errs

theorem stack_of {LL : List (List R)} (h : stackOK LL = true) : LL.length ≤ 5 ∧ ∀ l ∈ LL, layerOK l = true := by
  unfold stackOK at h
  rw [Bool.and_eq_true] at h
  exact ⟨by simpa using h.1, fun l hm => (List.all_eq_true.1 h.2) l hm⟩
theorem stackU_any (v : Value) (LL : List (List R)) (x y : Addr) (w : World) (h : StkSl w v LL) (hl : LL.length ≤ 1048576) (hll : ∀ l ∈ LL, l.length ≤ 1048576 ∧ ∀ r ∈ l, r.p.size ≤ maxLen) (hT : Three w x y) :
    Calls Tryz.prog 146 #[v] w fun e w' => e = .returned ((stkE LL).u.val x y) ∧ Below w.heap.size w w' := by
  rw [EN.u_val]
  exact checkStack_any v LL x y w h hl hll hT
end Go.Proofs.YtcbmnihepeefaaaGreatDoor.Recs
