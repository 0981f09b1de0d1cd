/- Parts of several texts of mine in one file (each begins with its own remark). -/
import Derived.Test.YtcbmnihepeefaaaGreatDoorCA1
import Derived.Test.YtcbmnihepeefaaaGreatDoorCA10
import Derived.Test.YtcbmnihepeefaaaGreatDoorCA2
import Derived.Test.YtcbmnihepeefaaaGreatDoorCA3
import Derived.Test.YtcbmnihepeefaaaGreatDoorCA4
import Derived.Test.YtcbmnihepeefaaaGreatDoorCA5
import Derived.Test.YtcbmnihepeefaaaGreatDoorCA6
import Derived.Test.YtcbmnihepeefaaaGreatDoorCA8
import Derived.Test.YtcbmnihepeefaaaGreatDoorCA9
import Derived.Test.YtcbmnihepeefaaaGreatDoorCB1
import Derived.Test.YtcbmnihepeefaaaGreatDoorCB11
import Derived.Test.YtcbmnihepeefaaaGreatDoorCB12
import Derived.Test.YtcbmnihepeefaaaGreatDoorCB2
import Derived.Test.YtcbmnihepeefaaaGreatDoorCB5
import Derived.Test.YtcbmnihepeefaaaGreatDoorCB6
import Derived.Test.YtcbmnihepeefaaaGreatDoorCB9
import Derived.Test.YtcbmnihepeefaaaGreatDoorCC1
import Derived.Test.YtcbmnihepeefaaaGreatDoorCD1
import Derived.Test.YtcbmnihepeefaaaGreatDoorCE1
import Derived.Test.YtcbmnihepeefaaaGreatDoorChecked
import Derived.Test.YtcbmnihepeefaaaGreatDoorShelf
import Derived.Test.YtcbmnihepeefaaaGreatDoorProg
import Derived.Test.YtcbmnihepeefaaaGreatDoorRows
import Derived.Test.YtcbmnihepeefaaaGreatDoorShelf2
import Derived.Deep.Slices
import Derived.OpenShut
import Derived.ShutString
import Derived.ChangeArms
import Derived.WideShapes
import Derived.Lib.LaidTab
import Derived.BigQuiet
import Derived.Deep.QuietTactic
import Derived.Deep.RegionHeld3
import Derived.StillTailTactics
import Derived.Deep.Draws
import Derived.Deep.LoopGhost
import Derived.WalkKit
import Derived.WalkSpells
import Derived.WalkSmall
import Derived.Lib.OthersKept
import Derived.Lib.Hide
import Derived.Lib.Strings
import Derived.Lib.Join
import Derived.Deep.RegionWith
import Derived.Laws.OwnMore
import Derived.BigRegion
import Derived.Laws.BytesArg
import Derived.Stop.LaidErr
import Derived.WalkLawsBesides
import Derived.LaidEql
import Derived.Stop.Asserts
import Derived.Below
import Derived.Stop.LaidTwo
import Derived.OneCell
import Derived.Lib.SliceRun
import Derived.Lib.Overlaps
import Derived.Lib.AppendZerosOnto
import Derived.Laws.NewBlocks
import Derived.Laws.IdiomCopy
import Derived.Deep.RegionLaw
import Derived.ChangeVars
import Derived.Deep.DeepHandedRow
import Derived.Deep.AppendLies
import Derived.Laws.EntriesVeiled
import Derived.Laws.IdiomRangeMap
import Derived.Maps.RangeWalk
import Derived.Maps.Ext
import Derived.Lib.SlMapFilter
import Derived.Shelf.SlSortCmp.NoneTotal
import Derived.Sort.OwnSorted
import Derived.RangeFuncNested
import Derived.RangeFuncBound
import Derived.RangeFuncCalls
import Derived.RangeFuncLeaves
import Derived.RangeFuncBox
import Derived.Shelf.Abstract
import Derived.Shelf.RegionOpen
import Derived.OwnWalkIn
import Derived.TacticsInMore
import Derived.LoopNIn
import Derived.LoopIn
import Derived.Maps.OwnIn
import Derived.Maps.AppendAt
import Derived.Sort.MapsRangeIn
import Derived.Sort.KeysCollected
import Derived.Sort.Grow
/- The canonical form is told by the effect: two canonical layers that have the same effect on every tree are one. -/
namespace Go.Proofs.YtcbmnihepeefaaaGreatDoor.Recs
open Go.RowKit Paths

def dirN (q : ByteArray) : R := ⟨3, 0, q, ⟨#[]⟩, false⟩
def fileN (q : ByteArray) : R := ⟨1, 0, q, ⟨#[]⟩, false⟩
/-- The directories above a path, from the first part down. -/
def dirsOf (q : ByteArray) : List R := (ups q).reverse.map dirN
/-- A file at a path, and the directories above it. -/
def chainOf (q : ByteArray) : List R := dirsOf q ++ [fileN q]
theorem dirs_step {q : ByteArray} (h : pathB q.data.toList = true) : dirsOf q = if parentL q.data.toList = [] then [] else dirsOf (parO q) ++ [dirN (parO q)] := by
  unfold dirsOf
  rw [ups_step h]
  split
  · rfl
  · simp
theorem mem_dirs {q : ByteArray} {x : R} : x ∈ dirsOf q ↔ ∃ c ∈ ups q, x = dirN c := by
  unfold dirsOf
  simp only [List.mem_map, List.mem_reverse]
  exact ⟨fun ⟨c, hc, e⟩ => ⟨c, hc, e.symm⟩, fun ⟨c, hc, e⟩ => ⟨c, hc, e.symm⟩⟩
theorem dirs_sorted {q : ByteArray} (h : pathB q.data.toList = true) : Sorted (dirsOf q) := by
  refine path_ind (P := fun q => Sorted (dirsOf q)) ?_ ?_ q h
  · intro q hq hp
    rw [dirs_step hq, if_pos hp]
    exact List.Pairwise.nil
  · intro q hq hp h1 ih
    rw [dirs_step hq, if_neg hp]
    unfold Sorted
    rw [List.pairwise_append]
    refine ⟨ih, List.pairwise_singleton _ _, fun x hx y hy => ?_⟩
    rw [List.mem_singleton.1 hy]
    obtain ⟨c, hc, rfl⟩ := mem_dirs.1 hx
    exact ups_less h1 c hc
theorem chain_tree {q : ByteArray} (h : pathB q.data.toList = true) : IsTree (chainOf q) := by
  have hup : ∀ x ∈ chainOf q, x.p = q ∨ x.p ∈ ups q := by
    intro x hx
    rcases List.mem_append.1 hx with hx | hx
    · obtain ⟨c, hc, rfl⟩ := mem_dirs.1 hx; exact .inr hc
    · rw [List.mem_singleton.1 hx]; exact .inl rfl
  have hin : ∀ c ∈ ups q, dirN c ∈ chainOf q := fun c hc => List.mem_append_left _ (mem_dirs.2 ⟨c, hc, rfl⟩)
  refine ⟨?_, ?_, ?_⟩
  · unfold Sorted chainOf
    rw [List.pairwise_append]
    refine ⟨dirs_sorted h, List.pairwise_singleton _ _, fun x hx y hy => ?_⟩
    rw [List.mem_singleton.1 hy]
    obtain ⟨c, hc, rfl⟩ := mem_dirs.1 hx
    exact ups_less h c hc
  · intro x hx hp
    rcases hup x hx with e | hu
    · rw [e] at hp ⊢
      exact ⟨_, hin _ (parent_up h hp), rfl, rfl⟩
    · exact ⟨_, hin _ (ups_trans h _ _ hu (parent_up (ups_path h _ hu) hp)), rfl, rfl⟩
  · intro x hx
    rcases hup x hx with e | hu
    · rw [e]; exact h
    · exact ups_path h _ hu
theorem file_mem (q : ByteArray) : fileN q ∈ chainOf q := by unfold chainOf; simp
theorem nil_tree : IsTree [] := ⟨List.Pairwise.nil, (fun _ hr => by cases hr), (fun _ hr => by cases hr)⟩

/-! ### A name that is free -/
theorem pigeon : ∀ (n : Nat) (L : List ByteArray) (f : Nat → ByteArray), (∀ i j, i < n → j < n → f i = f j → i = j) → (∀ i, i < n → f i ∈ L) → n ≤ L.length := by
  intro n
  induction n with
  | zero => intro _ _ _ _; omega
  | succ n ih =>
    intro L f hinj hin
    have h1 := ih (L.filter fun x => decide (x ≠ f n)) f (fun i j hi hj => hinj i j (by omega) (by omega)) (fun i hi => by
      rw [List.mem_filter]
      refine ⟨hin i (by omega), ?_⟩
      simp only [decide_eq_true_eq]
      intro e
      have := hinj i n (by omega) (by omega) e
      omega)
    have h2 : (L.filter fun x => decide (x ≠ f n)).length < L.length := by
      rw [List.length_filter_lt_length_iff_exists]
      exact ⟨f n, hin n (by omega), by simp⟩
    omega
/-- Names z.. : 4096 of them. -/
def zName (i : Nat) : List UInt8 := [122, UInt8.ofNat (48 + i / 64), UInt8.ofNat (48 + i % 64)]
theorem ofNat_small {n : Nat} (h : n < 256) : (UInt8.ofNat n).toNat = n := by simp [UInt8.toNat_ofNat']; omega
theorem zName_inj {i j : Nat} (hi : i < 4096) (hj : j < 4096) (h : zName i = zName j) : i = j := by
  unfold zName at h
  simp only [List.cons.injEq, and_true, true_and] at h
  have h1 := congrArg UInt8.toNat h.1
  have h2 := congrArg UInt8.toNat h.2
  rw [ofNat_small (by omega), ofNat_small (by omega)] at h1 h2
  omega
theorem zName_part {i : Nat} (hi : i < 4096) : partB (zName i) = true := by
  have h1 := ofNat_small (n := 48 + i / 64) (by omega)
  have h2 := ofNat_small (n := 48 + i % 64) (by omega)
  have e1 : (zName i == [46]) = false := by simp [zName]
  have e2 : (zName i == [46, 46]) = false := by simp [zName]
  have e3 : partAll (zName i) = true := by
    unfold partAll zName
    simp only [List.all_cons, List.all_nil, Bool.and_true, Bool.and_eq_true]
    refine ⟨by decide, ?_, ?_⟩
    · rw [h1]; unfold partChar; simp; omega
    · rw [h2]; unfold partChar; simp; omega
  unfold partB
  rw [e1, e2, e3]
  simp [zName]
theorem zName_clear {i : Nat} (hi : i < 4096) : ∀ c ∈ zName i, c ≠ 47 := by
  have h1 := ofNat_small (n := 48 + i / 64) (by omega)
  have h2 := ofNat_small (n := 48 + i % 64) (by omega)
  intro c hc e
  unfold zName at hc
  simp only [List.mem_cons, List.not_mem_nil, or_false] at hc
  have e' := congrArg UInt8.toNat e
  rcases hc with rfl | rfl | rfl
  · exact absurd e' (by decide)
  · rw [h1] at e'; have : (47 : UInt8).toNat = 47 := rfl; omega
  · rw [h2] at e'; have : (47 : UInt8).toNat = 47 := rfl; omega
def joinZ (q : ByteArray) (i : Nat) : ByteArray := ⟨(q.data.toList ++ 47 :: zName i).toArray⟩
theorem joinZ_data (q : ByteArray) (i : Nat) : (joinZ q i).data.toList = q.data.toList ++ 47 :: zName i := by unfold joinZ; simp
theorem joinZ_inj {q : ByteArray} {i j : Nat} (hi : i < 4096) (hj : j < 4096) (h : joinZ q i = joinZ q j) : i = j := by
  have e := congrArg (fun s : ByteArray => s.data.toList) h
  simp only [joinZ_data] at e
  have := List.append_cancel_left e
  simp only [List.cons.injEq, true_and] at this
  exact zName_inj hi hj this
theorem joinZ_path {q : ByteArray} (h : pathB q.data.toList = true) (hl : (cutAt 47 q.data.toList).length < 4) {i : Nat} (hi : i < 4096) : pathB (joinZ q i).data.toList = true := by
  rw [joinZ_data]
  exact pathB_join h (zName_part hi) hl
theorem joinZ_parent (q : ByteArray) {i : Nat} (hi : i < 4096) : parO (joinZ q i) = q := by
  unfold parO
  rw [joinZ_data, parent_at _ _ (zName_clear hi)]
theorem joinZ_up {q : ByteArray} (h : pathB q.data.toList = true) (hl : (cutAt 47 q.data.toList).length < 4) {i : Nat} (hi : i < 4096) : ups (joinZ q i) = q :: ups q := by
  have hp : parentL (joinZ q i).data.toList ≠ [] := by
    rw [joinZ_data, parent_at _ _ (zName_clear hi)]
    exact pathB_ne h
  rw [ups_step (joinZ_path h hl hi), if_neg hp, joinZ_parent q hi]
/-- Among so many names one is free in both lists. -/
theorem free_name (a b : List R) (hlen : a.length + b.length < 4096) (q : ByteArray) : ∃ i, i < 4096 ∧ recAt a (joinZ q i) = none ∧ recAt b (joinZ q i) = none := by
  refine Classical.byContradiction fun hno => ?_
  have hall : ∀ i, i < 4096 → joinZ q i ∈ (a ++ b).map (·.p) := by
    intro i hi
    rw [List.mem_map]
    cases ha : recAt a (joinZ q i) with
    | some x => exact ⟨x, List.mem_append_left _ (recAt_mem ha).1, (recAt_mem ha).2⟩
    | none =>
      cases hb : recAt b (joinZ q i) with
      | some x => exact ⟨x, List.mem_append_right _ (recAt_mem hb).1, (recAt_mem hb).2⟩
      | none => exact absurd ⟨i, hi, ha, hb⟩ hno
  have := pigeon 4096 _ (joinZ q) (fun i j hi hj => joinZ_inj hi hj) hall
  rw [List.length_map, List.length_append] at this
  omega
end Go.Proofs.YtcbmnihepeefaaaGreatDoor.Recs

/- The canonical form is told by the effect: two canonical layers that have the same effect on every tree are one; so combining is associative. -/
namespace Go.Proofs.YtcbmnihepeefaaaGreatDoor.Recs
open Go.RowKit Paths

theorem canon_fix {l : List R} (h : Canon l) {x : R} (hx : x ∈ l) : canonR l x = some x := by
  have h1 := canon_recAt h.layer.sorted x.p
  rw [h.canon, recAt_of h.layer.sorted hx] at h1
  exact h1.symm
theorem canon_open {l : List R} (h : Canon l) {x : R} (hx : x ∈ l) : (x.o = true → underL l x.p = false ∧ (cutAt 47 x.p.data.toList).length < 4) ∧ (x.k = 4 → underL l x.p = false) := by
  have h1 := canon_fix h hx
  unfold canonR at h1
  split at h1
  · split at h1
    · cases h1
    · rename_i hk
      have ho : x.o = false := by have := congrArg R.o (Option.some.inj h1); exact this.symm
      exact ⟨(fun h => by rw [ho] at h; cases h), fun h => absurd h hk⟩
  · rename_i hu
    have hu' : underL l x.p = false := by simpa using hu
    refine ⟨fun ho => ⟨hu', ?_⟩, fun _ => hu'⟩
    have := congrArg R.o (Option.some.inj h1)
    rw [ho] at this
    simpa using this
/-- Above a record of a layer only an opaque directory stops. -/
theorem cuts_under {l : List R} (h : IsLayer l) {x : R} (hx : x ∈ l) (hu : underL l x.p = false) : cutsL l x.p = false := by
  rcases Bool.eq_false_or_eq_true (cutsL l x.p) with hc | hc
  · obtain ⟨c, hcu, r, hr, hst⟩ := cuts_get hc
    obtain ⟨hrm, hrp⟩ := recAt_mem hr
    obtain ⟨n, hn, hnp, hnk⟩ := housed_ups h.housed (h.path x hx) x hx rfl c hcu
    have e := sorted_mem_once h.sorted hrm hn (hrp.trans hnp.symm)
    subst e
    have ho : r.o = true := by simpa [stops, hnk] using hst
    have : underL l x.p = true := by
      rw [underL_any, List.any_eq_true]
      exact ⟨c, hcu, by rw [opaqueAt_eq, hr]; simpa using ho⟩
    rw [this] at hu
    cases hu
  · exact hc
theorem cuts_congr {a b : List R} {q : ByteArray} (h : ∀ c ∈ ups q, recAt a c = recAt b c) : cutsL a q = cutsL b q := by
  rw [Bool.eq_iff_iff]
  constructor
  · intro hc
    obtain ⟨c, hcu, r, hr, hst⟩ := cuts_get hc
    exact cuts_at hcu (by rw [← h c hcu]; exact hr) hst
  · intro hc
    obtain ⟨c, hcu, r, hr, hst⟩ := cuts_get hc
    exact cuts_at hcu (by rw [h c hcu]; exact hr) hst
theorem size_nil {s : ByteArray} (h : s.size = 0) : s = ⟨#[]⟩ := by
  apply ByteArray.ext
  exact Array.eq_empty_of_size_eq_zero h
theorem nodeOf_eq {x r : R} (h : nodeOf x = nodeOf r) : x.k = r.k ∧ x.m = r.m ∧ x.p = r.p ∧ x.b = r.b := by
  unfold nodeOf at h
  injection h with h1 h2 h3 h4
  exact ⟨h1, h2, h3, h4⟩
section
variable {a b : List R} (ha : Canon a) (hb : Canon b) (hlen : a.length + b.length < 4096) (he : ∀ t, IsTree t → applyL a t = applyL b t)
include ha hb he
/-- Where one has a record that is no whiteout, so has the other, the same but for Opaque. -/
theorem eff_node {x : R} (hx : x ∈ a) (hk : x.k ≠ 4) : ∃ r ∈ b, nodeOf x = nodeOf r := by
  have h1 : nodeOf x ∈ applyL a [] := (mem_apply nil_tree a ha.layer.sorted ha.layer.path _).2 (.inl ⟨x, hx, hk, rfl⟩)
  rw [he [] nil_tree] at h1
  rcases (mem_apply nil_tree b hb.layer.sorted hb.layer.path _).1 h1 with ⟨r, hr, _, e⟩ | ⟨h, _⟩
  · exact ⟨r, hr, e⟩
  · cases h
include hlen
theorem eff_opaque {x r : R} (hx : x ∈ a) (hr : r ∈ b) (hp : x.p = r.p) (hup : ∀ c ∈ ups x.p, recAt a c = recAt b c) (ho : x.o = true) (hk : r.k = 3) (hro : r.o = false) : False := by
  obtain ⟨hu, hl⟩ := (canon_open ha hx).1 ho
  have hxp := ha.layer.path x hx
  have hcut := cuts_under ha.layer hx hu
  obtain ⟨i, hi, fa, fb⟩ := free_name a b hlen x.p
  have hq := joinZ_path hxp hl hi
  have hups := joinZ_up hxp hl hi
  have hin : fileN (joinZ x.p i) ∈ applyL b (chainOf (joinZ x.p i)) := by
    refine (mem_apply (chain_tree hq) b hb.layer.sorted hb.layer.path _).2 (.inr ⟨file_mem _, fb, ?_⟩)
    show cutsL b (joinZ x.p i) = false
    unfold cutsL
    rw [hups, List.any_cons]
    have e1 : stopsAt b x.p = false := by unfold stopsAt; rw [hp, recAt_of hb.layer.sorted hr]; simp [stops, hk, hro]
    have e2 : cutsL b x.p = false := by rw [← cuts_congr hup]; exact hcut
    rw [e1, Bool.false_or]
    exact e2
  rw [← he _ (chain_tree hq)] at hin
  rcases (mem_apply (chain_tree hq) a ha.layer.sorted ha.layer.path _).1 hin with ⟨y, hy, _, e⟩ | ⟨_, _, h3⟩
  · exact recAt_none fa y hy (nodeOf_eq (show nodeOf y = nodeOf (fileN (joinZ x.p i)) from e.symm)).2.2.1
  · have h4 : cutsL a (joinZ x.p i) = true := cuts_at (by rw [hups]; simp) (recAt_of ha.layer.sorted hx) (by simp [stops, ho])
    rw [show (fileN (joinZ x.p i)).p = joinZ x.p i from rfl, h4] at h3
    cases h3
end
/-- One half of a path's step. -/
theorem eff_half {a b : List R} (ha : Canon a) (hb : Canon b) (hlen : a.length + b.length < 4096) (he : ∀ t, IsTree t → applyL a t = applyL b t) {x : R} (hx : x ∈ a) (hup : ∀ c ∈ ups x.p, recAt a c = recAt b c) : x ∈ b := by
  have he' : ∀ t, IsTree t → applyL b t = applyL a t := fun t ht => (he t ht).symm
  by_cases hk : x.k = 4
  · have hu := (canon_open ha hx).2 hk
    have hcut := cuts_under ha.layer hx hu
    have hxp := ha.layer.path x hx
    cases hr : recAt b x.p with
    | some r =>
      obtain ⟨hrm, hrp⟩ := recAt_mem hr
      by_cases hrk : r.k = 4
      · obtain ⟨x1, x2, x3⟩ := (fault_more (ha.fine x hx)).2 hk
        obtain ⟨r1, r2, r3⟩ := (fault_more (hb.fine r hrm)).2 hrk
        have e : x = r := R_ext (hk.trans hrk.symm) (x2.trans r2.symm) hrp.symm ((size_nil x1).trans (size_nil r1).symm) (x3.trans r3.symm)
        rw [e]; exact hrm
      · obtain ⟨s, hs, e⟩ := eff_node hb ha he' hrm hrk
        obtain ⟨e1, _, e3, _⟩ := nodeOf_eq e
        have := sorted_mem_once ha.layer.sorted hs hx (e3.symm.trans hrp)
        rw [this] at e1
        omega
    | none =>
      have hin : fileN x.p ∈ applyL b (chainOf x.p) := (mem_apply (chain_tree hxp) b hb.layer.sorted hb.layer.path _).2 (.inr ⟨file_mem _, hr, by show cutsL b x.p = false; rw [← cuts_congr hup]; exact hcut⟩)
      rw [← he _ (chain_tree hxp)] at hin
      rcases (mem_apply (chain_tree hxp) a ha.layer.sorted ha.layer.path _).1 hin with ⟨y, hy, hyk, e⟩ | ⟨_, h2, _⟩
      · have := sorted_mem_once ha.layer.sorted hy hx (nodeOf_eq (show nodeOf y = nodeOf (fileN x.p) from e.symm)).2.2.1
        rw [this] at hyk
        exact absurd hk hyk
      · exact absurd rfl (recAt_none h2 x hx)
  · obtain ⟨r, hr, e⟩ := eff_node ha hb he hx hk
    obtain ⟨e1, e2, e3, e4⟩ := nodeOf_eq e
    have eo : x.o = r.o := by
      cases hxo : x.o with
      | true =>
        cases hro : r.o with
        | true => rfl
        | false => exact (eff_opaque ha hb hlen he hx hr e3 hup hxo (e1.symm.trans ((fault_more (ha.fine x hx)).1 hxo)) hro).elim
      | false =>
        cases hro : r.o with
        | false => rfl
        | true => exact (eff_opaque hb ha (by omega) he' hr hx e3.symm (fun c hc => (hup c (by rw [e3]; exact hc)).symm) hro (e1.trans ((fault_more (hb.fine r hr)).1 hro)) hxo).elim
    rw [R_ext e1 e2 e3 e4 eo]
    exact hr
/-- (e) TWO CANONICAL LAYERS THAT HAVE THE SAME EFFECT ON EVERY TREE ARE ONE. -/
theorem canon_unique {a b : List R} (ha : Canon a) (hb : Canon b) (hlen : a.length + b.length < 4096) (he : ∀ t, IsTree t → applyL a t = applyL b t) : a = b := by
  have he' : ∀ t, IsTree t → applyL b t = applyL a t := fun t ht => (he t ht).symm
  have step : ∀ q : ByteArray, (∀ c ∈ ups q, recAt a c = recAt b c) → recAt a q = recAt b q := by
    intro q hup
    cases hx : recAt a q with
    | some x =>
      obtain ⟨hm, hp⟩ := recAt_mem hx
      have := eff_half ha hb hlen he hm (by rw [hp]; exact hup)
      rw [← hp, recAt_of hb.layer.sorted this]
    | none =>
      cases hy : recAt b q with
      | none => rfl
      | some y =>
        obtain ⟨hm, hp⟩ := recAt_mem hy
        have := eff_half hb ha (by omega) he' hm (by rw [hp]; exact fun c hc => (hup c hc).symm)
        exact absurd hp (recAt_none hx y this)
  have hall : ∀ q : ByteArray, pathB q.data.toList = true → recAt a q = recAt b q ∧ ∀ c ∈ ups q, recAt a c = recAt b c := by
    intro q hq
    refine path_ind (P := fun q => recAt a q = recAt b q ∧ ∀ c ∈ ups q, recAt a c = recAt b c) ?_ ?_ q hq
    · intro q hq hp
      have h0 : ∀ c ∈ ups q, recAt a c = recAt b c := by
        intro c hc
        rw [ups_step hq, if_pos hp] at hc
        cases hc
      exact ⟨step q h0, h0⟩
    · intro q hq hp h1 ih
      have h0 : ∀ c ∈ ups q, recAt a c = recAt b c := by
        intro c hc
        rw [ups_step hq, if_neg hp] at hc
        rcases List.mem_cons.1 hc with rfl | hc
        · exact ih.1
        · exact ih.2 c hc
      exact ⟨step q h0, h0⟩
  refine sorted_ext _ _ ha.layer.sorted hb.layer.sorted fun x => ⟨fun hx => ?_, fun hx => ?_⟩
  · have := (hall x.p (ha.layer.path x hx)).1
    rw [recAt_of ha.layer.sorted hx] at this
    exact (recAt_mem this.symm).1
  · have := (hall x.p (hb.layer.path x hx)).1
    rw [recAt_of hb.layer.sorted hx] at this
    exact (recAt_mem this).1
end Go.Proofs.YtcbmnihepeefaaaGreatDoor.Recs

/- Combining layers, plain: the combination is canonical; combining is associative; the combination of a stack has the effect of applying its layers in order, and no other canonical layer has it. -/
namespace Go.Proofs.YtcbmnihepeefaaaGreatDoor.Recs
open Go.RowKit Paths

/-- An empty layer changes nothing; combined with another it gives the canonical form of that. -/
theorem squash_nil_left {a : List R} (ha : Fine a) (hlen : a.length < 1024) : squashL [] a = canonL a := by
  refine canon_unique (squash_canon fine_nil ha) (canon_fine ha) ?_ fun t ht => ?_
  · have h1 := squash_len [] a
    have h2 := List.length_filterMap_le (canonR a) a
    unfold canonL
    simp at h1
    omega
  · rw [apply_squash fine_nil.layer ha.layer ht, apply_canon ha.layer.sorted ha.layer.path ht]
    rfl
theorem squash_nil_right {a : List R} (ha : Fine a) (hlen : a.length < 1024) : squashL a [] = canonL a := by
  refine canon_unique (squash_canon ha fine_nil) (canon_fine ha) ?_ fun t ht => ?_
  · have h1 := squash_len a []
    have h2 := List.length_filterMap_le (canonR a) a
    unfold canonL
    simp at h1
    omega
  · rw [apply_squash ha.layer fine_nil.layer ht, apply_canon ha.layer.sorted ha.layer.path ht]
    rfl
end Go.Proofs.YtcbmnihepeefaaaGreatDoor.Recs

/- Applying layers to trees, of the model: a layer, a stack. -/
namespace Go.Proofs.YtcbmnihepeefaaaGreatDoor.Recs
set_option maxRecDepth 100000
open Go.RowKit Paths

theorem all_sorted (s : List (List R)) {t : List R} (h : Sorted t) : Sorted (applyAllL s t) := by
  induction s generalizing t with
  | nil => exact h
  | cons l s ih => exact ih (apply_sorted l h)
theorem all_path (s : List (List R)) {t : List R} (hs : ∀ l ∈ s, ∀ x ∈ l, pathB x.p.data.toList = true) (h : ∀ x ∈ t, pathB x.p.data.toList = true) : ∀ x ∈ applyAllL s t, pathB x.p.data.toList = true := by
  induction s generalizing t with
  | nil => exact h
  | cons l s ih => exact ih (fun l' hl' => hs l' (List.mem_cons_of_mem _ hl')) (apply_path l (hs l List.mem_cons_self) h)
set_option maxHeartbeats 4000000 in
theorem l05All_any (v u : Value) (LL : List (List R)) (t : List R) (base : Nat) (w : World) (h : StkSl w v LL) (ht : RowN w base u t.length t) (hp : ∀ l ∈ LL, l.length ≤ 16 ∧ ∀ x ∈ l, pathB x.p.data.toList = true) (hs : Sorted t) (htp : ∀ x ∈ t, pathB x.p.data.toList = true) (hl : t.length + 16 * LL.length ≤ 900) :
    Calls Tryz.prog 148 #[v, u] w fun e w' => ∃ x, e = .returned x ∧ Below w.heap.size w w' ∧ RowN w' w.heap.size x (applyAllL LL t).length (applyAllL LL t) ∧ x ≠ .slice none 0 0 := by
  obtain ⟨sA, scap, rfl, hcap, h⟩ := h
  have H := Lib.hid h
  have HS := Lib.hid hs
  have HP := Lib.hid hp
  have HTP := Lib.hid htp
  clear h hs hp htp
  obtain ⟨i0, hi, hI0, hI1, hI2⟩ := info_parts nodInfo
  have hE : (w.alloc (.cells #[] 29)).ownsRow w.heap.size 29 4 (.slice (some ⟨w.heap.size, 0, none⟩) 0 0) 0 [] := World.ownsRow_lit w #[] 0 (Nat.le_refl _) (Nat.zero_le _) rfl
  have cE : Below w.heap.size w (w.alloc (.cells #[] 29)) := (Below.refl _ _).alloc (Nat.le_refl _) _
  rcases row_cases ht with ⟨rfl, ht0⟩ | ⟨g, cap, rfl, hgc⟩
  · have HR0 : Hid (RowN (w.alloc (.cells #[] 29)) w.heap.size (.slice (some ⟨w.heap.size, 0, none⟩) 0 0) t.length t ∧ (Value.slice (some ⟨w.heap.size, 0, none⟩) 0 0) ≠ .slice none 0 0) := (by
      show _ ∧ _
      rw [ht0]
      exact ⟨⟨rfl, hE, fun x hx => by cases hx⟩, fun e => by cases e⟩)
    clear ht ht0
    have cS := cE
    go_enter Tryz.func148, Tryz.ntmps148
    go_wp2_with (first
      | (at_builtin; refine wpList_append_own_none rfl _ _ 23 rfl w.heap.size 29 i0 4 Tryz.underlying23 hi _ _ _ rfl hE rfl ?_)
      | go_in)
    go_loopw [1, 5] (fun tv i wr => ∃ k : Nat, k ≤ LL.length ∧ i = .int .i64 k ∧ Below w.heap.size w wr ∧ Hid (RowN wr w.heap.size tv (applyAllL (LL.take k) t).length (applyAllL (LL.take k) t) ∧ tv ≠ .slice none 0 0)) (fun _ i _ => LL.length - (intOf i).toNat)
    case atStart => exact ⟨0, by omega, rfl, cS, HR0.out⟩
    case round =>
      obtain ⟨k, hk, rfl, hbw, HK⟩ := hrel
      by_cases hlt : k < LL.length
      · obtain ⟨b, off, rfl, hb, hcell⟩ := H.out (by omega)
        obtain ⟨u1, c1, hu1⟩ := hcell k LL[k] (by simp [hlt])
        have c1' := (hbw.cell (p := ⟨b, off + k, none⟩) hb).trans c1
        have hu2 := hu1.below hbw
        clear hcell c1
        have hi1 : (k : Int) < (LL.length : Int) := by omega
        have hi0 : (0 : Int) ≤ (k : Int) := by omega
        obtain ⟨g2, cap2, rfl, _, _, _, _⟩ := notnil HK.out.1 HK.out.2
        have HLE := Lib.hid (all_le (LL.take k) t (fun l hm => (HP.out l (List.mem_of_mem_take hm)).1))
        have hle : (applyAllL (LL.take k) t).length + LL[k].length ≤ 1000 := by
          have h1 := HLE.out
          have h2 := (HP.out _ (List.getElem_mem hlt)).1
          rw [List.length_take] at h1
          omega
        have HDO := l05Apply_any u1 _ LL[k] (applyAllL (LL.take k) t) w.heap.size wr hu2 HK.out.1 (HP.out _ (List.getElem_mem hlt)).2 (all_sorted _ HS.out) (all_path _ (fun l hm => (HP.out l (List.mem_of_mem_take hm)).2) HTP.out) hle
        obtain ⟨uA, ucap, rfl, _⟩ := hu1
        have HSN := Lib.hid (all_snoc LL t hlt)
        clear hu2
        go_wp2_with fail
        refine HDO.mono ?_
        rintro e w2 ⟨x, rfl, hb2, hrow2, hx2⟩
        have HR2 := Lib.hid hrow2
        have HX2 := Lib.hid hx2
        clear hrow2 hx2
        go_wp2_with fail
        go_roundw
        case rel => exact ⟨k + 1, by omega, by go_num, hbw.trans (hb2.mono hbw.size), by
          show RowN _ _ _ _ _ ∧ _
          rw [HSN.out]
          exact ⟨HR2.out.down hbw.size, HX2.out⟩⟩
        case measure => simp [intOf]; omega
      · obtain rfl : k = LL.length := by omega
        have HK2 := HK.out
        rw [List.take_of_length_le (Nat.le_refl _)] at HK2
        have HK3 := Lib.hid HK2
        clear HK2
        go_wp2
        go_ret
        exact ⟨_, rfl, hbw, HK3.out.1, HK3.out.2⟩
  · have hsrc := src_cells (ht.below cE) 0 t (.inl rfl)
    have hfl := flatN_len t
    have hone := flatN_one t
    have hbz := cE.size
    have HTN := Lib.hid ht
    rw [Nat.zero_mul] at hsrc
    go_enter Tryz.func148, Tryz.ntmps148
    go_wp2_with (first
      | (at_builtin; refine wpList_append_own _ rfl _ _ 23 rfl w.heap.size 29 i0 (.agg #[.int .i64 0, .string ByteArray.empty, .string ByteArray.empty, .int .i64 0]) 4 48 Tryz.underlying23 hi hI0 hI1 hI2 rfl (by decide) _ _ _ rfl hE ⟨g, 0, none⟩ t.length cap (flatN t) rfl hfl hsrc hone (by unfold maxLen; omega) (by omega) hbz ?_; intro v' w9 hown' hgrow9 hnil9; rw [Nat.zero_add, List.nil_append] at hown'; have HR0 : Hid (RowN w9 w.heap.size v' t.length t ∧ v' ≠ .slice none 0 0) := ⟨⟨rfl, hown', HTN.out.2.2⟩, fun e => by have := (hnil9.1 e).1; cases this⟩; have cS := cE.grown hgrow9 hbz (fun j hj => (hE.lt j hj).1); clear hown' hgrow9 hnil9 hsrc hone)
      | go_in)
    go_loopw [1, 5] (fun tv i wr => ∃ k : Nat, k ≤ LL.length ∧ i = .int .i64 k ∧ Below w.heap.size w wr ∧ Hid (RowN wr w.heap.size tv (applyAllL (LL.take k) t).length (applyAllL (LL.take k) t) ∧ tv ≠ .slice none 0 0)) (fun _ i _ => LL.length - (intOf i).toNat)
    case atStart => exact ⟨0, by omega, rfl, cS, HR0.out⟩
    case round =>
      obtain ⟨k, hk, rfl, hbw, HK⟩ := hrel
      by_cases hlt : k < LL.length
      · obtain ⟨b, off, rfl, hb, hcell⟩ := H.out (by omega)
        obtain ⟨u1, c1, hu1⟩ := hcell k LL[k] (by simp [hlt])
        have c1' := (hbw.cell (p := ⟨b, off + k, none⟩) hb).trans c1
        have hu2 := hu1.below hbw
        clear hcell c1
        have hi1 : (k : Int) < (LL.length : Int) := by omega
        have hi0 : (0 : Int) ≤ (k : Int) := by omega
        obtain ⟨g2, cap2, rfl, _, _, _, _⟩ := notnil HK.out.1 HK.out.2
        have HLE := Lib.hid (all_le (LL.take k) t (fun l hm => (HP.out l (List.mem_of_mem_take hm)).1))
        have hle : (applyAllL (LL.take k) t).length + LL[k].length ≤ 1000 := by
          have h1 := HLE.out
          have h2 := (HP.out _ (List.getElem_mem hlt)).1
          rw [List.length_take] at h1
          omega
        have HDO := l05Apply_any u1 _ LL[k] (applyAllL (LL.take k) t) w.heap.size wr hu2 HK.out.1 (HP.out _ (List.getElem_mem hlt)).2 (all_sorted _ HS.out) (all_path _ (fun l hm => (HP.out l (List.mem_of_mem_take hm)).2) HTP.out) hle
        obtain ⟨uA, ucap, rfl, _⟩ := hu1
        have HSN := Lib.hid (all_snoc LL t hlt)
        clear hu2
        go_wp2_with fail
        refine HDO.mono ?_
        rintro e w2 ⟨x, rfl, hb2, hrow2, hx2⟩
        have HR2 := Lib.hid hrow2
        have HX2 := Lib.hid hx2
        clear hrow2 hx2
        go_wp2_with fail
        go_roundw
        case rel => exact ⟨k + 1, by omega, by go_num, hbw.trans (hb2.mono hbw.size), by
          show RowN _ _ _ _ _ ∧ _
          rw [HSN.out]
          exact ⟨HR2.out.down hbw.size, HX2.out⟩⟩
        case measure => simp [intOf]; omega
      · obtain rfl : k = LL.length := by omega
        have HK2 := HK.out
        rw [List.take_of_length_le (Nat.le_refl _)] at HK2
        have HK3 := Lib.hid HK2
        clear HK2
        go_wp2
        go_ret
        exact ⟨_, rfl, hbw, HK3.out.1, HK3.out.2⟩
end Go.Proofs.YtcbmnihepeefaaaGreatDoor.Recs

/- Apply, Changes of the program. Conditions: the table of kinds, the two sentinels. -/
namespace Go.Proofs.YtcbmnihepeefaaaGreatDoor.Recs
set_option maxRecDepth 100000
open Go.RowKit Paths Errs

/-- The code of a call with a stack and a tree, of one with a stack. -/
def codeSN (LL : List (List R)) (t : List R) : Int := if 4096 < LL.length ∨ 4096 < t.length then 2 else if stackOK LL && treeOK t then 0 else 1
theorem arg_sn (LL : List (List R)) (t : List R) : euFrom [(stkE LL).u, (growK t).u] 0 = codeSN LL t := by
  by_cases h1 : 4096 < LL.length <;> by_cases h2 : 4096 < t.length <;> cases h3 : stackOK LL <;> cases h4 : treeOK t <;> simp [stkE, growK, EN.u, codeSN, euFrom, h1, h2, h3, h4]
def allC (LL : List (List R)) (t : List R) : Int := if codeSN LL t ≠ 0 then codeSN LL t else limC (applyAllL LL t)
def allR (LL : List (List R)) (t : List R) : List R := if codeSN LL t ≠ 0 then [] else limL (applyAllL LL t)
theorem fine_sn {LL : List (List R)} {t : List R} (h : codeSN LL t = 0) : stkE LL = .fine ∧ growK t = .fine ∧ stackOK LL = true ∧ treeOK t = true := by
  unfold codeSN at h
  split at h
  · cases h
  · rename_i hn
    split at h
    · rename_i hk
      rw [Bool.and_eq_true] at hk
      exact ⟨by unfold stkE; rw [if_neg (fun e => hn (.inl e)), if_pos hk.1], by unfold growK; rw [if_neg (fun e => hn (.inr e)), if_pos hk.2], hk.1, hk.2⟩
    · cases h
end Go.Proofs.YtcbmnihepeefaaaGreatDoor.Recs

/- Apply, Changes of the model. -/
namespace Go.Proofs.YtcbmnihepeefaaaGreatDoor.Recs
set_option maxRecDepth 100000
open Go.RowKit Paths

theorem sn_long {LL : List (List R)} {t : List R} (h : 4096 < LL.length ∨ 4096 < t.length) : codeSN LL t = 2 := if_pos h
theorem sn_bad {LL : List (List R)} {t : List R} (h : ¬ (4096 < LL.length ∨ 4096 < t.length)) (hb : stackOK LL = false ∨ treeOK t = false) : codeSN LL t = 1 := by
  unfold codeSN
  rw [if_neg h, if_neg]
  rcases hb with hb | hb <;> simp [hb]
theorem sn_fine {LL : List (List R)} {t : List R} (h : ¬ (4096 < LL.length ∨ 4096 < t.length)) (h1 : stackOK LL = true) (h2 : treeOK t = true) : codeSN LL t = 0 := by
  unfold codeSN
  rw [if_neg h, if_pos (by simp [h1, h2])]
theorem all_code {LL : List (List R)} {t : List R} {c : Int} (h : codeSN LL t = c) (hc : c ≠ 0) : allC LL t = c ∧ allR LL t = [] := by
  unfold allC allR
  rw [h, if_pos hc, if_pos hc]
  exact ⟨rfl, rfl⟩
theorem all_fine {LL : List (List R)} {t : List R} (h : codeSN LL t = 0) : allC LL t = limC (applyAllL LL t) ∧ allR LL t = limL (applyAllL LL t) := by
  unfold allC allR
  rw [h, if_neg (by decide), if_neg (by decide)]
  exact ⟨rfl, rfl⟩
end Go.Proofs.YtcbmnihepeefaaaGreatDoor.Recs
