/- Parts of several texts of mine in one file (each begins with its own remark). -/
import Derived.Test.YtibekkfbpmloiabGreatDoorGA1
import Derived.Test.YtibekkfbpmloiabGreatDoorGA2
import Derived.Test.YtibekkfbpmloiabGreatDoorGA3
import Derived.Test.YtibekkfbpmloiabGreatDoorGA4
import Derived.Test.YtibekkfbpmloiabGreatDoorGA5
import Derived.Test.YtibekkfbpmloiabGreatDoorGA6
import Derived.Test.YtibekkfbpmloiabGreatDoorChecked
import Derived.Deep.Slices
import Derived.OpenShut
import Derived.ShutString
import Derived.ChangeArms
import Derived.WideShapes
import Derived.Lib.LaidTab
import Derived.BigQuiet
import Derived.Deep.QuietTactic
import Derived.Deep.RegionHeld3
import Derived.StillTailTactics
import Derived.Deep.Draws
import Derived.Deep.LoopGhost
import Derived.WalkKit
import Derived.WalkSpells
import Derived.WalkSmall
import Derived.Lib.OthersKept
import Derived.Lib.Hide
import Derived.Lib.Strings
import Derived.Lib.Join
/- The canonical form is told by the effect: two canonical layers that have the same effect on every tree are one. -/
namespace Go.Proofs.YtibekkfbpmloiabGreatDoor.Recs
open Go.RowKit Paths

def dirN (q : ByteArray) : R := ⟨3, 0, q, ⟨#[]⟩, false⟩
def fileN (q : ByteArray) : R := ⟨1, 0, q, ⟨#[]⟩, false⟩
/-- The directories above a path, from the first part down. -/
def dirsOf (q : ByteArray) : List R := (ups q).reverse.map dirN
/-- A file at a path, and the directories above it. -/
def chainOf (q : ByteArray) : List R := dirsOf q ++ [fileN q]
theorem dirs_step {q : ByteArray} (h : pathB q.data.toList = true) : dirsOf q = if parentL q.data.toList = [] then [] else dirsOf (parO q) ++ [dirN (parO q)] := by
  unfold dirsOf
  rw [ups_step h]
  split
  · rfl
  · simp
theorem mem_dirs {q : ByteArray} {x : R} : x ∈ dirsOf q ↔ ∃ c ∈ ups q, x = dirN c := by
  unfold dirsOf
  simp only [List.mem_map, List.mem_reverse]
  exact ⟨fun ⟨c, hc, e⟩ => ⟨c, hc, e.symm⟩, fun ⟨c, hc, e⟩ => ⟨c, hc, e.symm⟩⟩
theorem dirs_sorted {q : ByteArray} (h : pathB q.data.toList = true) : Sorted (dirsOf q) := by
  refine path_ind (P := fun q => Sorted (dirsOf q)) ?_ ?_ q h
  · intro q hq hp
    rw [dirs_step hq, if_pos hp]
    exact List.Pairwise.nil
  · intro q hq hp h1 ih
    rw [dirs_step hq, if_neg hp]
    unfold Sorted
    rw [List.pairwise_append]
    refine ⟨ih, List.pairwise_singleton _ _, fun x hx y hy => ?_⟩
    rw [List.mem_singleton.1 hy]
    obtain ⟨c, hc, rfl⟩ := mem_dirs.1 hx
    exact ups_less h1 c hc
theorem chain_tree {q : ByteArray} (h : pathB q.data.toList = true) : IsTree (chainOf q) := by
  have hup : ∀ x ∈ chainOf q, x.p = q ∨ x.p ∈ ups q := by
    intro x hx
    rcases List.mem_append.1 hx with hx | hx
    · obtain ⟨c, hc, rfl⟩ := mem_dirs.1 hx; exact .inr hc
    · rw [List.mem_singleton.1 hx]; exact .inl rfl
  have hin : ∀ c ∈ ups q, dirN c ∈ chainOf q := fun c hc => List.mem_append_left _ (mem_dirs.2 ⟨c, hc, rfl⟩)
  refine ⟨?_, ?_, ?_⟩
  · unfold Sorted chainOf
    rw [List.pairwise_append]
    refine ⟨dirs_sorted h, List.pairwise_singleton _ _, fun x hx y hy => ?_⟩
    rw [List.mem_singleton.1 hy]
    obtain ⟨c, hc, rfl⟩ := mem_dirs.1 hx
    exact ups_less h c hc
  · intro x hx hp
    rcases hup x hx with e | hu
    · rw [e] at hp ⊢
      exact ⟨_, hin _ (parent_up h hp), rfl, rfl⟩
    · exact ⟨_, hin _ (ups_trans h _ _ hu (parent_up (ups_path h _ hu) hp)), rfl, rfl⟩
  · intro x hx
    rcases hup x hx with e | hu
    · rw [e]; exact h
    · exact ups_path h _ hu
theorem file_mem (q : ByteArray) : fileN q ∈ chainOf q := by unfold chainOf; simp
theorem nil_tree : IsTree [] := ⟨List.Pairwise.nil, (fun _ hr => by cases hr), (fun _ hr => by cases hr)⟩

/-! ### A name that is free -/
theorem pigeon : ∀ (n : Nat) (L : List ByteArray) (f : Nat → ByteArray), (∀ i j, i < n → j < n → f i = f j → i = j) → (∀ i, i < n → f i ∈ L) → n ≤ L.length := by
  intro n
  induction n with
  | zero => intro _ _ _ _; omega
  | succ n ih =>
    intro L f hinj hin
    have h1 := ih (L.filter fun x => decide (x ≠ f n)) f (fun i j hi hj => hinj i j (by omega) (by omega)) (fun i hi => by
      rw [List.mem_filter]
      refine ⟨hin i (by omega), ?_⟩
      simp only [decide_eq_true_eq]
      intro e
      have := hinj i n (by omega) (by omega) e
      omega)
    have h2 : (L.filter fun x => decide (x ≠ f n)).length < L.length := by
      rw [List.length_filter_lt_length_iff_exists]
      exact ⟨f n, hin n (by omega), by simp⟩
    omega
/-- Names z.. : 4096 of them. -/
def zName (i : Nat) : List UInt8 := [122, UInt8.ofNat (48 + i / 64), UInt8.ofNat (48 + i % 64)]
theorem ofNat_small {n : Nat} (h : n < 256) : (UInt8.ofNat n).toNat = n := by simp [UInt8.toNat_ofNat']; omega
theorem zName_inj {i j : Nat} (hi : i < 4096) (hj : j < 4096) (h : zName i = zName j) : i = j := by
  unfold zName at h
  simp only [List.cons.injEq, and_true, true_and] at h
  have h1 := congrArg UInt8.toNat h.1
  have h2 := congrArg UInt8.toNat h.2
  rw [ofNat_small (by omega), ofNat_small (by omega)] at h1 h2
  omega
theorem zName_part {i : Nat} (hi : i < 4096) : partB (zName i) = true := by
  have h1 := ofNat_small (n := 48 + i / 64) (by omega)
  have h2 := ofNat_small (n := 48 + i % 64) (by omega)
  have e1 : (zName i == [46]) = false := by simp [zName]
  have e2 : (zName i == [46, 46]) = false := by simp [zName]
  have e3 : partAll (zName i) = true := by
    unfold partAll zName
    simp only [List.all_cons, List.all_nil, Bool.and_true, Bool.and_eq_true]
    refine ⟨by decide, ?_, ?_⟩
    · rw [h1]; unfold partChar; simp; omega
    · rw [h2]; unfold partChar; simp; omega
  unfold partB
  rw [e1, e2, e3]
  simp [zName]
theorem zName_clear {i : Nat} (hi : i < 4096) : ∀ c ∈ zName i, c ≠ 47 := by
  have h1 := ofNat_small (n := 48 + i / 64) (by omega)
  have h2 := ofNat_small (n := 48 + i % 64) (by omega)
  intro c hc e
  unfold zName at hc
  simp only [List.mem_cons, List.not_mem_nil, or_false] at hc
  have e' := congrArg UInt8.toNat e
  rcases hc with rfl | rfl | rfl
  · exact absurd e' (by decide)
  · rw [h1] at e'; have : (47 : UInt8).toNat = 47 := rfl; omega
  · rw [h2] at e'; have : (47 : UInt8).toNat = 47 := rfl; omega
def joinZ (q : ByteArray) (i : Nat) : ByteArray := ⟨(q.data.toList ++ 47 :: zName i).toArray⟩
theorem joinZ_data (q : ByteArray) (i : Nat) : (joinZ q i).data.toList = q.data.toList ++ 47 :: zName i := by unfold joinZ; simp
theorem joinZ_inj {q : ByteArray} {i j : Nat} (hi : i < 4096) (hj : j < 4096) (h : joinZ q i = joinZ q j) : i = j := by
  have e := congrArg (fun s : ByteArray => s.data.toList) h
  simp only [joinZ_data] at e
  have := List.append_cancel_left e
  simp only [List.cons.injEq, true_and] at this
  exact zName_inj hi hj this
theorem joinZ_path {q : ByteArray} (h : pathB q.data.toList = true) (hl : (cutAt 47 q.data.toList).length < 4) {i : Nat} (hi : i < 4096) : pathB (joinZ q i).data.toList = true := by
  rw [joinZ_data]
  exact pathB_join h (zName_part hi) hl
theorem joinZ_parent (q : ByteArray) {i : Nat} (hi : i < 4096) : parO (joinZ q i) = q := by
  unfold parO
  rw [joinZ_data, parent_at _ _ (zName_clear hi)]
theorem joinZ_up {q : ByteArray} (h : pathB q.data.toList = true) (hl : (cutAt 47 q.data.toList).length < 4) {i : Nat} (hi : i < 4096) : ups (joinZ q i) = q :: ups q := by
  have hp : parentL (joinZ q i).data.toList ≠ [] := by
    rw [joinZ_data, parent_at _ _ (zName_clear hi)]
    exact pathB_ne h
  rw [ups_step (joinZ_path h hl hi), if_neg hp, joinZ_parent q hi]
/-- Among so many names one is free in both lists. -/
theorem free_name (a b : List R) (hlen : a.length + b.length < 4096) (q : ByteArray) : ∃ i, i < 4096 ∧ recAt a (joinZ q i) = none ∧ recAt b (joinZ q i) = none := by
  refine Classical.byContradiction fun hno => ?_
  have hall : ∀ i, i < 4096 → joinZ q i ∈ (a ++ b).map (·.p) := by
    intro i hi
    rw [List.mem_map]
    cases ha : recAt a (joinZ q i) with
    | some x => exact ⟨x, List.mem_append_left _ (recAt_mem ha).1, (recAt_mem ha).2⟩
    | none =>
      cases hb : recAt b (joinZ q i) with
      | some x => exact ⟨x, List.mem_append_right _ (recAt_mem hb).1, (recAt_mem hb).2⟩
      | none => exact absurd ⟨i, hi, ha, hb⟩ hno
  have := pigeon 4096 _ (joinZ q) (fun i j hi hj => joinZ_inj hi hj) hall
  rw [List.length_map, List.length_append] at this
  omega
end Go.Proofs.YtibekkfbpmloiabGreatDoor.Recs

/- The canonical form is told by the effect: two canonical layers that have the same effect on every tree are one; so combining is associative. -/
namespace Go.Proofs.YtibekkfbpmloiabGreatDoor.Recs
open Go.RowKit Paths

/-- A canonical layer, of whatever length below a great bound. -/
structure Canon (l : List R) : Prop where
  layer : IsLayer l
  canon : canonL l = l
  fine : ∀ x ∈ l, x.fault = 0

theorem canon_fix {l : List R} (h : Canon l) {x : R} (hx : x ∈ l) : canonR l x = some x := by
  have h1 := canon_recAt h.layer.sorted x.p
  rw [h.canon, recAt_of h.layer.sorted hx] at h1
  exact h1.symm
theorem canon_open {l : List R} (h : Canon l) {x : R} (hx : x ∈ l) : (x.o = true → underL l x.p = false ∧ (cutAt 47 x.p.data.toList).length < 4) ∧ (x.k = 4 → underL l x.p = false) := by
  have h1 := canon_fix h hx
  unfold canonR at h1
  split at h1
  · split at h1
    · cases h1
    · rename_i hk
      have ho : x.o = false := by have := congrArg R.o (Option.some.inj h1); exact this.symm
      exact ⟨(fun h => by rw [ho] at h; cases h), fun h => absurd h hk⟩
  · rename_i hu
    have hu' : underL l x.p = false := by simpa using hu
    refine ⟨fun ho => ⟨hu', ?_⟩, fun _ => hu'⟩
    have := congrArg R.o (Option.some.inj h1)
    rw [ho] at this
    simpa using this
/-- Above a record of a layer only an opaque directory stops. -/
theorem cuts_under {l : List R} (h : IsLayer l) {x : R} (hx : x ∈ l) (hu : underL l x.p = false) : cutsL l x.p = false := by
  rcases Bool.eq_false_or_eq_true (cutsL l x.p) with hc | hc
  · obtain ⟨c, hcu, r, hr, hst⟩ := cuts_get hc
    obtain ⟨hrm, hrp⟩ := recAt_mem hr
    obtain ⟨n, hn, hnp, hnk⟩ := housed_ups h.housed (h.path x hx) x hx rfl c hcu
    have e := sorted_mem_once h.sorted hrm hn (hrp.trans hnp.symm)
    subst e
    have ho : r.o = true := by simpa [stops, hnk] using hst
    have : underL l x.p = true := by
      rw [underL_any, List.any_eq_true]
      exact ⟨c, hcu, by rw [opaqueAt_eq, hr]; simpa using ho⟩
    rw [this] at hu
    cases hu
  · exact hc
theorem cuts_congr {a b : List R} {q : ByteArray} (h : ∀ c ∈ ups q, recAt a c = recAt b c) : cutsL a q = cutsL b q := by
  rw [Bool.eq_iff_iff]
  constructor
  · intro hc
    obtain ⟨c, hcu, r, hr, hst⟩ := cuts_get hc
    exact cuts_at hcu (by rw [← h c hcu]; exact hr) hst
  · intro hc
    obtain ⟨c, hcu, r, hr, hst⟩ := cuts_get hc
    exact cuts_at hcu (by rw [h c hcu]; exact hr) hst
theorem fault_more {r : R} (h : r.fault = 0) : (r.o = true → r.k = 3) ∧ (r.k = 4 → r.b.size = 0 ∧ r.m = 0 ∧ r.o = false) := by
  unfold R.fault faultI at h
  split at h
  · cases h
  split at h
  · cases h
  split at h
  · cases h
  split at h
  · cases h
  split at h
  · cases h
  rename_i h1 h2 h3 h4 h5
  have h6 : r.o = true → r.k = 3 := fun ho => by
    refine Classical.byContradiction fun hk => h4 (.inr ⟨ho, hk⟩)
  refine ⟨h6, fun hk => ⟨?_, ?_, ?_⟩⟩
  · refine Classical.byContradiction fun hz => h4 (.inl ⟨hz, .inr hk⟩)
  · refine Classical.byContradiction fun hz => h5 (.inr (.inr ⟨hz, .inl hk⟩))
  · cases ho : r.o with
    | false => rfl
    | true => have := h6 ho; omega
theorem size_nil {s : ByteArray} (h : s.size = 0) : s = ⟨#[]⟩ := by
  apply ByteArray.ext
  exact Array.eq_empty_of_size_eq_zero h
theorem nodeOf_eq {x r : R} (h : nodeOf x = nodeOf r) : x.k = r.k ∧ x.m = r.m ∧ x.p = r.p ∧ x.b = r.b := by
  unfold nodeOf at h
  injection h with h1 h2 h3 h4
  exact ⟨h1, h2, h3, h4⟩
theorem R_ext {x r : R} (h1 : x.k = r.k) (h2 : x.m = r.m) (h3 : x.p = r.p) (h4 : x.b = r.b) (h5 : x.o = r.o) : x = r := by
  obtain ⟨a, b, c, d, e⟩ := x
  obtain ⟨a', b', c', d', e'⟩ := r
  simp only at h1 h2 h3 h4 h5
  subst h1 h2 h3 h4 h5
  rfl

section
variable {a b : List R} (ha : Canon a) (hb : Canon b) (hlen : a.length + b.length < 4096) (he : ∀ t, IsTree t → applyL a t = applyL b t)
include ha hb he
/-- Where one has a record that is no whiteout, so has the other, the same but for Opaque. -/
theorem eff_node {x : R} (hx : x ∈ a) (hk : x.k ≠ 4) : ∃ r ∈ b, nodeOf x = nodeOf r := by
  have h1 : nodeOf x ∈ applyL a [] := (mem_apply nil_tree a ha.layer.sorted ha.layer.path _).2 (.inl ⟨x, hx, hk, rfl⟩)
  rw [he [] nil_tree] at h1
  rcases (mem_apply nil_tree b hb.layer.sorted hb.layer.path _).1 h1 with ⟨r, hr, _, e⟩ | ⟨h, _⟩
  · exact ⟨r, hr, e⟩
  · cases h
include hlen
theorem eff_opaque {x r : R} (hx : x ∈ a) (hr : r ∈ b) (hp : x.p = r.p) (hup : ∀ c ∈ ups x.p, recAt a c = recAt b c) (ho : x.o = true) (hk : r.k = 3) (hro : r.o = false) : False := by
  obtain ⟨hu, hl⟩ := (canon_open ha hx).1 ho
  have hxp := ha.layer.path x hx
  have hcut := cuts_under ha.layer hx hu
  obtain ⟨i, hi, fa, fb⟩ := free_name a b hlen x.p
  have hq := joinZ_path hxp hl hi
  have hups := joinZ_up hxp hl hi
  have hin : fileN (joinZ x.p i) ∈ applyL b (chainOf (joinZ x.p i)) := by
    refine (mem_apply (chain_tree hq) b hb.layer.sorted hb.layer.path _).2 (.inr ⟨file_mem _, fb, ?_⟩)
    show cutsL b (joinZ x.p i) = false
    unfold cutsL
    rw [hups, List.any_cons]
    have e1 : stopsAt b x.p = false := by unfold stopsAt; rw [hp, recAt_of hb.layer.sorted hr]; simp [stops, hk, hro]
    have e2 : cutsL b x.p = false := by rw [← cuts_congr hup]; exact hcut
    rw [e1, Bool.false_or]
    exact e2
  rw [← he _ (chain_tree hq)] at hin
  rcases (mem_apply (chain_tree hq) a ha.layer.sorted ha.layer.path _).1 hin with ⟨y, hy, _, e⟩ | ⟨_, _, h3⟩
  · exact recAt_none fa y hy (nodeOf_eq (show nodeOf y = nodeOf (fileN (joinZ x.p i)) from e.symm)).2.2.1
  · have h4 : cutsL a (joinZ x.p i) = true := cuts_at (by rw [hups]; simp) (recAt_of ha.layer.sorted hx) (by simp [stops, ho])
    rw [show (fileN (joinZ x.p i)).p = joinZ x.p i from rfl, h4] at h3
    cases h3
end
/-- One half of a path's step. -/
theorem eff_half {a b : List R} (ha : Canon a) (hb : Canon b) (hlen : a.length + b.length < 4096) (he : ∀ t, IsTree t → applyL a t = applyL b t) {x : R} (hx : x ∈ a) (hup : ∀ c ∈ ups x.p, recAt a c = recAt b c) : x ∈ b := by
  have he' : ∀ t, IsTree t → applyL b t = applyL a t := fun t ht => (he t ht).symm
  by_cases hk : x.k = 4
  · have hu := (canon_open ha hx).2 hk
    have hcut := cuts_under ha.layer hx hu
    have hxp := ha.layer.path x hx
    cases hr : recAt b x.p with
    | some r =>
      obtain ⟨hrm, hrp⟩ := recAt_mem hr
      by_cases hrk : r.k = 4
      · obtain ⟨x1, x2, x3⟩ := (fault_more (ha.fine x hx)).2 hk
        obtain ⟨r1, r2, r3⟩ := (fault_more (hb.fine r hrm)).2 hrk
        have e : x = r := R_ext (hk.trans hrk.symm) (x2.trans r2.symm) hrp.symm ((size_nil x1).trans (size_nil r1).symm) (x3.trans r3.symm)
        rw [e]; exact hrm
      · obtain ⟨s, hs, e⟩ := eff_node hb ha he' hrm hrk
        obtain ⟨e1, _, e3, _⟩ := nodeOf_eq e
        have := sorted_mem_once ha.layer.sorted hs hx (e3.symm.trans hrp)
        rw [this] at e1
        omega
    | none =>
      have hin : fileN x.p ∈ applyL b (chainOf x.p) := (mem_apply (chain_tree hxp) b hb.layer.sorted hb.layer.path _).2 (.inr ⟨file_mem _, hr, by show cutsL b x.p = false; rw [← cuts_congr hup]; exact hcut⟩)
      rw [← he _ (chain_tree hxp)] at hin
      rcases (mem_apply (chain_tree hxp) a ha.layer.sorted ha.layer.path _).1 hin with ⟨y, hy, hyk, e⟩ | ⟨_, h2, _⟩
      · have := sorted_mem_once ha.layer.sorted hy hx (nodeOf_eq (show nodeOf y = nodeOf (fileN x.p) from e.symm)).2.2.1
        rw [this] at hyk
        exact absurd hk hyk
      · exact absurd rfl (recAt_none h2 x hx)
  · obtain ⟨r, hr, e⟩ := eff_node ha hb he hx hk
    obtain ⟨e1, e2, e3, e4⟩ := nodeOf_eq e
    have eo : x.o = r.o := by
      cases hxo : x.o with
      | true =>
        cases hro : r.o with
        | true => rfl
        | false => exact (eff_opaque ha hb hlen he hx hr e3 hup hxo (e1.symm.trans ((fault_more (ha.fine x hx)).1 hxo)) hro).elim
      | false =>
        cases hro : r.o with
        | false => rfl
        | true => exact (eff_opaque hb ha (by omega) he' hr hx e3.symm (fun c hc => (hup c (by rw [e3]; exact hc)).symm) hro (e1.trans ((fault_more (hb.fine r hr)).1 hro)) hxo).elim
    rw [R_ext e1 e2 e3 e4 eo]
    exact hr
/-- (e) TWO CANONICAL LAYERS THAT HAVE THE SAME EFFECT ON EVERY TREE ARE ONE. -/
theorem canon_unique {a b : List R} (ha : Canon a) (hb : Canon b) (hlen : a.length + b.length < 4096) (he : ∀ t, IsTree t → applyL a t = applyL b t) : a = b := by
  have he' : ∀ t, IsTree t → applyL b t = applyL a t := fun t ht => (he t ht).symm
  have step : ∀ q : ByteArray, (∀ c ∈ ups q, recAt a c = recAt b c) → recAt a q = recAt b q := by
    intro q hup
    cases hx : recAt a q with
    | some x =>
      obtain ⟨hm, hp⟩ := recAt_mem hx
      have := eff_half ha hb hlen he hm (by rw [hp]; exact hup)
      rw [← hp, recAt_of hb.layer.sorted this]
    | none =>
      cases hy : recAt b q with
      | none => rfl
      | some y =>
        obtain ⟨hm, hp⟩ := recAt_mem hy
        have := eff_half hb ha (by omega) he' hm (by rw [hp]; exact fun c hc => (hup c hc).symm)
        exact absurd hp (recAt_none hx y this)
  have hall : ∀ q : ByteArray, pathB q.data.toList = true → recAt a q = recAt b q ∧ ∀ c ∈ ups q, recAt a c = recAt b c := by
    intro q hq
    refine path_ind (P := fun q => recAt a q = recAt b q ∧ ∀ c ∈ ups q, recAt a c = recAt b c) ?_ ?_ q hq
    · intro q hq hp
      have h0 : ∀ c ∈ ups q, recAt a c = recAt b c := by
        intro c hc
        rw [ups_step hq, if_pos hp] at hc
        cases hc
      exact ⟨step q h0, h0⟩
    · intro q hq hp h1 ih
      have h0 : ∀ c ∈ ups q, recAt a c = recAt b c := by
        intro c hc
        rw [ups_step hq, if_neg hp] at hc
        rcases List.mem_cons.1 hc with rfl | hc
        · exact ih.1
        · exact ih.2 c hc
      exact ⟨step q h0, h0⟩
  refine sorted_ext _ _ ha.layer.sorted hb.layer.sorted fun x => ⟨fun hx => ?_, fun hx => ?_⟩
  · have := (hall x.p (ha.layer.path x hx)).1
    rw [recAt_of ha.layer.sorted hx] at this
    exact (recAt_mem this.symm).1
  · have := (hall x.p (hb.layer.path x hx)).1
    rw [recAt_of hb.layer.sorted hx] at this
    exact (recAt_mem this).1
end Go.Proofs.YtibekkfbpmloiabGreatDoor.Recs

/- Combining layers, plain: the combination is canonical; combining is associative; the combination of a stack has the effect of applying its layers in order, and no other canonical layer has it. -/
namespace Go.Proofs.YtibekkfbpmloiabGreatDoor.Recs
open Go.RowKit Paths

/-- A layer of valid records. -/
structure Fine (l : List R) : Prop where
  layer : IsLayer l
  fine : ∀ x ∈ l, x.fault = 0
theorem fine_layer {l : List R} (h : layerOK l = true) : Fine l := ⟨layer_is h, fun _ hx => layer_rec h hx⟩
theorem fine_nil : Fine [] := ⟨⟨List.Pairwise.nil, (fun _ h => by cases h), (fun _ h => by cases h)⟩, (fun _ h => by cases h)⟩
theorem fine_ok {l : List R} (h : Fine l) (hl : l.length ≤ 16) : layerOK l = true := layerOK_of hl h.fine h.layer.sorted h.layer.housed

theorem canon_fine {l : List R} (h : Fine l) : Canon (canonL l) := by
  refine ⟨⟨canon_sorted h.layer.sorted, ?_, canon_path h.layer.path⟩, canon_idem h.layer.sorted, ?_⟩
  · intro x hx hp
    obtain ⟨r, hr, he⟩ := mem_canon.1 hx
    rw [(canonR_path he).1] at hp ⊢
    obtain ⟨q, hq, h1, h2⟩ := h.layer.housed r hr hp
    obtain ⟨y, hy⟩ := canonR_dir (l := l) h2
    obtain ⟨f1, f2, _⟩ := canonR_path hy
    exact ⟨y, mem_canon.2 ⟨q, hq, hy⟩, f1.trans h1, f2.trans h2⟩
  · intro x hx
    obtain ⟨r, hr, he⟩ := mem_canon.1 hx
    exact canonR_fault he (h.fine r hr)
theorem Canon.isFine {l : List R} (h : Canon l) : Fine l := ⟨h.layer, h.fine⟩
theorem over_fault {a : List R} {y : R} (h : y.fault = 0) : (overO a y).fault = 0 := by
  obtain ⟨h1, h2, h3, h4, h5⟩ := overO_same a y
  cases ho : (overO a y).o with
  | false =>
    have hy : y.o = false := by
      cases hyo : y.o with
      | false => rfl
      | true => rw [h5 hyo] at ho; cases ho
    rw [show overO a y = y from R_ext h2 h4 h1 h3 (ho.trans hy.symm)]
    exact h
  | true =>
    by_cases hy : y.o = true
    · rw [show overO a y = y from R_ext h2 h4 h1 h3 (ho.trans hy.symm)]
      exact h
    · have hk : y.k = 3 := by
        unfold overO at ho
        split at ho
        · unfold overR at ho
          split at ho
          · rename_i hh; exact hh.1
          · exact absurd ho hy
        · exact absurd ho hy
      unfold R.fault at h ⊢
      rw [h1, h2, h3, h4, ho]
      unfold faultI at h ⊢
      split at h
      · cases h
      split at h
      · cases h
      split at h
      · cases h
      split at h
      · cases h
      split at h
      · cases h
      rename_i a1 a2 a3 a4 a5
      rw [if_neg a1, if_neg a2, if_neg a3, if_neg (fun hh => by
        rcases hh with hh | hh
        · exact a4 (.inl hh)
        · exact hh.2 hk), if_neg a5]
theorem two_fine {a b : List R} (ha : Fine a) (hb : Fine b) : Fine (two a b) := by
  refine ⟨two_layer ha.layer hb.layer, fun z hz => ?_⟩
  rcases (mem_two b a b ha.layer.sorted hb.layer.sorted z).1 hz with ⟨y, hy, rfl⟩ | ⟨h, _⟩
  · exact over_fault (hb.fine y hy)
  · exact ha.fine z h
theorem squash_canon {a b : List R} (ha : Fine a) (hb : Fine b) : Canon (squashL a b) := canon_fine (two_fine ha hb)
theorem two_len (u : List R) : ∀ a b : List R, (twoL u a b).length ≤ a.length + b.length
  | [], b => by rw [twoL]; simp
  | x :: a, [] => by
    have ih := two_len u a []
    rw [twoL]
    split <;> simp at ih ⊢ <;> omega
  | x :: a, y :: b => by
    have i1 := two_len u a (y :: b)
    have i2 := two_len u (x :: a) b
    have i3 := two_len u a b
    rw [twoL]
    split
    · split <;> simp at i1 ⊢ <;> omega
    · split <;> simp at i2 i3 ⊢ <;> omega
termination_by a b => a.length + b.length
theorem squash_len (a b : List R) : (squashL a b).length ≤ a.length + b.length := by
  have h1 := List.length_filterMap_le (canonR (two a b)) (two a b)
  have h2 := two_len b a b
  unfold squashL canonL
  unfold two at h1 ⊢
  omega
/-- The combination of a stack: an empty layer with the lowest one, the result with the next one, and so on. -/
def squashAllL (s : List (List R)) : List R := s.foldl squashL []
def applyAllL (s : List (List R)) (t : List R) : List R := s.foldl (fun x l => applyL l x) t
theorem foldl_squash (s : List (List R)) (hs : ∀ l ∈ s, Fine l) : ∀ c, Canon c → Canon (s.foldl squashL c) ∧ ∀ t, IsTree t → applyL (s.foldl squashL c) t = applyAllL s (applyL c t) := by
  induction s with
  | nil => exact fun c hc => ⟨hc, fun _ _ => rfl⟩
  | cons l s ih =>
    intro c hc
    have hl := hs l (by simp)
    have h1 := squash_canon hc.isFine hl
    obtain ⟨h2, h3⟩ := ih (fun x hx => hs x (by simp [hx])) (squashL c l) h1
    refine ⟨h2, fun t ht => ?_⟩
    show applyL (s.foldl squashL (squashL c l)) t = applyAllL s (applyL l (applyL c t))
    rw [h3 t ht, apply_squash hc.layer hl.layer ht]
theorem canon_nil : Canon [] := ⟨fine_nil.layer, rfl, fine_nil.fine⟩
/-- (g) The combination of a stack has the effect of applying its layers in order. -/
theorem apply_squashAll {s : List (List R)} (hs : ∀ l ∈ s, Fine l) {t : List R} (ht : IsTree t) : applyL (squashAllL s) t = applyAllL s t := (foldl_squash s hs [] canon_nil).2 t ht
theorem squashAll_canon {s : List (List R)} (hs : ∀ l ∈ s, Fine l) : Canon (squashAllL s) := (foldl_squash s hs [] canon_nil).1
/-- Whatever canonical layer has the effect of a stack is its combination: the order of combining does not matter. -/
theorem squashAll_only {s : List (List R)} (hs : ∀ l ∈ s, Fine l) {c : List R} (hc : Canon c) (hlen : c.length + (squashAllL s).length < 4096) (he : ∀ t, IsTree t → applyL c t = applyAllL s t) : c = squashAllL s :=
  canon_unique hc (squashAll_canon hs) hlen fun t ht => by rw [he t ht, apply_squashAll hs ht]
end Go.Proofs.YtibekkfbpmloiabGreatDoor.Recs
