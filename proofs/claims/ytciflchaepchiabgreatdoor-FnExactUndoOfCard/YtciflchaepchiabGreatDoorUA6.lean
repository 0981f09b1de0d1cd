/- Parts of several texts of mine in one file (each begins with its own remark). -/
import Derived.Test.YtciflchaepchiabGreatDoorUA1
import Derived.Test.YtciflchaepchiabGreatDoorUA2
import Derived.Test.YtciflchaepchiabGreatDoorUA3
import Derived.Test.YtciflchaepchiabGreatDoorUA4
import Derived.Test.YtciflchaepchiabGreatDoorUA5
import Derived.Test.YtciflchaepchiabGreatDoorChecked
import Derived.Deep.Slices
import Derived.OpenShut
import Derived.ShutString
import Derived.ChangeArms
import Derived.WideShapes
import Derived.Lib.LaidTab
import Derived.BigQuiet
import Derived.Deep.QuietTactic
import Derived.Deep.RegionHeld3
import Derived.StillTailTactics
import Derived.Deep.Draws
import Derived.Deep.LoopGhost
import Derived.WalkKit
import Derived.WalkSpells
import Derived.WalkSmall
import Derived.Lib.OthersKept
import Derived.Lib.Hide
import Derived.Lib.Strings
import Derived.Lib.Join
import Derived.Laws.BytesArg
/- What is above a path, by its parts: the paths of which the parts are the first parts of it. -/
namespace Go.Proofs.YtciflchaepchiabGreatDoor.Recs
open Go.RowKit Paths

theorem up_below {p : ByteArray} (h : pathB p.data.toList = true) (q : ByteArray) : q ∈ ups p ↔ belowP (cutAt 47 p.data.toList) (cutAt 47 q.data.toList) = true := by
  have hq : 0 < (cutAt 47 q.data.toList).length := by
    rcases Nat.eq_zero_or_pos (cutAt 47 q.data.toList).length with h0 | h0
    · exact absurd (List.eq_nil_of_length_eq_zero h0) (cutAt_ne 47 _)
    · exact h0
  refine path_ind (P := fun p => q ∈ ups p ↔ belowP (cutAt 47 p.data.toList) (cutAt 47 q.data.toList) = true) ?_ ?_ p h
  · intro p hp hn
    rw [ups_step hp, if_pos hn]
    rcases parent_cases hp with ⟨_, h2, _⟩ | ⟨_, _, h3, _⟩
    · rw [h2]
      unfold belowP
      constructor
      · intro hm; cases hm
      · intro hm
        simp only [Bool.and_eq_true, decide_eq_true_eq, List.length_singleton] at hm
        omega
    · exact absurd hn h3
  · intro p hp hn h1 ih
    rw [ups_step hp, if_neg hn]
    rcases parent_cases hp with ⟨h2, _⟩ | ⟨_, h2, _, _, _⟩
    · exact absurd h2 hn
    · have e := cut_parent p.data.toList
      rw [← h2] at e
      have ih' := ih
      rw [parO_data] at ih'
      generalize hA : cutAt 47 (parentL p.data.toList) = A at e ih'
      generalize hB : cutAt 47 q.data.toList = B at ih' hq ⊢
      rw [e]
      rw [List.mem_cons, ih']
      unfold belowP
      simp only [Bool.and_eq_true, decide_eq_true_eq, beq_iff_eq, List.length_append, List.length_singleton]
      constructor
      · rintro (rfl | ⟨h3, h4⟩)
        · rw [parO_data, hA] at hB
          subst hB
          exact ⟨by omega, by simp⟩
        · refine ⟨by omega, ?_⟩
          rw [List.take_append_of_le_length (by omega)]
          exact h4
      · rintro ⟨h3, h4⟩
        rcases Nat.lt_or_ge B.length A.length with h5 | h5
        · rw [List.take_append_of_le_length (by omega)] at h4
          exact .inr ⟨h5, h4⟩
        · left
          have h6 : B.length = A.length := by omega
          rw [h6, List.take_left'  rfl] at h4
          apply bytes_cut
          rw [parO_data, hA, hB, h4]
/-- The same by the strings' own function. -/
theorem isUp_below {p q : ByteArray} (h : pathB p.data.toList = true) : isUp q p = belowL p.data.toList q.data.toList := by
  rw [Bool.eq_iff_iff, isUp_iff, up_below h, below_cut]
end Go.Proofs.YtciflchaepchiabGreatDoor.Recs

/- Resolving a path in a tree, part by part, and what comes out at once. -/
namespace Go.Proofs.YtciflchaepchiabGreatDoor.Recs
open Go.RowKit Paths

/-- The first i + 1 parts of a path. -/
def pre (q : ByteArray) (i : Nat) : ByteArray := ⟨(Lib.join ((cutAt 47 q.data.toList).take (i + 1)) [47]).toArray⟩
def nparts (q : ByteArray) : Nat := (cutAt 47 q.data.toList).length
theorem pre_data (q : ByteArray) (i : Nat) : (pre q i).data.toList = Lib.join ((cutAt 47 q.data.toList).take (i + 1)) [47] := rfl
theorem nparts_pos (q : ByteArray) : 0 < nparts q := cutAt_pos 47 _
theorem pre_cut {q : ByteArray} (h : pathB q.data.toList = true) (i : Nat) : cutAt 47 (pre q i).data.toList = (cutAt 47 q.data.toList).take (i + 1) := by
  rw [pre_data]
  refine clean_of_all ?_ ?_
  · have := (pathB_parts h).2
    rw [List.all_eq_true] at this ⊢
    exact fun x hx => this x (List.mem_of_mem_take hx)
  · intro e
    have h1 := congrArg List.length e
    have h2 := nparts_pos q
    unfold nparts at h2
    rw [List.length_take, List.length_nil] at h1
    omega
theorem pre_path {q : ByteArray} (h : pathB q.data.toList = true) (i : Nat) : pathB (pre q i).data.toList = true := by
  unfold pathB
  rw [pre_cut h]
  obtain ⟨h1, h2⟩ := pathB_parts h
  simp only [Bool.and_eq_true, decide_eq_true_eq]
  refine ⟨by rw [List.length_take]; omega, ?_⟩
  rw [List.all_eq_true] at h2 ⊢
  exact fun x hx => h2 x (List.mem_of_mem_take hx)
theorem pre_last {q : ByteArray} (i : Nat) (hi : nparts q ≤ i + 1) : pre q i = q := by
  apply ByteArray.ext
  apply Array.toList_inj.1
  rw [pre_data, List.take_of_length_le hi, join_cut]
theorem pre_up {q : ByteArray} (h : pathB q.data.toList = true) {i j : Nat} (hij : i < j) (hj : j < nparts q) : pre q i ∈ ups (pre q j) := by
  rw [up_below (pre_path h j), pre_cut h, pre_cut h]
  unfold belowP
  unfold nparts at hj
  simp only [Bool.and_eq_true, decide_eq_true_eq, beq_iff_eq, List.length_take]
  refine ⟨by omega, ?_⟩
  rw [List.take_take]
  congr 1
  omega
theorem pre_ups {q : ByteArray} (h : pathB q.data.toList = true) {i : Nat} (hi : i + 1 < nparts q) : pre q i ∈ ups q := by
  have := pre_up h (i := i) (j := nparts q - 1) (by omega) (by omega)
  rwa [pre_last (nparts q - 1) (by omega)] at this
theorem ups_pre {q a : ByteArray} (h : pathB q.data.toList = true) (ha : a ∈ ups q) : ∃ i, i + 1 < nparts q ∧ a = pre q i := by
  have hp := ups_path h a ha
  rw [up_below h] at ha
  unfold belowP at ha
  simp only [Bool.and_eq_true, decide_eq_true_eq, beq_iff_eq] at ha
  have h1 := nparts_pos a
  unfold nparts at h1 ⊢
  refine ⟨(cutAt 47 a.data.toList).length - 1, by omega, bytes_cut ?_⟩
  rw [pre_cut h, Nat.sub_add_cancel h1]
  exact ha.2.symm

/-- Resolving, from the i-th part on: the node, or the code. -/
def findFrom (t : List R) (q : ByteArray) (i : Nat) : R × Int :=
  if i < nparts q then
    (if atL t (pre q i) < 0 then (⟨0, 0, ByteArray.empty, ByteArray.empty, false⟩, 5)
     else if i + 1 = nparts q then ((t[(atL t (pre q i)).toNat]?).getD ⟨0, 0, ByteArray.empty, ByteArray.empty, false⟩, 0)
     else if (t[(atL t (pre q i)).toNat]?).any (fun x => decide (x.k ≠ 3)) then (⟨0, 0, ByteArray.empty, ByteArray.empty, false⟩, 13) else findFrom t q (i + 1))
  else (⟨0, 0, ByteArray.empty, ByteArray.empty, false⟩, 5)
termination_by nparts q - i
/-- What is in the way of a path: one above it that is no directory. -/
def blocked (t : List R) (q : ByteArray) : Bool := (ups q).any fun a => (recAt t a).any fun x => decide (x.k ≠ 3)
def findT (t : List R) (q : ByteArray) : R × Int := match recAt t q with
  | some r => (r, 0)
  | none => (⟨0, 0, ByteArray.empty, ByteArray.empty, false⟩, if blocked t q then 13 else 5)
theorem blocked_iff {t : List R} {q : ByteArray} : blocked t q = true ↔ ∃ a ∈ ups q, ∃ r, recAt t a = some r ∧ r.k ≠ 3 := by
  unfold blocked
  rw [List.any_eq_true]
  constructor
  · rintro ⟨a, ha, h⟩
    cases hr : recAt t a with
    | none => rw [hr] at h; cases h
    | some r => rw [hr] at h; exact ⟨a, ha, r, hr, by simpa using h⟩
  · rintro ⟨a, ha, r, hr, hk⟩
    exact ⟨a, ha, by rw [hr]; simpa using hk⟩
theorem dir_up {t : List R} (ht : IsTree t) {q : ByteArray} {r : R} (hr : recAt t q = some r) {a : ByteArray} (ha : a ∈ ups q) : ∃ x, recAt t a = some x ∧ x.k = 3 := by
  obtain ⟨hm, rfl⟩ := recAt_mem hr
  obtain ⟨n, hn, rfl, hk⟩ := housed_ups ht.housed (ht.path r hm) r hm rfl a ha
  exact ⟨n, recAt_of ht.sorted hn, hk⟩
theorem find_closed {t : List R} (ht : IsTree t) {q : ByteArray} (h : pathB q.data.toList = true) : ∀ (n i : Nat), nparts q - i = n → i < nparts q → (∀ j, j < i → ∃ r, recAt t (pre q j) = some r ∧ r.k = 3) → findFrom t q i = findT t q := by
  intro n
  induction n with
  | zero => intro i hi hlt _; omega
  | succ n ih =>
    intro i hi hlt hdir
    rw [findFrom, if_pos hlt]
    rcases atL_recAt t (pre q i) with ⟨h1, h2⟩ | ⟨k, hk, h1, h2⟩
    · rw [h1, if_pos (by decide)]
      have hq : recAt t q = none := by
        cases hr : recAt t q with
        | none => rfl
        | some r =>
          by_cases hl : i + 1 < nparts q
          · obtain ⟨x, hx, _⟩ := dir_up ht hr (pre_ups h hl)
            rw [h2] at hx; cases hx
          · rw [pre_last i (by omega)] at h2
            rw [h2] at hr; cases hr
      have hb : blocked t q = false := by
        rw [Bool.eq_false_iff]
        intro hb
        obtain ⟨a, ha, r, hr, hk⟩ := blocked_iff.1 hb
        obtain ⟨j, hj, rfl⟩ := ups_pre h ha
        rcases Nat.lt_trichotomy j i with h3 | h3 | h3
        · obtain ⟨x, hx, hxk⟩ := hdir j h3
          rw [hr] at hx; cases hx; exact hk hxk
        · subst h3; rw [h2] at hr; cases hr
        · obtain ⟨x, hx, _⟩ := dir_up ht hr (pre_up h h3 (by omega))
          rw [h2] at hx; cases hx
      unfold findT
      rw [hq, hb]
      rfl
    · rw [h1, if_neg (by omega), Int.toNat_natCast, List.getElem?_eq_getElem hk]
      by_cases hl : i + 1 = nparts q
      · rw [if_pos hl]
        rw [pre_last i (by omega)] at h2
        unfold findT
        rw [h2]
        rfl
      · rw [if_neg hl]
        by_cases h3 : t[k].k = 3
        · rw [if_neg (by simpa using h3)]
          refine ih (i + 1) (by omega) (by omega) fun j hj => ?_
          rcases Nat.lt_or_ge j i with h4 | h4
          · exact hdir j h4
          · obtain rfl : j = i := by omega
            exact ⟨_, h2, h3⟩
        · rw [if_pos (by simpa using h3)]
          have hup := pre_ups h (i := i) (by omega)
          have hq : recAt t q = none := by
            cases hr : recAt t q with
            | none => rfl
            | some r =>
              obtain ⟨x, hx, hxk⟩ := dir_up ht hr hup
              rw [h2] at hx; cases hx; exact absurd hxk h3
          unfold findT
          rw [hq, blocked_iff.2 ⟨_, hup, _, h2, h3⟩]
          rfl
/-- Resolving part by part comes to this. -/
theorem find_is {t : List R} (ht : IsTree t) {q : ByteArray} (h : pathB q.data.toList = true) : findFrom t q 0 = findT t q :=
  find_closed ht h _ 0 rfl (nparts_pos q) (fun j hj => by omega)
end Go.Proofs.YtciflchaepchiabGreatDoor.Recs

/- Adding a node to a tree and removing one, plain: where it goes, and that a tree stays a tree. -/
namespace Go.Proofs.YtciflchaepchiabGreatDoor.Recs
open Go.RowKit Paths

theorem lessR_trans {x y z : R} (h : lessR x y = true) (k : lessR y z = true) : lessR x z = true := lessP_trans _ _ _ h k
theorem lessR_asymm {x y : R} (h : lessR x y = true) : lessR y x = false := lessP_asymm _ _ h
theorem lessR_path {x y n : R} (h : x.p = y.p) : lessR x n = lessR y n := by unfold lessR; rw [h]
theorem put_head {t : List R} (h : Sorted t) (n : R) : t.takeWhile (fun x => lessR x n) = t.filter (fun x => lessR x n) := by
  induction t with
  | nil => rfl
  | cons x t ih =>
    unfold Sorted at h ih
    rw [List.pairwise_cons] at h
    rcases Bool.eq_false_or_eq_true (lessR x n) with hx | hx
    · rw [List.takeWhile_cons_of_pos (p := fun x => lessR x n) hx, List.filter_cons_of_pos (p := fun x => lessR x n) hx, ih h.2]
    · rw [List.takeWhile_cons_of_neg (p := fun x => lessR x n) (by simp [hx]), List.filter_cons_of_neg (p := fun x => lessR x n) (by simp [hx])]
      symm
      rw [List.filter_eq_nil_iff]
      intro y hy hn
      rw [lessR_trans (h.1 y hy) hn] at hx
      cases hx
theorem put_tail {t : List R} (h : Sorted t) (n : R) : t.filter (fun x => lessR n x) = (if (t.dropWhile (fun x => lessR x n)).head?.any (fun x => decide (x.p = n.p)) then (t.dropWhile (fun x => lessR x n)).tail else t.dropWhile (fun x => lessR x n)) := by
  induction t with
  | nil => rfl
  | cons x t ih =>
    unfold Sorted at h ih
    rw [List.pairwise_cons] at h
    rcases Bool.eq_false_or_eq_true (lessR x n) with hx | hx
    · rw [List.dropWhile_cons_of_pos (p := fun x => lessR x n) hx, List.filter_cons_of_neg (p := fun x => lessR n x) (by simp [lessR_asymm hx]), ih h.2]
    · rw [List.dropWhile_cons_of_neg (p := fun x => lessR x n) (by simp [hx])]
      simp only [List.head?_cons, Option.any_some, decide_eq_true_eq, List.tail_cons]
      by_cases he : x.p = n.p
      · rw [if_pos he, List.filter_cons_of_neg (p := fun x => lessR n x) (by rw [← lessR_path he, lessR_irrefl]; decide)]
        rw [List.filter_eq_self]
        intro y hy
        rw [← lessR_path he]
        exact h.1 y hy
      · rw [if_neg he]
        have hn : lessR n x = true := by
          rcases less_or he with h1 | h1
          · rw [h1] at hx; cases hx
          · exact h1
        rw [List.filter_cons_of_pos (p := fun x => lessR n x) hn]
        congr 1
        rw [List.filter_eq_self]
        intro y hy
        exact lessR_trans hn (h.1 y hy)
/-- The place where a node goes: behind those that are less. -/
def placeOf (t : List R) (n : R) : Nat := (t.takeWhile (fun x => lessR x n)).length
theorem place_take (t : List R) (n : R) : t.take (placeOf t n) = t.takeWhile (fun x => lessR x n) := by
  unfold placeOf
  conv => lhs; rw [← List.takeWhile_append_dropWhile (p := fun x => lessR x n) (l := t)]
  rw [List.takeWhile_append_dropWhile]
  conv => lhs; arg 2; rw [← List.takeWhile_append_dropWhile (p := fun x => lessR x n) (l := t)]
  rw [List.take_left' rfl]
theorem place_drop (t : List R) (n : R) : t.drop (placeOf t n) = t.dropWhile (fun x => lessR x n) := by
  unfold placeOf
  conv => lhs; arg 2; rw [← List.takeWhile_append_dropWhile (p := fun x => lessR x n) (l := t)]
  rw [List.drop_left' rfl]
/-- As the model puts it. -/
theorem put_is {t : List R} (h : Sorted t) (n : R) :
    putL t n = t.take (placeOf t n) ++ n :: (if (t[placeOf t n]?).any (fun x => decide (x.p = n.p)) then t.drop (placeOf t n + 1) else t.drop (placeOf t n)) := by
  unfold putL
  rw [← put_head h, put_tail h, place_take, place_drop]
  have e1 : (t.dropWhile (fun x => lessR x n)).head? = t[placeOf t n]? := by rw [← place_drop, List.head?_drop]
  have e2 : (t.dropWhile (fun x => lessR x n)).tail = t.drop (placeOf t n + 1) := by rw [← place_drop, List.tail_drop]
  rw [e1, e2]
theorem place_less {t : List R} {n : R} {k : Nat} (hk : k < placeOf t n) : ∃ h : k < t.length, lessR t[k] n = true := by
  have hlen : placeOf t n ≤ t.length := by unfold placeOf; exact (List.takeWhile_prefix _).sublist.length_le
  refine ⟨by omega, ?_⟩
  have hm : t[k]'(by omega) ∈ t.takeWhile (fun x => lessR x n) := by
    rw [← place_take]
    exact List.mem_take_iff_getElem.2 ⟨k, by omega, rfl⟩
  have hall : (t.takeWhile (fun x => lessR x n)).all (fun x => lessR x n) = true := List.all_takeWhile
  exact List.all_eq_true.1 hall (t[k]'(by omega)) hm
theorem place_stop {t : List R} {n : R} (h : placeOf t n < t.length) : lessR t[placeOf t n] n = false := by
  have e : t[placeOf t n]? = (t.dropWhile (fun x => lessR x n)).head? := by rw [← place_drop, List.head?_drop]
  rw [List.getElem?_eq_getElem h] at e
  have := List.head?_dropWhile_not (p := fun x => lessR x n) t
  rw [← e] at this
  simpa using this

/-- A tree with a node put into a home of its own is a tree. -/
theorem put_tree {t : List R} (h : Tree t) {n : R} (hk : n.k ≠ 4) (hf : n.fault = 0) (hnew : recAt t n.p = none) (hhome : parentL n.p.data.toList ≠ [] → ∃ x ∈ t, x.p = parO n.p ∧ x.k = 3) (hlen : t.length < 24) : Tree (putL t n) := by
  have hmem := fun x => mem_put (t := t) (n := n) (x := x)
  refine ⟨?_, fun r hr => ?_, fun r hr => ?_, put_sorted h.sorted n, fun r hr hp => ?_⟩
  · have : (putL t n).length ≤ t.length + 1 := by
      unfold putL
      rw [List.length_append, List.length_cons]
      have key : ∀ l : List R, (l.filter (fun x => lessR x n)).length + (l.filter (fun x => lessR n x)).length ≤ l.length := by
        intro l
        induction l with
        | nil => simp
        | cons y l ih =>
          rcases Bool.eq_false_or_eq_true (lessR y n) with h1 | h1
          · rw [List.filter_cons_of_pos (p := fun x => lessR x n) h1, List.filter_cons_of_neg (p := fun x => lessR n x) (by simp [lessR_asymm h1])]
            simp only [List.length_cons]; omega
          · rw [List.filter_cons_of_neg (p := fun x => lessR x n) (by simp [h1])]
            rcases Bool.eq_false_or_eq_true (lessR n y) with h2 | h2
            · rw [List.filter_cons_of_pos (p := fun x => lessR n x) h2]; simp only [List.length_cons]; omega
            · rw [List.filter_cons_of_neg (p := fun x => lessR n x) (by simp [h2])]; simp only [List.length_cons]; omega
      have := key t
      omega
    omega
  · rcases (hmem r).1 hr with rfl | ⟨h1, _⟩
    · exact hk
    · exact h.kind r h1
  · rcases (hmem r).1 hr with rfl | ⟨h1, _⟩
    · exact hf
    · exact h.fault r h1
  · have hold : ∀ x ∈ t, x ∈ putL t n := fun x hx => (hmem x).2 (.inr ⟨hx, fun e => recAt_none hnew x hx e⟩)
    rcases (hmem r).1 hr with rfl | ⟨h1, _⟩
    · obtain ⟨x, hx, h2⟩ := hhome hp
      exact ⟨x, hold x hx, h2⟩
    · obtain ⟨x, hx, h2⟩ := h.housed r h1 hp
      exact ⟨x, hold x hx, h2⟩
end Go.Proofs.YtciflchaepchiabGreatDoor.Recs

/- Trees with what is directly below each node, plain. -/
namespace Go.Proofs.YtciflchaepchiabGreatDoor.Recs
open Go.RowKit Paths

/-- The last part of a path. -/
def lastB (p : ByteArray) : ByteArray := ⟨((cutAt 47 p.data.toList).getLast (cutAt_ne 47 _)).toArray⟩
/-- What the root of a tree is, as a node. -/
def rootR : R := ⟨3, 0, ByteArray.empty, ByteArray.empty, false⟩
/-- What is directly below a path. -/
def kids (t : List R) (p : ByteArray) : List R := t.filter fun c => decide (parO c.p = p)
theorem mem_kids {t : List R} {p : ByteArray} {c : R} : c ∈ kids t p ↔ c ∈ t ∧ parO c.p = p := by unfold kids; rw [List.mem_filter, decide_eq_true_eq]
theorem parO_empty {q : ByteArray} : parO q = ByteArray.empty ↔ parentL q.data.toList = [] := by
  constructor
  · intro h
    have := congrArg (fun b : ByteArray => b.data.toList) h
    rw [parO_data] at this
    exact this
  · intro h
    unfold parO
    rw [h]
    rfl
theorem path_nonempty {q : ByteArray} (h : pathB q.data.toList = true) : q ≠ ByteArray.empty := fun e => by
  rw [e] at h
  exact pathB_ne h rfl
theorem rootR_p : rootR.p = ByteArray.empty := rfl
theorem lastB_data (p : ByteArray) : (lastB p).data.toList = (cutAt 47 p.data.toList).getLast (cutAt_ne 47 _) := rfl
theorem bytes_ext {a b : ByteArray} (h : a.data.toList = b.data.toList) : a = b := ByteArray.ext (Array.toList_inj.1 h)
/-- A path is its parent and its last part. -/
theorem path_two {a b : ByteArray} (ha : pathB a.data.toList = true) (hb : pathB b.data.toList = true) (h1 : parO a = parO b) (h2 : lastB a = lastB b) : a = b := by
  have e1 : parentL a.data.toList = parentL b.data.toList := by rw [← parO_data, ← parO_data, h1]
  have e2 := congrArg (fun x : ByteArray => x.data.toList) h2
  simp only [lastB_data] at e2
  apply bytes_cut
  rw [cut_parent a.data.toList, cut_parent b.data.toList, e2]
  congr 1
  rcases parent_cases ha with ⟨a1, a2, _⟩ | ⟨_, a2, a3, _⟩ <;> rcases parent_cases hb with ⟨b1, b2, _⟩ | ⟨_, b2, b3, _⟩
  · rw [a2, b2]; rfl
  · exact absurd (e1.symm.trans a1) b3
  · exact absurd (e1.trans b1) a3
  · rw [← a2, ← b2, e1]
theorem pre_parent {q : ByteArray} (h : pathB q.data.toList = true) {i : Nat} (hi : i + 1 < nparts q) : parO (pre q (i + 1)) = pre q i := by
  apply bytes_ext
  rw [parO_data]
  unfold parentL
  rw [pre_cut h, pre_data]
  congr 1
  unfold nparts at hi
  rw [List.dropLast_eq_take, List.take_take, List.length_take]
  congr 1
  omega
theorem pre_parent0 {q : ByteArray} (h : pathB q.data.toList = true) : parO (pre q 0) = ByteArray.empty := by
  rw [parO_empty]
  unfold parentL
  rw [pre_cut h]
  have := nparts_pos q
  unfold nparts at this
  match hc : cutAt 47 q.data.toList, this with
  | x :: t, _ => rfl
theorem pre_lastB {q : ByteArray} (h : pathB q.data.toList = true) {i : Nat} (hi : i < nparts q) : lastB (pre q i) = ⟨((cutAt 47 q.data.toList)[i]'hi).toArray⟩ := by
  unfold lastB
  congr 2
  have hl : (cutAt 47 (pre q i).data.toList).length = i + 1 := by
    rw [pre_cut h, List.length_take]
    unfold nparts at hi
    omega
  rw [List.getLast_eq_getElem]
  have : ∀ (A B : List (List UInt8)) (e : A = B) (n m : Nat) (hn : n < A.length) (hm : m < B.length), n = m → A[n] = B[m] := by
    intro A B e n m hn hm e2
    subst e e2
    rfl
  rw [this _ _ (pre_cut h i) _ i _ (by rw [List.length_take]; unfold nparts at hi; omega) (by omega), List.getElem_take]
  rfl
/-- Among what is directly below, the one of a last part. -/
theorem kid_find {t : List R} (ht : ∀ r ∈ t, pathB r.p.data.toList = true) {c : ByteArray} (hc : pathB c.data.toList = true) {p x : ByteArray} (hp : parO c = p) (hx : lastB c = x) :
    (kids t p).find? (fun r => decide (lastB r.p = x)) = recAt t c := by
  unfold kids recAt
  rw [List.find?_filter]
  subst hp hx
  induction t with
  | nil => rfl
  | cons r t ih =>
    have hr := ht r (List.mem_cons_self ..)
    have ih' := ih fun r hm => ht r (List.mem_cons_of_mem _ hm)
    by_cases he : r.p = c
    · rw [List.find?_cons_of_pos (by simp [he]), List.find?_cons_of_pos (by simp [he])]
    · have : ¬ (parO r.p = parO c ∧ lastB r.p = lastB c) := fun h => he (path_two hr hc h.1 h.2)
      rw [List.find?_cons_of_neg (by simpa using this), List.find?_cons_of_neg (by simpa using he)]
      exact ih'
theorem sorted_filter {t : List R} (h : Sorted t) (f : R → Bool) : Sorted (t.filter f) := List.Pairwise.filter _ h
theorem up_self {q : ByteArray} (h : pathB q.data.toList = true) : q ∉ ups q := fun hm => by
  have := ups_less h q hm
  rw [lessP_irrefl] at this
  cases this
theorem ups_of_par {q : ByteArray} (h : pathB q.data.toList = true) (hp : parO q ≠ ByteArray.empty) : ups q = parO q :: ups (parO q) := by
  rw [ups_step h, if_neg (fun e => hp (parO_empty.2 e))]
end Go.Proofs.YtciflchaepchiabGreatDoor.Recs

/- Trees, plain: all that is below a path, by what is directly below it; what putting a node in and taking one out do to what is directly below. -/
namespace Go.Proofs.YtciflchaepchiabGreatDoor.Recs
open Go.RowKit Paths

theorem kids_sorted {t : List R} (h : Sorted t) (p : ByteArray) : Sorted (kids t p) := sorted_filter h _
/-- Where a node has no fellow: it goes between those that are less and those that are not. -/
theorem put_new {t : List R} (h : Sorted t) {n : R} (hn : recAt t n.p = none) : putL t n = t.take (placeOf t n) ++ n :: t.drop (placeOf t n) := by
  rw [put_is h, if_neg]
  intro e
  cases hg : t[placeOf t n]? with
  | none => rw [hg] at e; cases e
  | some x =>
    rw [hg] at e
    have hm := List.mem_of_getElem? hg
    exact recAt_none hn x hm (by simpa using e)
theorem kids_put {t : List R} (h : Sorted t) {n : R} (hn : recAt t n.p = none) (p : ByteArray) : kids (putL t n) p = if parO n.p = p then putL (kids t p) n else kids t p := by
  have e := put_new h hn
  by_cases hp : parO n.p = p
  · rw [if_pos hp]
    unfold putL kids
    rw [List.filter_append, List.filter_cons_of_pos (by simpa using hp)]
    simp only [List.filter_filter, Bool.and_comm]
  · rw [if_neg hp, e]
    conv => rhs; rw [← List.take_append_drop (placeOf t n) t]
    unfold kids
    rw [List.filter_append, List.filter_cons_of_neg (by simpa using hp), List.filter_append]
theorem recAt_kids {t : List R} {q p : ByteArray} (h : recAt t q = none) : recAt (kids t p) q = none := by
  unfold recAt at h ⊢
  rw [List.find?_eq_none] at h ⊢
  exact fun x hx => h x (mem_kids.1 hx).1
/-- Among what is directly below one, the last part decides. -/
theorem lessP_last : ∀ (A : List (List UInt8)) (x y : List UInt8), lessP (A ++ [x]) (A ++ [y]) = Op.bytesLess x y
  | [], x, y => by
    unfold lessP
    by_cases h : x = y
    · subst h; simp [lessP, bytesLess_irrefl]
    · simp [h]
  | a :: A, x, y => by
    have := lessP_last A x y
    simp only [List.cons_append, lessP]
    simpa using this
theorem less_kid {a b : ByteArray} (ha : pathB a.data.toList = true) (hb : pathB b.data.toList = true) (h : parO a = parO b) : lessP (cutAt 47 a.data.toList) (cutAt 47 b.data.toList) = Op.bytesLess (lastB a).data.toList (lastB b).data.toList := by
  have e1 : parentL a.data.toList = parentL b.data.toList := by rw [← parO_data, ← parO_data, h]
  have e2 : (cutAt 47 a.data.toList).dropLast = (cutAt 47 b.data.toList).dropLast := by
    rcases parent_cases ha with ⟨a1, a2, _⟩ | ⟨_, a2, a3, _⟩ <;> rcases parent_cases hb with ⟨b1, b2, _⟩ | ⟨_, b2, b3, _⟩
    · rw [a2, b2]; rfl
    · exact absurd (e1.symm.trans a1) b3
    · exact absurd (e1.trans b1) a3
    · rw [← a2, ← b2, e1]
  rw [cut_parent a.data.toList, cut_parent b.data.toList, e2, lessP_last]
  rfl
/-- What stays directly below one that stays. -/
theorem kids_without {t : List R} (ht : ∀ r ∈ t, pathB r.p.data.toList = true) {q : ByteArray} (hq : pathB q.data.toList = true) {p : ByteArray} (hp : p ≠ q ∧ q ∉ ups p) :
    kids (withoutL t q true) p = (kids t p).filter fun c => !(decide (parO q = p) && decide (lastB c.p = lastB q)) := by
  unfold kids withoutL
  rw [List.filter_filter, List.filter_filter]
  apply List.filter_congr
  intro x hx
  have hxp := ht x hx
  by_cases hpar : parO x.p = p
  · have hup : q ∉ ups x.p := by
      intro hm
      by_cases he : parO x.p = ByteArray.empty
      · rw [ups_step hxp, if_pos (parO_empty.1 he)] at hm; cases hm
      · rw [ups_of_par hxp he, hpar, List.mem_cons] at hm
        rcases hm with hm | hm
        · exact hp.1 hm.symm
        · exact hp.2 hm
    have h1 : isUp q x.p = false := isUp_no.2 hup
    rw [h1, decide_eq_true hpar]
    simp only [Bool.not_false, Bool.true_and, Bool.and_true]
    by_cases he : x.p = q
    · subst he
      simp [hpar]
    · have : ¬ (parO q = p ∧ lastB x.p = lastB q) := fun h => he (path_two hxp hq (hpar.trans h.1.symm) h.2)
      rw [decide_eq_false he]
      by_cases h1 : parO q = p
      · have h2 : ¬ lastB x.p = lastB q := fun e => this ⟨h1, e⟩
        simp [h1, h2]
      · simp [h1]
  · rw [decide_eq_false hpar]
    simp
end Go.Proofs.YtciflchaepchiabGreatDoor.Recs

/- Trees and applying, plain: a node added and taken out again; what a layer makes of nothing; what a tree shows of a layer and of the tree before. -/
namespace Go.Proofs.YtciflchaepchiabGreatDoor.Recs
open Go.RowKit Paths

theorem put_len {t : List R} (h : Sorted t) {n : R} (hn : recAt t n.p = none) : (putL t n).length = t.length + 1 := by
  have hpl : placeOf t n ≤ t.length := by unfold placeOf; exact (List.takeWhile_prefix _).sublist.length_le
  rw [put_new h hn, List.length_append, List.length_cons, List.length_take, List.length_drop]
  omega
section
variable {l t : List R}
theorem nodeOf_fault {r : R} (h : r.fault = 0) : (nodeOf r).fault = 0 := by
  have key : ∀ (k : Int) (p : List UInt8) (z : Nat) (m : Int) (o : Bool), faultI k p z m o = 0 → faultI k p z m false = 0 := by
    intro k p z m o h
    cases o with
    | false => exact h
    | true =>
      unfold faultI at h ⊢
      split at h
      · omega
      · split at h
        · omega
        · split at h
          · omega
          · split at h
            · omega
            · rename_i h1 h2 h3 h4
              have h6 := (not_or.1 h4).1
              rw [if_neg h1, if_neg h2, if_neg h3, if_neg (by rintro (h7 | h7); exact h6 h7; exact absurd h7.1 (by decide))]
              exact h
  exact key _ _ _ _ _ h
/-- The result is a tree in full, if it is short enough. -/
theorem apply_full (hl : layerOK l = true) (ht : Tree t) (hlen : (applyL l t).length ≤ 24) : Tree (applyL l t) := by
  have hL := layer_is hl
  have hI := apply_tree hL ht.is
  have hm := mem_apply ht.is l hL.sorted hL.path
  refine ⟨hlen, fun r hr => ?_, fun r hr => ?_, hI.sorted, hI.housed⟩
  · rcases (hm r).1 hr with ⟨y, _, h4, rfl⟩ | ⟨h1, _⟩
    · exact h4
    · exact ht.kind r h1
  · rcases (hm r).1 hr with ⟨y, hy, _, rfl⟩ | ⟨h1, _⟩
    · exact nodeOf_fault (layer_rec hl hy)
    · exact ht.fault r h1
end
end Go.Proofs.YtciflchaepchiabGreatDoor.Recs

/- The laws' own marks: markText, and the marks written into a row of strings and read again; eqStringS. -/
namespace Go.Proofs.YtciflchaepchiabGreatDoor.Paths
open Go.RowKit

/-- A slice that reads as the strings L, wherever it lies. -/
def Strs (w : World) (v : Value) (L : List (List UInt8)) : Prop :=
  ∃ A cap, v = .slice A L.length cap ∧ L.length ≤ cap ∧ (0 < L.length → ∃ b off, A = some ⟨b, off, none⟩ ∧ b < w.heap.size ∧ ∀ k p, L[k]? = some p → w.cell? ⟨b, off + k, none⟩ = some (strV p))
theorem Strs.own {w : World} {base : Nat} {v : Value} {L : List (List UInt8)} (h : w.ownsRow base 9 1 v L.length (L.map strV)) : Strs w v L := by
  rcases h.2 with ⟨rfl, hn⟩ | ⟨g, cap, cur, rfl, hb, hg, hc, _⟩
  · exact ⟨none, 0, by rw [hn], by omega, fun h => by omega⟩
  · refine ⟨_, cap, rfl, hc, fun _ => ⟨g, 0, rfl, (Array.getElem?_eq_some_iff.1 hg).1, fun k p hk => ?_⟩⟩
    have := h.cells (g := g) rfl k (strV p) (by simp [hk])
    simpa [Addr.add_lit] using this
theorem Strs.below {w w' : World} {v : Value} {L : List (List UInt8)} (h : Strs w v L) (hb : Below w.heap.size w w') : Strs w' v L := by
  obtain ⟨A, cap, rfl, hc, h⟩ := h
  refine ⟨A, cap, rfl, hc, fun hn => ?_⟩
  obtain ⟨b, off, rfl, hlt, hcell⟩ := h hn
  exact ⟨b, off, rfl, Nat.lt_of_lt_of_le hlt hb.size, fun k p hk => (hb.cell (p := ⟨b, off + k, none⟩) hlt).trans (hcell k p hk)⟩

theorem grown_trans {a b c : World} {row : Option Nat} (h : a.grownBy b row) (k : b.grownBy c row) : a.grownBy c row :=
  ⟨k.os.trans h.os, k.tape.trans h.tape, k.output.trans h.output, Nat.le_trans h.size k.size, fun i hi hne => (k.block i (Nat.lt_of_lt_of_le hi h.size) hne).trans (h.block i hi hne)⟩

end Go.Proofs.YtciflchaepchiabGreatDoor.Paths
