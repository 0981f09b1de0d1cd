/- Several texts of mine in one file (each begins with its own remark). -/
import Derived.Test.YtjiljnfiofmpaaaGreatDoorBun4
/- Trees as plain lists of nodes (records of which Opaque is false): the model's check, record by record, and what it says at once. -/

namespace Go.Proofs.YtjiljnfiofmpaaaGreatDoor.Recs
open Go.RowKit Paths

/-- The parent of a path, where it is no root, stands among the first i and is a directory. -/
def homeOK (t : List R) (i : Nat) (q : ByteArray) : Bool :=
  if parentL q.data.toList = [] then true else decide (0 ≤ atL (t.take i) (parO q)) && (t[(atL (t.take i) (parO q)).toNat]?).all (fun x => decide (x.k = 3))
/-- The node r is fine at place i. -/
def nodeOK (t : List R) (i : Nat) (r : R) : Bool :=
  decide (r.k ≠ 4) && decide (r.fault = 0) && (beforeL t i).all (fun x => lessR x r) && homeOK t i r.p
def treeFrom (t : List R) (i : Nat) : Bool := if h : i < t.length then nodeOK t i t[i] && treeFrom t (i + 1) else true
termination_by t.length - i
def treeOK (t : List R) : Bool := decide (t.length ≤ 24) && treeFrom t 0
theorem treeFrom_step {t : List R} {i : Nat} (h : i < t.length) : treeFrom t i = (nodeOK t i t[i] && treeFrom t (i + 1)) := by rw [treeFrom, dif_pos h]
theorem treeFrom_end {t : List R} {i : Nat} (h : t.length ≤ i) : treeFrom t i = true := by rw [treeFrom, dif_neg (by omega)]
theorem treeFrom_all (t : List R) : ∀ (n i : Nat), t.length - i = n → (treeFrom t i = true ↔ ∀ j (h : j < t.length), i ≤ j → nodeOK t j t[j] = true) := by
  intro n
  induction n with
  | zero =>
    intro i hi
    rw [treeFrom_end (by omega)]
    exact ⟨fun _ j hj hij => by omega, fun _ => rfl⟩
  | succ n ih =>
    intro i hi
    have hlt : i < t.length := by omega
    rw [treeFrom_step hlt, Bool.and_eq_true, ih (i + 1) (by omega)]
    constructor
    · rintro ⟨h1, h2⟩ j hj hij
      rcases Nat.eq_or_lt_of_le hij with rfl | h3
      · exact h1
      · exact h2 j hj h3
    · intro h
      exact ⟨h i hlt (Nat.le_refl _), fun j hj hij => h j hj (by omega)⟩
theorem homeOK_yes {t : List R} {i : Nat} (hi : i ≤ t.length) {q : ByteArray} (h : homeOK t i q = true) (hp : parentL q.data.toList ≠ []) : ∃ k, ∃ hk : k < i, (t[k]'(by omega)).p = parO q ∧ (t[k]'(by omega)).k = 3 := by
  unfold homeOK at h
  rw [if_neg hp, Bool.and_eq_true, decide_eq_true_eq] at h
  rcases atL_cases (t.take i) (parO q) with ⟨h3, _⟩ | ⟨k, hk, h3, h4, _⟩
  · omega
  · have hki : k < i := by rw [List.length_take] at hk; omega
    refine ⟨k, hki, by simpa using h4, ?_⟩
    have h5 := h.2
    rw [h3, Int.toNat_natCast, List.getElem?_eq_getElem (by omega)] at h5
    simpa using h5
theorem nodeOK_parts {t : List R} {i : Nat} (hi : i < t.length) (h : nodeOK t i t[i] = true) :
    t[i].k ≠ 4 ∧ t[i].fault = 0 ∧ (∀ x, beforeL t i = some x → lessR x t[i] = true) ∧ (parentL t[i].p.data.toList ≠ [] → ∃ k, ∃ hk : k < i, (t[k]'(by omega)).p = parO t[i].p ∧ (t[k]'(by omega)).k = 3) := by
  unfold nodeOK at h
  simp only [Bool.and_eq_true, decide_eq_true_eq] at h
  obtain ⟨⟨⟨h1, h2⟩, h3⟩, h4⟩ := h
  refine ⟨h1, h2, fun x hx => ?_, homeOK_yes (by omega) h4⟩
  rw [hx] at h3
  simpa using h3
theorem nexts_sorted {t : List R} (h : ∀ i (hi : i + 1 < t.length), lessR (t[i]'(by omega)) t[i + 1] = true) : Sorted t := by
  have key : ∀ (n i j : Nat) (hj : j < t.length) (hij : j = i + 1 + n), lessR (t[i]'(by omega)) t[j] = true := by
    intro n
    induction n with
    | zero => intro i j hj hij; subst hij; exact h i hj
    | succ n ih =>
      intro i j hj hij
      subst hij
      exact lessP_trans _ _ _ (ih i (i + 1 + n) (by omega) rfl) (h (i + 1 + n) (by omega))
  unfold Sorted
  rw [List.pairwise_iff_getElem]
  exact fun i j _ hj hij => key (j - i - 1) i j hj (by omega)
/-- What a tree is. -/
structure Tree (t : List R) : Prop where
  len : t.length ≤ 24
  kind : ∀ r ∈ t, r.k ≠ 4
  fault : ∀ r ∈ t, r.fault = 0
  sorted : Sorted t
  housed : Housed t
theorem tree_of {t : List R} (h : treeOK t = true) : Tree t := by
  unfold treeOK at h
  rw [Bool.and_eq_true, decide_eq_true_eq] at h
  have hall := (treeFrom_all t _ 0 rfl).1 h.2
  have hp := fun i (hi : i < t.length) => nodeOK_parts hi (hall i hi (Nat.zero_le _))
  refine ⟨h.1, fun r hr => ?_, fun r hr => ?_, nexts_sorted fun i hi => ?_, fun r hr hpar => ?_⟩
  · obtain ⟨i, hi, rfl⟩ := List.getElem_of_mem hr
    exact (hp i hi).1
  · obtain ⟨i, hi, rfl⟩ := List.getElem_of_mem hr
    exact (hp i hi).2.1
  · refine (hp (i + 1) hi).2.2.1 _ ?_
    unfold beforeL
    rw [if_neg (by omega)]
    simp [show i < t.length by omega]
  · obtain ⟨i, hi, rfl⟩ := List.getElem_of_mem hr
    obtain ⟨k, hk, h1, h2⟩ := (hp i hi).2.2.2 hpar
    exact ⟨_, List.getElem_mem _, h1, h2⟩
theorem home_of {t : List R} (hs : Sorted t) (hh : Housed t) {i : Nat} (hi : i < t.length) (hpath : pathB t[i].p.data.toList = true) : homeOK t i t[i].p = true := by
  unfold homeOK
  by_cases hp : parentL t[i].p.data.toList = []
  · rw [if_pos hp]
  · rw [if_neg hp]
    obtain ⟨x, hx, hxp, hxk⟩ := hh _ (List.getElem_mem hi) hp
    obtain ⟨k, hk, rfl⟩ := List.getElem_of_mem hx
    have hki : k < i := by
      rcases Nat.lt_trichotomy k i with h1 | h1 | h1
      · exact h1
      · subst h1
        have h2 := parent_less hpath hp
        rw [← hxp, lessP_irrefl] at h2
        cases h2
      · have h2 := parent_less hpath hp
        have h3 := sorted_get hs hk h1
        unfold lessR at h3
        rw [hxp] at h3
        rw [lessP_asymm _ _ h2] at h3
        cases h3
    rcases atL_cases (t.take i) (parO t[i].p) with ⟨_, h2⟩ | ⟨j, hj, h1, h2, _⟩
    · exact absurd hxp (h2 _ (List.mem_take_iff_getElem.2 ⟨k, by omega, rfl⟩))
    · have hji : j < i := by rw [List.length_take] at hj; omega
      have h2' : (t[j]'(by omega)).p = parO t[i].p := by simpa using h2
      have ejk : j = k := sorted_once hs (by omega) hk (h2'.trans hxp.symm)
      subst ejk
      rw [h1]
      simp [show j < t.length by omega, hxk]
theorem treeOK_of {t : List R} (h : Tree t) : treeOK t = true := by
  unfold treeOK
  rw [Bool.and_eq_true, decide_eq_true_eq]
  refine ⟨h.len, (treeFrom_all t _ 0 rfl).2 fun i hi _ => ?_⟩
  have hm := List.getElem_mem hi
  have hf := h.fault _ hm
  unfold nodeOK
  simp only [Bool.and_eq_true, decide_eq_true_eq]
  refine ⟨⟨⟨h.kind _ hm, hf⟩, ?_⟩, home_of h.sorted h.housed hi (fault_path hf).1⟩
  cases hb : beforeL t i with
  | none => rfl
  | some x =>
    unfold beforeL at hb
    split at hb
    · cases hb
    · rw [List.getElem?_eq_getElem (show i - 1 < t.length by omega)] at hb
      cases hb
      exact sorted_get h.sorted hi (by omega)
theorem treeOK_iff (t : List R) : treeOK t = true ↔ Tree t := ⟨tree_of, treeOK_of⟩
theorem Tree.is {t : List R} (h : Tree t) : IsTree t := ⟨h.sorted, h.housed, fun x hx => (fault_path (h.fault x hx)).1⟩
end Go.Proofs.YtjiljnfiofmpaaaGreatDoor.Recs

/- Resolving a path in a tree, part by part, and what comes out at once. -/

namespace Go.Proofs.YtjiljnfiofmpaaaGreatDoor.Recs
open Go.RowKit Paths

/-- The first i + 1 parts of a path. -/
def pre (q : ByteArray) (i : Nat) : ByteArray := ⟨(Lib.join ((cutAt 47 q.data.toList).take (i + 1)) [47]).toArray⟩
def nparts (q : ByteArray) : Nat := (cutAt 47 q.data.toList).length
theorem pre_data (q : ByteArray) (i : Nat) : (pre q i).data.toList = Lib.join ((cutAt 47 q.data.toList).take (i + 1)) [47] := rfl
theorem nparts_pos (q : ByteArray) : 0 < nparts q := cutAt_pos 47 _
theorem pre_cut {q : ByteArray} (h : pathB q.data.toList = true) (i : Nat) : cutAt 47 (pre q i).data.toList = (cutAt 47 q.data.toList).take (i + 1) := by
  rw [pre_data]
  refine clean_of_all ?_ ?_
  · have := (pathB_parts h).2
    rw [List.all_eq_true] at this ⊢
    exact fun x hx => this x (List.mem_of_mem_take hx)
  · intro e
    have h1 := congrArg List.length e
    have h2 := nparts_pos q
    unfold nparts at h2
    rw [List.length_take, List.length_nil] at h1
    omega
theorem pre_path {q : ByteArray} (h : pathB q.data.toList = true) (i : Nat) : pathB (pre q i).data.toList = true := by
  unfold pathB
  rw [pre_cut h]
  obtain ⟨h1, h2⟩ := pathB_parts h
  simp only [Bool.and_eq_true, decide_eq_true_eq]
  refine ⟨by rw [List.length_take]; omega, ?_⟩
  rw [List.all_eq_true] at h2 ⊢
  exact fun x hx => h2 x (List.mem_of_mem_take hx)
theorem pre_last {q : ByteArray} (i : Nat) (hi : nparts q ≤ i + 1) : pre q i = q := by
  apply ByteArray.ext
  apply Array.toList_inj.1
  rw [pre_data, List.take_of_length_le hi, join_cut]
theorem pre_up {q : ByteArray} (h : pathB q.data.toList = true) {i j : Nat} (hij : i < j) (hj : j < nparts q) : pre q i ∈ ups (pre q j) := by
  rw [up_below (pre_path h j), pre_cut h, pre_cut h]
  unfold belowP
  unfold nparts at hj
  simp only [Bool.and_eq_true, decide_eq_true_eq, beq_iff_eq, List.length_take]
  refine ⟨by omega, ?_⟩
  rw [List.take_take]
  congr 1
  omega
theorem pre_ups {q : ByteArray} (h : pathB q.data.toList = true) {i : Nat} (hi : i + 1 < nparts q) : pre q i ∈ ups q := by
  have := pre_up h (i := i) (j := nparts q - 1) (by omega) (by omega)
  rwa [pre_last (nparts q - 1) (by omega)] at this
theorem ups_pre {q a : ByteArray} (h : pathB q.data.toList = true) (ha : a ∈ ups q) : ∃ i, i + 1 < nparts q ∧ a = pre q i := by
  have hp := ups_path h a ha
  rw [up_below h] at ha
  unfold belowP at ha
  simp only [Bool.and_eq_true, decide_eq_true_eq, beq_iff_eq] at ha
  have h1 := nparts_pos a
  unfold nparts at h1 ⊢
  refine ⟨(cutAt 47 a.data.toList).length - 1, by omega, bytes_cut ?_⟩
  rw [pre_cut h, Nat.sub_add_cancel h1]
  exact ha.2.symm

/-- Resolving, from the i-th part on: the node, or the code. -/
def findFrom (t : List R) (q : ByteArray) (i : Nat) : R × Int :=
  if i < nparts q then
    (if atL t (pre q i) < 0 then (⟨0, 0, ByteArray.empty, ByteArray.empty, false⟩, 5)
     else if i + 1 = nparts q then ((t[(atL t (pre q i)).toNat]?).getD ⟨0, 0, ByteArray.empty, ByteArray.empty, false⟩, 0)
     else if (t[(atL t (pre q i)).toNat]?).any (fun x => decide (x.k ≠ 3)) then (⟨0, 0, ByteArray.empty, ByteArray.empty, false⟩, 13) else findFrom t q (i + 1))
  else (⟨0, 0, ByteArray.empty, ByteArray.empty, false⟩, 5)
termination_by nparts q - i
/-- What is in the way of a path: one above it that is no directory. -/
def blocked (t : List R) (q : ByteArray) : Bool := (ups q).any fun a => (recAt t a).any fun x => decide (x.k ≠ 3)
def findT (t : List R) (q : ByteArray) : R × Int := match recAt t q with
  | some r => (r, 0)
  | none => (⟨0, 0, ByteArray.empty, ByteArray.empty, false⟩, if blocked t q then 13 else 5)
theorem blocked_iff {t : List R} {q : ByteArray} : blocked t q = true ↔ ∃ a ∈ ups q, ∃ r, recAt t a = some r ∧ r.k ≠ 3 := by
  unfold blocked
  rw [List.any_eq_true]
  constructor
  · rintro ⟨a, ha, h⟩
    cases hr : recAt t a with
    | none => rw [hr] at h; cases h
    | some r => rw [hr] at h; exact ⟨a, ha, r, hr, by simpa using h⟩
  · rintro ⟨a, ha, r, hr, hk⟩
    exact ⟨a, ha, by rw [hr]; simpa using hk⟩
theorem dir_up {t : List R} (ht : IsTree t) {q : ByteArray} {r : R} (hr : recAt t q = some r) {a : ByteArray} (ha : a ∈ ups q) : ∃ x, recAt t a = some x ∧ x.k = 3 := by
  obtain ⟨hm, rfl⟩ := recAt_mem hr
  obtain ⟨n, hn, rfl, hk⟩ := housed_ups ht.housed (ht.path r hm) r hm rfl a ha
  exact ⟨n, recAt_of ht.sorted hn, hk⟩
theorem find_closed {t : List R} (ht : IsTree t) {q : ByteArray} (h : pathB q.data.toList = true) : ∀ (n i : Nat), nparts q - i = n → i < nparts q → (∀ j, j < i → ∃ r, recAt t (pre q j) = some r ∧ r.k = 3) → findFrom t q i = findT t q := by
  intro n
  induction n with
  | zero => intro i hi hlt _; omega
  | succ n ih =>
    intro i hi hlt hdir
    rw [findFrom, if_pos hlt]
    rcases atL_recAt t (pre q i) with ⟨h1, h2⟩ | ⟨k, hk, h1, h2⟩
    · rw [h1, if_pos (by decide)]
      have hq : recAt t q = none := by
        cases hr : recAt t q with
        | none => rfl
        | some r =>
          by_cases hl : i + 1 < nparts q
          · obtain ⟨x, hx, _⟩ := dir_up ht hr (pre_ups h hl)
            rw [h2] at hx; cases hx
          · rw [pre_last i (by omega)] at h2
            rw [h2] at hr; cases hr
      have hb : blocked t q = false := by
        rw [Bool.eq_false_iff]
        intro hb
        obtain ⟨a, ha, r, hr, hk⟩ := blocked_iff.1 hb
        obtain ⟨j, hj, rfl⟩ := ups_pre h ha
        rcases Nat.lt_trichotomy j i with h3 | h3 | h3
        · obtain ⟨x, hx, hxk⟩ := hdir j h3
          rw [hr] at hx; cases hx; exact hk hxk
        · subst h3; rw [h2] at hr; cases hr
        · obtain ⟨x, hx, _⟩ := dir_up ht hr (pre_up h h3 (by omega))
          rw [h2] at hx; cases hx
      unfold findT
      rw [hq, hb]
      rfl
    · rw [h1, if_neg (by omega), Int.toNat_natCast, List.getElem?_eq_getElem hk]
      by_cases hl : i + 1 = nparts q
      · rw [if_pos hl]
        rw [pre_last i (by omega)] at h2
        unfold findT
        rw [h2]
        rfl
      · rw [if_neg hl]
        by_cases h3 : t[k].k = 3
        · rw [if_neg (by simpa using h3)]
          refine ih (i + 1) (by omega) (by omega) fun j hj => ?_
          rcases Nat.lt_or_ge j i with h4 | h4
          · exact hdir j h4
          · obtain rfl : j = i := by omega
            exact ⟨_, h2, h3⟩
        · rw [if_pos (by simpa using h3)]
          have hup := pre_ups h (i := i) (by omega)
          have hq : recAt t q = none := by
            cases hr : recAt t q with
            | none => rfl
            | some r =>
              obtain ⟨x, hx, hxk⟩ := dir_up ht hr hup
              rw [h2] at hx; cases hx; exact absurd hxk h3
          unfold findT
          rw [hq, blocked_iff.2 ⟨_, hup, _, h2, h3⟩]
          rfl
/-- Resolving part by part comes to this. -/
theorem find_is {t : List R} (ht : IsTree t) {q : ByteArray} (h : pathB q.data.toList = true) : findFrom t q 0 = findT t q :=
  find_closed ht h _ 0 rfl (nparts_pos q) (fun j hj => by omega)
end Go.Proofs.YtjiljnfiofmpaaaGreatDoor.Recs

/- Adding a node to a tree and removing one, plain: where it goes, and that a tree stays a tree. -/

namespace Go.Proofs.YtjiljnfiofmpaaaGreatDoor.Recs
open Go.RowKit Paths

theorem lessR_trans {x y z : R} (h : lessR x y = true) (k : lessR y z = true) : lessR x z = true := lessP_trans _ _ _ h k
theorem lessR_asymm {x y : R} (h : lessR x y = true) : lessR y x = false := lessP_asymm _ _ h
theorem lessR_path {x y n : R} (h : x.p = y.p) : lessR x n = lessR y n := by unfold lessR; rw [h]
theorem lessR_path' {x y n : R} (h : x.p = y.p) : lessR n x = lessR n y := by unfold lessR; rw [h]
theorem put_head {t : List R} (h : Sorted t) (n : R) : t.takeWhile (fun x => lessR x n) = t.filter (fun x => lessR x n) := by
  induction t with
  | nil => rfl
  | cons x t ih =>
    unfold Sorted at h ih
    rw [List.pairwise_cons] at h
    rcases Bool.eq_false_or_eq_true (lessR x n) with hx | hx
    · rw [List.takeWhile_cons_of_pos (p := fun x => lessR x n) hx, List.filter_cons_of_pos (p := fun x => lessR x n) hx, ih h.2]
    · rw [List.takeWhile_cons_of_neg (p := fun x => lessR x n) (by simp [hx]), List.filter_cons_of_neg (p := fun x => lessR x n) (by simp [hx])]
      symm
      rw [List.filter_eq_nil_iff]
      intro y hy hn
      rw [lessR_trans (h.1 y hy) hn] at hx
      cases hx
theorem put_tail {t : List R} (h : Sorted t) (n : R) : t.filter (fun x => lessR n x) = (if (t.dropWhile (fun x => lessR x n)).head?.any (fun x => decide (x.p = n.p)) then (t.dropWhile (fun x => lessR x n)).tail else t.dropWhile (fun x => lessR x n)) := by
  induction t with
  | nil => rfl
  | cons x t ih =>
    unfold Sorted at h ih
    rw [List.pairwise_cons] at h
    rcases Bool.eq_false_or_eq_true (lessR x n) with hx | hx
    · rw [List.dropWhile_cons_of_pos (p := fun x => lessR x n) hx, List.filter_cons_of_neg (p := fun x => lessR n x) (by simp [lessR_asymm hx]), ih h.2]
    · rw [List.dropWhile_cons_of_neg (p := fun x => lessR x n) (by simp [hx])]
      simp only [List.head?_cons, Option.any_some, decide_eq_true_eq, List.tail_cons]
      by_cases he : x.p = n.p
      · rw [if_pos he, List.filter_cons_of_neg (p := fun x => lessR n x) (by rw [← lessR_path he, lessR_irrefl]; decide)]
        rw [List.filter_eq_self]
        intro y hy
        rw [← lessR_path he]
        exact h.1 y hy
      · rw [if_neg he]
        have hn : lessR n x = true := by
          rcases less_or he with h1 | h1
          · rw [h1] at hx; cases hx
          · exact h1
        rw [List.filter_cons_of_pos (p := fun x => lessR n x) hn]
        congr 1
        rw [List.filter_eq_self]
        intro y hy
        exact lessR_trans hn (h.1 y hy)
/-- The place where a node goes: behind those that are less. -/
def placeOf (t : List R) (n : R) : Nat := (t.takeWhile (fun x => lessR x n)).length
theorem place_take (t : List R) (n : R) : t.take (placeOf t n) = t.takeWhile (fun x => lessR x n) := by
  unfold placeOf
  conv => lhs; rw [← List.takeWhile_append_dropWhile (p := fun x => lessR x n) (l := t)]
  rw [List.takeWhile_append_dropWhile]
  conv => lhs; arg 2; rw [← List.takeWhile_append_dropWhile (p := fun x => lessR x n) (l := t)]
  rw [List.take_left' rfl]
theorem place_drop (t : List R) (n : R) : t.drop (placeOf t n) = t.dropWhile (fun x => lessR x n) := by
  unfold placeOf
  conv => lhs; arg 2; rw [← List.takeWhile_append_dropWhile (p := fun x => lessR x n) (l := t)]
  rw [List.drop_left' rfl]
/-- As the model puts it. -/
theorem put_is {t : List R} (h : Sorted t) (n : R) :
    putL t n = t.take (placeOf t n) ++ n :: (if (t[placeOf t n]?).any (fun x => decide (x.p = n.p)) then t.drop (placeOf t n + 1) else t.drop (placeOf t n)) := by
  unfold putL
  rw [← put_head h, put_tail h, place_take, place_drop]
  have e1 : (t.dropWhile (fun x => lessR x n)).head? = t[placeOf t n]? := by rw [← place_drop, List.head?_drop]
  have e2 : (t.dropWhile (fun x => lessR x n)).tail = t.drop (placeOf t n + 1) := by rw [← place_drop, List.tail_drop]
  rw [e1, e2]
theorem place_less {t : List R} {n : R} {k : Nat} (hk : k < placeOf t n) : ∃ h : k < t.length, lessR t[k] n = true := by
  have hlen : placeOf t n ≤ t.length := by unfold placeOf; exact (List.takeWhile_prefix _).sublist.length_le
  refine ⟨by omega, ?_⟩
  have hm : t[k]'(by omega) ∈ t.takeWhile (fun x => lessR x n) := by
    rw [← place_take]
    exact List.mem_take_iff_getElem.2 ⟨k, by omega, rfl⟩
  have hall : (t.takeWhile (fun x => lessR x n)).all (fun x => lessR x n) = true := List.all_takeWhile
  exact List.all_eq_true.1 hall (t[k]'(by omega)) hm
theorem place_stop {t : List R} {n : R} (h : placeOf t n < t.length) : lessR t[placeOf t n] n = false := by
  have e : t[placeOf t n]? = (t.dropWhile (fun x => lessR x n)).head? := by rw [← place_drop, List.head?_drop]
  rw [List.getElem?_eq_getElem h] at e
  have := List.head?_dropWhile_not (p := fun x => lessR x n) t
  rw [← e] at this
  simpa using this

/-- A tree with a node put into a home of its own is a tree. -/
theorem put_tree {t : List R} (h : Tree t) {n : R} (hk : n.k ≠ 4) (hf : n.fault = 0) (hnew : recAt t n.p = none) (hhome : parentL n.p.data.toList ≠ [] → ∃ x ∈ t, x.p = parO n.p ∧ x.k = 3) (hlen : t.length < 24) : Tree (putL t n) := by
  have hmem := fun x => mem_put (t := t) (n := n) (x := x)
  refine ⟨?_, fun r hr => ?_, fun r hr => ?_, put_sorted h.sorted n, fun r hr hp => ?_⟩
  · have : (putL t n).length ≤ t.length + 1 := by
      unfold putL
      rw [List.length_append, List.length_cons]
      have key : ∀ l : List R, (l.filter (fun x => lessR x n)).length + (l.filter (fun x => lessR n x)).length ≤ l.length := by
        intro l
        induction l with
        | nil => simp
        | cons y l ih =>
          rcases Bool.eq_false_or_eq_true (lessR y n) with h1 | h1
          · rw [List.filter_cons_of_pos (p := fun x => lessR x n) h1, List.filter_cons_of_neg (p := fun x => lessR n x) (by simp [lessR_asymm h1])]
            simp only [List.length_cons]; omega
          · rw [List.filter_cons_of_neg (p := fun x => lessR x n) (by simp [h1])]
            rcases Bool.eq_false_or_eq_true (lessR n y) with h2 | h2
            · rw [List.filter_cons_of_pos (p := fun x => lessR n x) h2]; simp only [List.length_cons]; omega
            · rw [List.filter_cons_of_neg (p := fun x => lessR n x) (by simp [h2])]; simp only [List.length_cons]; omega
      have := key t
      omega
    omega
  · rcases (hmem r).1 hr with rfl | ⟨h1, _⟩
    · exact hk
    · exact h.kind r h1
  · rcases (hmem r).1 hr with rfl | ⟨h1, _⟩
    · exact hf
    · exact h.fault r h1
  · have hold : ∀ x ∈ t, x ∈ putL t n := fun x hx => (hmem x).2 (.inr ⟨hx, fun e => recAt_none hnew x hx e⟩)
    rcases (hmem r).1 hr with rfl | ⟨h1, _⟩
    · obtain ⟨x, hx, h2⟩ := hhome hp
      exact ⟨x, hold x hx, h2⟩
    · obtain ⟨x, hx, h2⟩ := h.housed r h1 hp
      exact ⟨x, hold x hx, h2⟩
/-- A tree without a node and all below it is a tree. -/
theorem without_tree {t : List R} (h : Tree t) (q : ByteArray) : Tree (withoutL t q true) := by
  refine ⟨Nat.le_trans (List.length_filter_le _ _) h.len, fun r hr => h.kind r (mem_without.1 hr).1, fun r hr => h.fault r (mem_without.1 hr).1, without_sorted h.sorted q true, fun r hr hp => ?_⟩
  obtain ⟨h1, h2, h3⟩ := mem_without.1 hr
  obtain ⟨x, hx, hxp, hxk⟩ := h.housed r h1 hp
  have hpath := (fault_path (h.fault r h1)).1
  have hup : x.p ∈ ups r.p := by rw [hxp, ups_step hpath, if_neg hp]; exact List.mem_cons_self ..
  refine ⟨x, mem_without.2 ⟨hx, fun hq => h2 (ups_trans hpath q x.p hup hq), fun _ e => h2 (by rw [← e]; exact hup)⟩, hxp, hxk⟩
end Go.Proofs.YtjiljnfiofmpaaaGreatDoor.Recs

/- Trees with what is directly below each node, plain. -/

namespace Go.Proofs.YtjiljnfiofmpaaaGreatDoor.Recs
open Go.RowKit Paths

/-- The last part of a path. -/
def lastB (p : ByteArray) : ByteArray := ⟨((cutAt 47 p.data.toList).getLast (cutAt_ne 47 _)).toArray⟩
/-- What the root of a tree is, as a node. -/
def rootR : R := ⟨3, 0, ByteArray.empty, ByteArray.empty, false⟩
/-- What is directly below a path. -/
def kids (t : List R) (p : ByteArray) : List R := t.filter fun c => decide (parO c.p = p)
theorem mem_kids {t : List R} {p : ByteArray} {c : R} : c ∈ kids t p ↔ c ∈ t ∧ parO c.p = p := by unfold kids; rw [List.mem_filter, decide_eq_true_eq]
theorem parO_empty {q : ByteArray} : parO q = ByteArray.empty ↔ parentL q.data.toList = [] := by
  constructor
  · intro h
    have := congrArg (fun b : ByteArray => b.data.toList) h
    rw [parO_data] at this
    exact this
  · intro h
    unfold parO
    rw [h]
    rfl
theorem path_nonempty {q : ByteArray} (h : pathB q.data.toList = true) : q ≠ ByteArray.empty := fun e => by
  rw [e] at h
  exact pathB_ne h rfl
theorem rootR_p : rootR.p = ByteArray.empty := rfl
theorem lastB_data (p : ByteArray) : (lastB p).data.toList = (cutAt 47 p.data.toList).getLast (cutAt_ne 47 _) := rfl
theorem bytes_ext {a b : ByteArray} (h : a.data.toList = b.data.toList) : a = b := ByteArray.ext (Array.toList_inj.1 h)
/-- A path is its parent and its last part. -/
theorem path_two {a b : ByteArray} (ha : pathB a.data.toList = true) (hb : pathB b.data.toList = true) (h1 : parO a = parO b) (h2 : lastB a = lastB b) : a = b := by
  have e1 : parentL a.data.toList = parentL b.data.toList := by rw [← parO_data, ← parO_data, h1]
  have e2 := congrArg (fun x : ByteArray => x.data.toList) h2
  simp only [lastB_data] at e2
  apply bytes_cut
  rw [cut_parent a.data.toList, cut_parent b.data.toList, e2]
  congr 1
  rcases parent_cases ha with ⟨a1, a2, _⟩ | ⟨_, a2, a3, _⟩ <;> rcases parent_cases hb with ⟨b1, b2, _⟩ | ⟨_, b2, b3, _⟩
  · rw [a2, b2]; rfl
  · exact absurd (e1.symm.trans a1) b3
  · exact absurd (e1.trans b1) a3
  · rw [← a2, ← b2, e1]
theorem pre_parent {q : ByteArray} (h : pathB q.data.toList = true) {i : Nat} (hi : i + 1 < nparts q) : parO (pre q (i + 1)) = pre q i := by
  apply bytes_ext
  rw [parO_data]
  unfold parentL
  rw [pre_cut h, pre_data]
  congr 1
  unfold nparts at hi
  rw [List.dropLast_eq_take, List.take_take, List.length_take]
  congr 1
  omega
theorem pre_parent0 {q : ByteArray} (h : pathB q.data.toList = true) : parO (pre q 0) = ByteArray.empty := by
  rw [parO_empty]
  unfold parentL
  rw [pre_cut h]
  have := nparts_pos q
  unfold nparts at this
  match hc : cutAt 47 q.data.toList, this with
  | x :: t, _ => rfl
theorem pre_lastB {q : ByteArray} (h : pathB q.data.toList = true) {i : Nat} (hi : i < nparts q) : lastB (pre q i) = ⟨((cutAt 47 q.data.toList)[i]'hi).toArray⟩ := by
  unfold lastB
  congr 2
  have hl : (cutAt 47 (pre q i).data.toList).length = i + 1 := by
    rw [pre_cut h, List.length_take]
    unfold nparts at hi
    omega
  rw [List.getLast_eq_getElem]
  have : ∀ (A B : List (List UInt8)) (e : A = B) (n m : Nat) (hn : n < A.length) (hm : m < B.length), n = m → A[n] = B[m] := by
    intro A B e n m hn hm e2
    subst e e2
    rfl
  rw [this _ _ (pre_cut h i) _ i _ (by rw [List.length_take]; unfold nparts at hi; omega) (by omega), List.getElem_take]
  rfl
/-- Among what is directly below, the one of a last part. -/
theorem kid_find {t : List R} (ht : ∀ r ∈ t, pathB r.p.data.toList = true) {c : ByteArray} (hc : pathB c.data.toList = true) {p x : ByteArray} (hp : parO c = p) (hx : lastB c = x) :
    (kids t p).find? (fun r => decide (lastB r.p = x)) = recAt t c := by
  unfold kids recAt
  rw [List.find?_filter]
  subst hp hx
  induction t with
  | nil => rfl
  | cons r t ih =>
    have hr := ht r (List.mem_cons_self ..)
    have ih' := ih fun r hm => ht r (List.mem_cons_of_mem _ hm)
    by_cases he : r.p = c
    · rw [List.find?_cons_of_pos (by simp [he]), List.find?_cons_of_pos (by simp [he])]
    · have : ¬ (parO r.p = parO c ∧ lastB r.p = lastB c) := fun h => he (path_two hr hc h.1 h.2)
      rw [List.find?_cons_of_neg (by simpa using this), List.find?_cons_of_neg (by simpa using he)]
      exact ih'
/-- All that is below a path. -/
def subT (t : List R) (p : ByteArray) : List R := t.filter fun c => isUp p c.p
theorem mem_sub {t : List R} {p : ByteArray} {c : R} : c ∈ subT t p ↔ c ∈ t ∧ p ∈ ups c.p := by unfold subT; rw [List.mem_filter, isUp_iff]
/-- The same of the root. -/
def allT (t : List R) (p : ByteArray) : List R := if p = ByteArray.empty then t else subT t p
theorem sorted_filter {t : List R} (h : Sorted t) (f : R → Bool) : Sorted (t.filter f) := List.Pairwise.filter _ h
theorem up_self {q : ByteArray} (h : pathB q.data.toList = true) : q ∉ ups q := fun hm => by
  have := ups_less h q hm
  rw [lessP_irrefl] at this
  cases this
theorem ups_of_par {q : ByteArray} (h : pathB q.data.toList = true) (hp : parO q ≠ ByteArray.empty) : ups q = parO q :: ups (parO q) := by
  rw [ups_step h, if_neg (fun e => hp (parO_empty.2 e))]
/-- Two that lie below the same, one less than the other: so is all that is below it. -/
theorem less_below {a b c : ByteArray} (ha : pathB a.data.toList = true) (hb : pathB b.data.toList = true) (hc : pathB c.data.toList = true) (hpar : parO a = parO b)
    (hl : lessP (cutAt 47 a.data.toList) (cutAt 47 b.data.toList) = true) (hu : a ∈ ups c) : lessP (cutAt 47 c.data.toList) (cutAt 47 b.data.toList) = true := by
  rw [up_below hc] at hu
  rcases Bool.eq_false_or_eq_true (lessP (cutAt 47 c.data.toList) (cutAt 47 b.data.toList)) with h | h
  · exact h
  exfalso
  have hne : cutAt 47 b.data.toList ≠ cutAt 47 c.data.toList := by
    intro e
    have hbl : (cutAt 47 a.data.toList).length = (cutAt 47 b.data.toList).length := by
      rcases parent_cases ha with ⟨a1, a2, _⟩ | ⟨_, a2, a3, _⟩ <;> rcases parent_cases hb with ⟨b1, b2, _⟩ | ⟨_, b2, b3, _⟩
      · rw [a2, b2]; rfl
      · exact absurd ((by rw [← parO_data, ← hpar, parO_data]; exact a1) : parentL b.data.toList = []) b3
      · exact absurd ((by rw [← parO_data, hpar, parO_data]; exact b1) : parentL a.data.toList = []) a3
      · have e1 : parentL a.data.toList = parentL b.data.toList := by rw [← parO_data, ← parO_data, hpar]
        rw [e1, b2] at a2
        have := congrArg List.length a2
        rw [List.length_dropLast, List.length_dropLast] at this
        have := cutAt_pos 47 a.data.toList
        have := cutAt_pos 47 b.data.toList
        omega
    unfold belowP at hu
    simp only [Bool.and_eq_true, decide_eq_true_eq] at hu
    rw [← e] at hu
    omega
  have h2 : lessP (cutAt 47 b.data.toList) (cutAt 47 c.data.toList) = true := by
    rcases Bool.eq_false_or_eq_true (lessP (cutAt 47 b.data.toList) (cutAt 47 c.data.toList)) with h3 | h3
    · exact h3
    · exact absurd (lessP_total _ _ h3 h) hne
  obtain ⟨C, hC⟩ := belowP_split hu
  rw [hC] at h2
  have hbel := lessP_between _ _ _ hl h2
  rw [← up_below hb] at hbel
  have hab : a ∈ ups (parO b) ∨ a = parO b := by
    by_cases hp : parO b = ByteArray.empty
    · rw [ups_step hb, if_pos (parO_empty.1 hp)] at hbel; cases hbel
    · rw [ups_of_par hb hp, List.mem_cons] at hbel
      rcases hbel with h3 | h3
      · exact .inr h3
      · exact .inl h3
  by_cases hp : parO a = ByteArray.empty
  · rw [hp] at hpar
    rw [← hpar] at hab
    rcases hab with h3 | h3
    · exact absurd h3 (by
        intro h3
        have : ups ByteArray.empty = [] := by decide
        rw [this] at h3; cases h3)
    · exact path_nonempty ha h3
  · have hpp := (parts_parent ha (fun e => hp (parO_empty.2 e))).1
    have hup : parO a ∈ ups a := by rw [ups_of_par ha hp]; exact List.mem_cons_self ..
    rw [← hpar] at hab
    rcases hab with h3 | h3
    · exact up_self ha (ups_trans ha a (parO a) hup h3)
    · rw [← h3] at hup
      exact up_self ha hup
end Go.Proofs.YtjiljnfiofmpaaaGreatDoor.Recs

/- Trees, plain: all that is below a path, by what is directly below it; what putting a node in and taking one out do to what is directly below. -/

namespace Go.Proofs.YtjiljnfiofmpaaaGreatDoor.Recs
open Go.RowKit Paths

/-- On the way from a path up to p (or the root): the one directly below p. -/
theorem way_down {p : ByteArray} {x : ByteArray} (hx : pathB x.data.toList = true) : (p = ByteArray.empty ∨ p ∈ ups x) → ∃ c, (c = x ∨ c ∈ ups x) ∧ parO c = p ∧ pathB c.data.toList = true := by
  refine path_ind (P := fun x => (p = ByteArray.empty ∨ p ∈ ups x) → ∃ c, (c = x ∨ c ∈ ups x) ∧ parO c = p ∧ pathB c.data.toList = true) ?_ ?_ x hx
  · intro q hq hn h
    refine ⟨q, .inl rfl, ?_, hq⟩
    rcases h with rfl | h
    · exact parO_empty.2 hn
    · rw [ups_step hq, if_pos hn] at h; cases h
  · intro q hq hn hpp ih h
    have hu : ups q = parO q :: ups (parO q) := by rw [ups_step hq, if_neg hn]
    by_cases hp : parO q = p
    · exact ⟨q, .inl rfl, hp, hq⟩
    · obtain ⟨c, hc, h1, h2⟩ := ih (by
        rcases h with h | h
        · exact .inl h
        · rw [hu, List.mem_cons] at h
          rcases h with h | h
          · exact absurd h.symm hp
          · exact .inr h)
      refine ⟨c, .inr ?_, h1, h2⟩
      rw [hu, List.mem_cons]
      exact hc
theorem lessR_of {x y : R} (h : lessP (cutAt 47 x.p.data.toList) (cutAt 47 y.p.data.toList) = true) : lessR x y = true := h
theorem kids_sorted {t : List R} (h : Sorted t) (p : ByteArray) : Sorted (kids t p) := sorted_filter h _
/-- What is below a path: each that is directly below it, with all that is below that. -/
theorem all_kids {t : List R} (ht : IsTree t) (p : ByteArray) : allT t p = (kids t p).flatMap fun c => c :: subT t c.p := by
  have hs := ht.sorted
  have hpath := ht.path
  apply sorted_ext
  · unfold allT
    split
    · exact hs
    · exact sorted_filter hs _
  · unfold Sorted
    rw [List.pairwise_flatMap]
    constructor
    · intro c hc
      rw [List.pairwise_cons]
      refine ⟨fun x hx => ?_, sorted_filter hs _⟩
      obtain ⟨h1, h2⟩ := mem_sub.1 hx
      exact ups_less (hpath x h1) _ h2
    · refine (kids_sorted hs p).imp_of_mem ?_
      intro c d hc hd hl x hx y hy
      obtain ⟨hct, hcp⟩ := mem_kids.1 hc
      obtain ⟨hdt, hdp⟩ := mem_kids.1 hd
      have h1 : lessR x d = true := by
        rcases List.mem_cons.1 hx with rfl | hx
        · exact hl
        · obtain ⟨h1, h2⟩ := mem_sub.1 hx
          exact less_below (hpath c hct) (hpath d hdt) (hpath x h1) (hcp.trans hdp.symm) hl h2
      rcases List.mem_cons.1 hy with rfl | hy
      · exact h1
      · obtain ⟨h3, h4⟩ := mem_sub.1 hy
        exact lessR_trans h1 (ups_less (hpath y h3) _ h4)
  · intro x
    rw [List.mem_flatMap]
    constructor
    · intro hx
      have hxt : x ∈ t ∧ (p = ByteArray.empty ∨ p ∈ ups x.p) := by
        unfold allT at hx
        split at hx
        · exact ⟨hx, .inl (by assumption)⟩
        · exact ⟨(mem_sub.1 hx).1, .inr (mem_sub.1 hx).2⟩
      obtain ⟨c, hc, h1, h2⟩ := way_down (hpath x hxt.1) hxt.2
      rcases hc with rfl | hc
      · exact ⟨x, mem_kids.2 ⟨hxt.1, h1⟩, List.mem_cons_self ..⟩
      · obtain ⟨n, hn, rfl, _⟩ := housed_ups ht.housed (hpath x hxt.1) x hxt.1 rfl c hc
        exact ⟨n, mem_kids.2 ⟨hn, h1⟩, List.mem_cons_of_mem _ (mem_sub.2 ⟨hxt.1, hc⟩)⟩
    · rintro ⟨c, hc, hx⟩
      obtain ⟨hct, rfl⟩ := mem_kids.1 hc
      have hcp := hpath c hct
      unfold allT
      by_cases hp : parO c.p = ByteArray.empty
      · rw [if_pos hp]
        rcases List.mem_cons.1 hx with rfl | hx
        · exact hct
        · exact (mem_sub.1 hx).1
      · rw [if_neg hp]
        have hup : parO c.p ∈ ups c.p := by rw [ups_of_par hcp hp]; exact List.mem_cons_self ..
        rcases List.mem_cons.1 hx with rfl | hx
        · exact mem_sub.2 ⟨hct, hup⟩
        · obtain ⟨h1, h2⟩ := mem_sub.1 hx
          exact mem_sub.2 ⟨h1, ups_trans (hpath x h1) _ c.p h2 hup⟩
/-- How deep a path lies. -/
def deep (p : ByteArray) : Nat := if p = ByteArray.empty then 0 else nparts p
theorem deep_kid {c : ByteArray} (h : pathB c.data.toList = true) : deep c = deep (parO c) + 1 ∧ deep c ≤ 4 := by
  have h4 := (pathB_parts h).1
  unfold deep
  rw [if_neg (path_nonempty h)]
  by_cases hp : parO c = ByteArray.empty
  · rw [if_pos hp]
    rcases parent_cases h with ⟨_, h2, _⟩ | ⟨_, _, h3, _⟩
    · unfold nparts
      rw [h2]
      exact ⟨rfl, by simp⟩
    · exact absurd (parO_empty.1 hp) h3
  · rw [if_neg hp]
    have := (parts_parent h (fun e => hp (parO_empty.2 e))).2
    unfold nparts
    exact ⟨this.symm, h4⟩

/-- Where a node has no fellow: it goes between those that are less and those that are not. -/
theorem put_new {t : List R} (h : Sorted t) {n : R} (hn : recAt t n.p = none) : putL t n = t.take (placeOf t n) ++ n :: t.drop (placeOf t n) := by
  rw [put_is h, if_neg]
  intro e
  cases hg : t[placeOf t n]? with
  | none => rw [hg] at e; cases e
  | some x =>
    rw [hg] at e
    have hm := List.mem_of_getElem? hg
    exact recAt_none hn x hm (by simpa using e)
theorem kids_put {t : List R} (h : Sorted t) {n : R} (hn : recAt t n.p = none) (p : ByteArray) : kids (putL t n) p = if parO n.p = p then putL (kids t p) n else kids t p := by
  have e := put_new h hn
  by_cases hp : parO n.p = p
  · rw [if_pos hp]
    unfold putL kids
    rw [List.filter_append, List.filter_cons_of_pos (by simpa using hp)]
    simp only [List.filter_filter, Bool.and_comm]
  · rw [if_neg hp, e]
    conv => rhs; rw [← List.take_append_drop (placeOf t n) t]
    unfold kids
    rw [List.filter_append, List.filter_cons_of_neg (by simpa using hp), List.filter_append]
theorem recAt_kids {t : List R} {q p : ByteArray} (h : recAt t q = none) : recAt (kids t p) q = none := by
  unfold recAt at h ⊢
  rw [List.find?_eq_none] at h ⊢
  exact fun x hx => h x (mem_kids.1 hx).1
/-- Among what is directly below one, the last part decides. -/
theorem lessP_last : ∀ (A : List (List UInt8)) (x y : List UInt8), lessP (A ++ [x]) (A ++ [y]) = Op.bytesLess x y
  | [], x, y => by
    unfold lessP
    by_cases h : x = y
    · subst h; simp [lessP, bytesLess_irrefl]
    · simp [h]
  | a :: A, x, y => by
    have := lessP_last A x y
    simp only [List.cons_append, lessP]
    simpa using this
theorem less_kid {a b : ByteArray} (ha : pathB a.data.toList = true) (hb : pathB b.data.toList = true) (h : parO a = parO b) : lessP (cutAt 47 a.data.toList) (cutAt 47 b.data.toList) = Op.bytesLess (lastB a).data.toList (lastB b).data.toList := by
  have e1 : parentL a.data.toList = parentL b.data.toList := by rw [← parO_data, ← parO_data, h]
  have e2 : (cutAt 47 a.data.toList).dropLast = (cutAt 47 b.data.toList).dropLast := by
    rcases parent_cases ha with ⟨a1, a2, _⟩ | ⟨_, a2, a3, _⟩ <;> rcases parent_cases hb with ⟨b1, b2, _⟩ | ⟨_, b2, b3, _⟩
    · rw [a2, b2]; rfl
    · exact absurd (e1.symm.trans a1) b3
    · exact absurd (e1.trans b1) a3
    · rw [← a2, ← b2, e1]
  rw [cut_parent a.data.toList, cut_parent b.data.toList, e2, lessP_last]
  rfl
/-- What stays directly below one that stays. -/
theorem kids_without {t : List R} (ht : ∀ r ∈ t, pathB r.p.data.toList = true) {q : ByteArray} (hq : pathB q.data.toList = true) {p : ByteArray} (hp : p ≠ q ∧ q ∉ ups p) :
    kids (withoutL t q true) p = (kids t p).filter fun c => !(decide (parO q = p) && decide (lastB c.p = lastB q)) := by
  unfold kids withoutL
  rw [List.filter_filter, List.filter_filter]
  apply List.filter_congr
  intro x hx
  have hxp := ht x hx
  by_cases hpar : parO x.p = p
  · have hup : q ∉ ups x.p := by
      intro hm
      by_cases he : parO x.p = ByteArray.empty
      · rw [ups_step hxp, if_pos (parO_empty.1 he)] at hm; cases hm
      · rw [ups_of_par hxp he, hpar, List.mem_cons] at hm
        rcases hm with hm | hm
        · exact hp.1 hm.symm
        · exact hp.2 hm
    have h1 : isUp q x.p = false := isUp_no.2 hup
    rw [h1, decide_eq_true hpar]
    simp only [Bool.not_false, Bool.true_and, Bool.and_true]
    by_cases he : x.p = q
    · subst he
      simp [hpar]
    · have : ¬ (parO q = p ∧ lastB x.p = lastB q) := fun h => he (path_two hxp hq (hpar.trans h.1.symm) h.2)
      rw [decide_eq_false he]
      by_cases h1 : parO q = p
      · have h2 : ¬ lastB x.p = lastB q := fun e => this ⟨h1, e⟩
        simp [h1, h2]
      · simp [h1]
  · rw [decide_eq_false hpar]
    simp
end Go.Proofs.YtjiljnfiofmpaaaGreatDoor.Recs
