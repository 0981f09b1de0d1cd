/- Parts of several texts of mine in one file (each begins with its own remark). -/
import Derived.Test.YtcnjiphoahoojaaGreatDoorEA1
import Derived.Test.YtcnjiphoahoojaaGreatDoorEA3
import Derived.Test.YtcnjiphoahoojaaGreatDoorEA4
import Derived.Test.YtcnjiphoahoojaaGreatDoorChecked
import Derived.Deep.Slices
import Derived.OpenShut
import Derived.ShutString
import Derived.ChangeArms
import Derived.WideShapes
import Derived.Lib.LaidTab
import Derived.BigQuiet
import Derived.Deep.QuietTactic
import Derived.Deep.RegionHeld3
import Derived.StillTailTactics
import Derived.Deep.Draws
import Derived.Deep.LoopGhost
import Derived.WalkKit
import Derived.WalkSpells
import Derived.WalkSmall
import Derived.Lib.OthersKept
import Derived.Lib.Hide
import Derived.Lib.Strings
import Derived.Lib.Join
/- Sorted lists of records are told by their members; what is above a path; a housed list has all that is above its records. -/
namespace Go.Proofs.YtcnjiphoahoojaaGreatDoor.Recs
open Go.RowKit Paths

theorem sorted_ext : ∀ a b : List R, Sorted a → Sorted b → (∀ x, x ∈ a ↔ x ∈ b) → a = b
  | [], [], _, _, _ => rfl
  | [], y :: b, _, _, h => by have := (h y).2 (by simp); cases this
  | x :: a, [], _, _, h => by have := (h x).1 (by simp); cases this
  | x :: a, y :: b, ha, hb, h => by
    unfold Sorted at ha hb
    rw [List.pairwise_cons] at ha hb
    have exy : x = y := by
      rcases List.mem_cons.1 ((h x).1 (by simp)) with e | hx
      · exact e
      rcases List.mem_cons.1 ((h y).2 (by simp)) with e | hy
      · exact e.symm
      have h1 := hb.1 x hx
      have h2 := ha.1 y hy
      unfold lessR at h1 h2
      rw [lessP_asymm _ _ h1] at h2
      cases h2
    subst exy
    rw [sorted_ext a b ha.2 hb.2 fun z => ?_]
    constructor
    · intro hz
      rcases List.mem_cons.1 ((h z).1 (by simp [hz])) with e | hz'
      · subst e
        have := ha.1 z hz
        rw [lessR_irrefl] at this
        cases this
      · exact hz'
    · intro hz
      rcases List.mem_cons.1 ((h z).2 (by simp [hz])) with e | hz'
      · subst e
        have := hb.1 z hz
        rw [lessR_irrefl] at this
        cases this
      · exact hz'

theorem upF_more : ∀ (n : Nat) (q : ByteArray), pathB q.data.toList = true → (cutAt 47 q.data.toList).length ≤ n → ∀ m, n ≤ m → upF m q = upF n q := by
  intro n
  induction n with
  | zero =>
    intro q _ hl
    exact absurd (List.eq_nil_of_length_eq_zero (show (cutAt 47 q.data.toList).length = 0 by omega)) (cutAt_ne 47 _)
  | succ n ih =>
    intro q hq hl m hm
    obtain ⟨m', rfl⟩ : ∃ m', m = m' + 1 := ⟨m - 1, by omega⟩
    simp only [upF]
    by_cases hp : parentL q.data.toList = []
    · rw [if_pos hp, if_pos hp]
    · obtain ⟨h1, h2⟩ := parts_parent hq hp
      rw [if_neg hp, if_neg hp, ih (parO q) h1 (by omega) m' (by omega)]
theorem ups_step {q : ByteArray} (h : pathB q.data.toList = true) : ups q = if parentL q.data.toList = [] then [] else parO q :: ups (parO q) := by
  have e : ups q = if parentL q.data.toList = [] then [] else parO q :: upF 3 (parO q) := rfl
  by_cases hp : parentL q.data.toList = []
  · rw [e, if_pos hp, if_pos hp]
  · obtain ⟨h1, h2⟩ := parts_parent h hp
    have h3 := (pathB_parts h).1
    have h4 : ups (parO q) = upF 3 (parO q) := upF_more 3 (parO q) h1 (by omega) 4 (by omega)
    rw [e, if_neg hp, if_neg hp, h4]
/-- To show a thing of a path, show it where it holds of its parent. -/
theorem path_ind {P : ByteArray → Prop} (hr : ∀ q : ByteArray, pathB q.data.toList = true → parentL q.data.toList = [] → P q)
    (hs : ∀ q : ByteArray, pathB q.data.toList = true → parentL q.data.toList ≠ [] → pathB (parO q).data.toList = true → P (parO q) → P q) : ∀ q : ByteArray, pathB q.data.toList = true → P q := by
  have hn : ∀ n, ∀ q : ByteArray, pathB q.data.toList = true → (cutAt 47 q.data.toList).length ≤ n → P q := by
    intro n
    induction n with
    | zero =>
      intro q _ hl
      exact absurd (List.eq_nil_of_length_eq_zero (show (cutAt 47 q.data.toList).length = 0 by omega)) (cutAt_ne 47 _)
    | succ n ih =>
      intro q hq hl
      by_cases hp : parentL q.data.toList = []
      · exact hr q hq hp
      · obtain ⟨h1, h2⟩ := parts_parent hq hp
        exact hs q hq hp h1 (ih _ h1 (by omega))
  exact fun q hq => hn _ q hq (Nat.le_refl _)
theorem ups_path {q : ByteArray} (h : pathB q.data.toList = true) : ∀ a ∈ ups q, pathB a.data.toList = true := by
  refine path_ind (P := fun q => ∀ a ∈ ups q, pathB a.data.toList = true) ?_ ?_ q h
  · intro q hq hp a ha
    rw [ups_step hq, if_pos hp] at ha
    cases ha
  · intro q hq hp h1 ih a ha
    rw [ups_step hq, if_neg hp] at ha
    rcases List.mem_cons.1 ha with rfl | ha
    · exact h1
    · exact ih a ha
theorem ups_less {q : ByteArray} (h : pathB q.data.toList = true) : ∀ a ∈ ups q, lessP (cutAt 47 a.data.toList) (cutAt 47 q.data.toList) = true := by
  refine path_ind (P := fun q => ∀ a ∈ ups q, lessP (cutAt 47 a.data.toList) (cutAt 47 q.data.toList) = true) ?_ ?_ q h
  · intro q hq hp a ha
    rw [ups_step hq, if_pos hp] at ha
    cases ha
  · intro q hq hp h1 ih a ha
    rw [ups_step hq, if_neg hp] at ha
    have h2 := parent_less hq hp
    rcases List.mem_cons.1 ha with rfl | ha
    · exact h2
    · exact lessP_trans _ _ _ (ih a ha) h2
theorem ups_trans {c : ByteArray} (h : pathB c.data.toList = true) : ∀ a b, b ∈ ups c → a ∈ ups b → a ∈ ups c := by
  refine path_ind (P := fun c => ∀ a b, b ∈ ups c → a ∈ ups b → a ∈ ups c) ?_ ?_ c h
  · intro q hq hp a b hb
    rw [ups_step hq, if_pos hp] at hb
    cases hb
  · intro q hq hp h1 ih a b hb ha
    rw [ups_step hq, if_neg hp] at hb ⊢
    rcases List.mem_cons.1 hb with rfl | hb
    · exact List.mem_cons_of_mem _ ha
    · exact List.mem_cons_of_mem _ (ih a b hb ha)
/-- All that is above a record of a housed list is a directory of it. -/
theorem housed_ups {t : List R} (hh : Housed t) {q : ByteArray} (h : pathB q.data.toList = true) : ∀ x ∈ t, x.p = q → ∀ a ∈ ups q, ∃ n ∈ t, n.p = a ∧ n.k = 3 := by
  refine path_ind (P := fun q => ∀ x ∈ t, x.p = q → ∀ a ∈ ups q, ∃ n ∈ t, n.p = a ∧ n.k = 3) ?_ ?_ q h
  · intro q hq hp x _ _ a ha
    rw [ups_step hq, if_pos hp] at ha
    cases ha
  · intro q hq hp h1 ih x hx hxq a ha
    rw [ups_step hq, if_neg hp] at ha
    subst hxq
    obtain ⟨n, hn, hnp, hnk⟩ := hh x hx hp
    rcases List.mem_cons.1 ha with rfl | ha
    · exact ⟨n, hn, hnp, hnk⟩
    · exact ih n hn hnp a ha
end Go.Proofs.YtcnjiphoahoojaaGreatDoor.Recs

/- Applying a layer to a tree, both as plain sorted lists (a node is a record that is not Opaque): what the result holds, in closed form. -/
namespace Go.Proofs.YtcnjiphoahoojaaGreatDoor.Recs
open Go.RowKit Paths

/-- q is above p. -/
def isUp (q p : ByteArray) : Bool := (ups p).any fun a => decide (a = q)
theorem isUp_iff {q p : ByteArray} : isUp q p = true ↔ q ∈ ups p := by
  unfold isUp
  rw [List.any_eq_true]
  constructor
  · rintro ⟨a, ha, he⟩
    rw [decide_eq_true_eq] at he
    exact he ▸ ha
  · exact fun h => ⟨q, h, by simp⟩
theorem isUp_no {q p : ByteArray} : isUp q p = false ↔ q ∉ ups p := by
  rw [← isUp_iff]
  simp
def nodeOf (r : R) : R := { r with o := false }
/-- Without what is below a path, and, if so asked, without its own node. -/
def withoutL (t : List R) (q : ByteArray) (self : Bool) : List R := t.filter fun x => !isUp q x.p && !(self && decide (x.p = q))
/-- A node in its place, in the place of one of its path. -/
def putL (t : List R) (n : R) : List R := t.filter (fun x => lessR x n) ++ n :: t.filter (fun x => lessR n x)
/-- Must what is below a record's path go? -/
def clears (t : List R) (r : R) : Bool := stops r || (recAt t r.p).any (fun n => decide (n.k ≠ 3))
def doR (t : List R) (r : R) : List R :=
  if r.k = 4 then withoutL t r.p true else putL (if clears t r then withoutL t r.p false else t) (nodeOf r)
def applyL (l t : List R) : List R := l.foldl doR t

theorem mem_without {t : List R} {q : ByteArray} {self : Bool} {x : R} : x ∈ withoutL t q self ↔ x ∈ t ∧ q ∉ ups x.p ∧ (self = true → x.p ≠ q) := by
  unfold withoutL
  rw [List.mem_filter, Bool.and_eq_true, Bool.not_eq_true', isUp_no]
  cases self <;> simp
theorem bytes_cut {a b : ByteArray} (h : cutAt 47 a.data.toList = cutAt 47 b.data.toList) : a = b := by
  have e : a.data.toList = b.data.toList := by rw [← join_cut a.data.toList, h, join_cut]
  apply ByteArray.ext
  exact Array.ext' e
/-- Of two records of different paths one is less. -/
theorem less_or {x n : R} (h : x.p ≠ n.p) : lessR x n = true ∨ lessR n x = true := by
  rcases Bool.eq_false_or_eq_true (lessR x n) with h1 | h1
  · exact .inl h1
  rcases Bool.eq_false_or_eq_true (lessR n x) with h2 | h2
  · exact .inr h2
  exact absurd (bytes_cut (lessP_total _ _ h1 h2)) h
theorem less_ne {x n : R} (h : lessR x n = true) : x.p ≠ n.p := fun e => by
  unfold lessR at h
  rw [e, lessP_irrefl] at h
  cases h
theorem mem_put {t : List R} {n x : R} : x ∈ putL t n ↔ x = n ∨ x ∈ t ∧ x.p ≠ n.p := by
  unfold putL
  rw [List.mem_append, List.mem_cons, List.mem_filter, List.mem_filter]
  constructor
  · rintro (⟨h1, h2⟩ | h | ⟨h1, h2⟩)
    · exact .inr ⟨h1, less_ne h2⟩
    · exact .inl h
    · exact .inr ⟨h1, fun e => less_ne h2 e.symm⟩
  · rintro (h | ⟨h1, h2⟩)
    · exact .inr (.inl h)
    · rcases less_or h2 with h3 | h3
      · exact .inl ⟨h1, h3⟩
      · exact .inr (.inr ⟨h1, h3⟩)
theorem put_sorted {t : List R} (h : Sorted t) (n : R) : Sorted (putL t n) := by
  unfold putL Sorted
  rw [List.pairwise_append]
  refine ⟨List.Pairwise.filter _ h, ?_, ?_⟩
  · rw [List.pairwise_cons]
    exact ⟨fun x hx => (List.mem_filter.1 hx).2, List.Pairwise.filter _ h⟩
  · intro a ha b hb
    have h1 := (List.mem_filter.1 ha).2
    rcases List.mem_cons.1 hb with rfl | hb
    · exact h1
    · exact lessP_trans _ _ _ h1 (List.mem_filter.1 hb).2
/-- Lists that grow at their end: Sorted. -/
theorem sorted_snoc {l : List R} {r : R} (h : Sorted (l ++ [r])) : Sorted l ∧ ∀ x ∈ l, lessR x r = true := by
  unfold Sorted at h
  rw [List.pairwise_append] at h
  exact ⟨h.1, fun x hx => h.2.2 x hx r (by simp)⟩
theorem recAt_snoc (l : List R) (r : R) (q : ByteArray) : recAt (l ++ [r]) q = (recAt l q).or (if r.p = q then some r else none) := by
  unfold recAt
  rw [List.find?_append]
  congr 1
  by_cases h : r.p = q <;> simp [h]
/-- A tree: sorted, housed, its paths are paths. -/
structure IsTree (t : List R) : Prop where
  sorted : Sorted t
  housed : Housed t
  path : ∀ x ∈ t, pathB x.p.data.toList = true

end Go.Proofs.YtcnjiphoahoojaaGreatDoor.Recs

/- Applying layers, plain: the result is a tree; applying again changes nothing; the canonical form has the same effect on every tree. -/
namespace Go.Proofs.YtcnjiphoahoojaaGreatDoor.Recs
open Go.RowKit Paths

/-- What a layer is, for its effect. -/
structure IsLayer (l : List R) : Prop where
  sorted : Sorted l
  housed : Housed l
  path : ∀ x ∈ l, pathB x.p.data.toList = true
theorem parent_up {q : ByteArray} (h : pathB q.data.toList = true) (hp : parentL q.data.toList ≠ []) : parO q ∈ ups q := by
  rw [ups_step h, if_neg hp]
  simp

end Go.Proofs.YtcnjiphoahoojaaGreatDoor.Recs

/- Trees as plain lists of nodes (records of which Opaque is false): the model's check, record by record, and what it says at once. -/
namespace Go.Proofs.YtcnjiphoahoojaaGreatDoor.Recs
open Go.RowKit Paths

/-- The parent of a path, where it is no root, stands among the first i and is a directory. -/
def homeOK (t : List R) (i : Nat) (q : ByteArray) : Bool :=
  if parentL q.data.toList = [] then true else decide (0 ≤ atL (t.take i) (parO q)) && (t[(atL (t.take i) (parO q)).toNat]?).all (fun x => decide (x.k = 3))
/-- The node r is fine at place i. -/
def nodeOK (t : List R) (i : Nat) (r : R) : Bool :=
  decide (r.k ≠ 4) && decide (r.fault = 0) && (beforeL t i).all (fun x => lessR x r) && homeOK t i r.p
def treeFrom (t : List R) (i : Nat) : Bool := if h : i < t.length then nodeOK t i t[i] && treeFrom t (i + 1) else true
termination_by t.length - i
def treeOK (t : List R) : Bool := decide (t.length ≤ 24) && treeFrom t 0
theorem treeFrom_step {t : List R} {i : Nat} (h : i < t.length) : treeFrom t i = (nodeOK t i t[i] && treeFrom t (i + 1)) := by rw [treeFrom, dif_pos h]
theorem treeFrom_end {t : List R} {i : Nat} (h : t.length ≤ i) : treeFrom t i = true := by rw [treeFrom, dif_neg (by omega)]
theorem treeFrom_all (t : List R) : ∀ (n i : Nat), t.length - i = n → (treeFrom t i = true ↔ ∀ j (h : j < t.length), i ≤ j → nodeOK t j t[j] = true) := by
  intro n
  induction n with
  | zero =>
    intro i hi
    rw [treeFrom_end (by omega)]
    exact ⟨fun _ j hj hij => by omega, fun _ => rfl⟩
  | succ n ih =>
    intro i hi
    have hlt : i < t.length := by omega
    rw [treeFrom_step hlt, Bool.and_eq_true, ih (i + 1) (by omega)]
    constructor
    · rintro ⟨h1, h2⟩ j hj hij
      rcases Nat.eq_or_lt_of_le hij with rfl | h3
      · exact h1
      · exact h2 j hj h3
    · intro h
      exact ⟨h i hlt (Nat.le_refl _), fun j hj hij => h j hj (by omega)⟩
theorem homeOK_yes {t : List R} {i : Nat} (hi : i ≤ t.length) {q : ByteArray} (h : homeOK t i q = true) (hp : parentL q.data.toList ≠ []) : ∃ k, ∃ hk : k < i, (t[k]'(by omega)).p = parO q ∧ (t[k]'(by omega)).k = 3 := by
  unfold homeOK at h
  rw [if_neg hp, Bool.and_eq_true, decide_eq_true_eq] at h
  rcases atL_cases (t.take i) (parO q) with ⟨h3, _⟩ | ⟨k, hk, h3, h4, _⟩
  · omega
  · have hki : k < i := by rw [List.length_take] at hk; omega
    refine ⟨k, hki, by simpa using h4, ?_⟩
    have h5 := h.2
    rw [h3, Int.toNat_natCast, List.getElem?_eq_getElem (by omega)] at h5
    simpa using h5
theorem nodeOK_parts {t : List R} {i : Nat} (hi : i < t.length) (h : nodeOK t i t[i] = true) :
    t[i].k ≠ 4 ∧ t[i].fault = 0 ∧ (∀ x, beforeL t i = some x → lessR x t[i] = true) ∧ (parentL t[i].p.data.toList ≠ [] → ∃ k, ∃ hk : k < i, (t[k]'(by omega)).p = parO t[i].p ∧ (t[k]'(by omega)).k = 3) := by
  unfold nodeOK at h
  simp only [Bool.and_eq_true, decide_eq_true_eq] at h
  obtain ⟨⟨⟨h1, h2⟩, h3⟩, h4⟩ := h
  refine ⟨h1, h2, fun x hx => ?_, homeOK_yes (by omega) h4⟩
  rw [hx] at h3
  simpa using h3
theorem nexts_sorted {t : List R} (h : ∀ i (hi : i + 1 < t.length), lessR (t[i]'(by omega)) t[i + 1] = true) : Sorted t := by
  have key : ∀ (n i j : Nat) (hj : j < t.length) (hij : j = i + 1 + n), lessR (t[i]'(by omega)) t[j] = true := by
    intro n
    induction n with
    | zero => intro i j hj hij; subst hij; exact h i hj
    | succ n ih =>
      intro i j hj hij
      subst hij
      exact lessP_trans _ _ _ (ih i (i + 1 + n) (by omega) rfl) (h (i + 1 + n) (by omega))
  unfold Sorted
  rw [List.pairwise_iff_getElem]
  exact fun i j _ hj hij => key (j - i - 1) i j hj (by omega)
/-- What a tree is. -/
structure Tree (t : List R) : Prop where
  len : t.length ≤ 24
  kind : ∀ r ∈ t, r.k ≠ 4
  fault : ∀ r ∈ t, r.fault = 0
  sorted : Sorted t
  housed : Housed t
theorem tree_of {t : List R} (h : treeOK t = true) : Tree t := by
  unfold treeOK at h
  rw [Bool.and_eq_true, decide_eq_true_eq] at h
  have hall := (treeFrom_all t _ 0 rfl).1 h.2
  have hp := fun i (hi : i < t.length) => nodeOK_parts hi (hall i hi (Nat.zero_le _))
  refine ⟨h.1, fun r hr => ?_, fun r hr => ?_, nexts_sorted fun i hi => ?_, fun r hr hpar => ?_⟩
  · obtain ⟨i, hi, rfl⟩ := List.getElem_of_mem hr
    exact (hp i hi).1
  · obtain ⟨i, hi, rfl⟩ := List.getElem_of_mem hr
    exact (hp i hi).2.1
  · refine (hp (i + 1) hi).2.2.1 _ ?_
    unfold beforeL
    rw [if_neg (by omega)]
    simp [show i < t.length by omega]
  · obtain ⟨i, hi, rfl⟩ := List.getElem_of_mem hr
    obtain ⟨k, hk, h1, h2⟩ := (hp i hi).2.2.2 hpar
    exact ⟨_, List.getElem_mem _, h1, h2⟩
theorem home_of {t : List R} (hs : Sorted t) (hh : Housed t) {i : Nat} (hi : i < t.length) (hpath : pathB t[i].p.data.toList = true) : homeOK t i t[i].p = true := by
  unfold homeOK
  by_cases hp : parentL t[i].p.data.toList = []
  · rw [if_pos hp]
  · rw [if_neg hp]
    obtain ⟨x, hx, hxp, hxk⟩ := hh _ (List.getElem_mem hi) hp
    obtain ⟨k, hk, rfl⟩ := List.getElem_of_mem hx
    have hki : k < i := by
      rcases Nat.lt_trichotomy k i with h1 | h1 | h1
      · exact h1
      · subst h1
        have h2 := parent_less hpath hp
        rw [← hxp, lessP_irrefl] at h2
        cases h2
      · have h2 := parent_less hpath hp
        have h3 := sorted_get hs hk h1
        unfold lessR at h3
        rw [hxp] at h3
        rw [lessP_asymm _ _ h2] at h3
        cases h3
    rcases atL_cases (t.take i) (parO t[i].p) with ⟨_, h2⟩ | ⟨j, hj, h1, h2, _⟩
    · exact absurd hxp (h2 _ (List.mem_take_iff_getElem.2 ⟨k, by omega, rfl⟩))
    · have hji : j < i := by rw [List.length_take] at hj; omega
      have h2' : (t[j]'(by omega)).p = parO t[i].p := by simpa using h2
      have ejk : j = k := sorted_once hs (by omega) hk (h2'.trans hxp.symm)
      subst ejk
      rw [h1]
      simp [show j < t.length by omega, hxk]
theorem treeOK_of {t : List R} (h : Tree t) : treeOK t = true := by
  unfold treeOK
  rw [Bool.and_eq_true, decide_eq_true_eq]
  refine ⟨h.len, (treeFrom_all t _ 0 rfl).2 fun i hi _ => ?_⟩
  have hm := List.getElem_mem hi
  have hf := h.fault _ hm
  unfold nodeOK
  simp only [Bool.and_eq_true, decide_eq_true_eq]
  refine ⟨⟨⟨h.kind _ hm, hf⟩, ?_⟩, home_of h.sorted h.housed hi (fault_path hf).1⟩
  cases hb : beforeL t i with
  | none => rfl
  | some x =>
    unfold beforeL at hb
    split at hb
    · cases hb
    · rw [List.getElem?_eq_getElem (show i - 1 < t.length by omega)] at hb
      cases hb
      exact sorted_get h.sorted hi (by omega)
theorem Tree.is {t : List R} (h : Tree t) : IsTree t := ⟨h.sorted, h.housed, fun x hx => (fault_path (h.fault x hx)).1⟩
end Go.Proofs.YtcnjiphoahoojaaGreatDoor.Recs

/- What is above a path, by its parts: the paths of which the parts are the first parts of it. -/
namespace Go.Proofs.YtcnjiphoahoojaaGreatDoor.Recs
open Go.RowKit Paths

theorem up_below {p : ByteArray} (h : pathB p.data.toList = true) (q : ByteArray) : q ∈ ups p ↔ belowP (cutAt 47 p.data.toList) (cutAt 47 q.data.toList) = true := by
  have hq : 0 < (cutAt 47 q.data.toList).length := by
    rcases Nat.eq_zero_or_pos (cutAt 47 q.data.toList).length with h0 | h0
    · exact absurd (List.eq_nil_of_length_eq_zero h0) (cutAt_ne 47 _)
    · exact h0
  refine path_ind (P := fun p => q ∈ ups p ↔ belowP (cutAt 47 p.data.toList) (cutAt 47 q.data.toList) = true) ?_ ?_ p h
  · intro p hp hn
    rw [ups_step hp, if_pos hn]
    rcases parent_cases hp with ⟨_, h2, _⟩ | ⟨_, _, h3, _⟩
    · rw [h2]
      unfold belowP
      constructor
      · intro hm; cases hm
      · intro hm
        simp only [Bool.and_eq_true, decide_eq_true_eq, List.length_singleton] at hm
        omega
    · exact absurd hn h3
  · intro p hp hn h1 ih
    rw [ups_step hp, if_neg hn]
    rcases parent_cases hp with ⟨h2, _⟩ | ⟨_, h2, _, _, _⟩
    · exact absurd h2 hn
    · have e := cut_parent p.data.toList
      rw [← h2] at e
      have ih' := ih
      rw [parO_data] at ih'
      generalize hA : cutAt 47 (parentL p.data.toList) = A at e ih'
      generalize hB : cutAt 47 q.data.toList = B at ih' hq ⊢
      rw [e]
      rw [List.mem_cons, ih']
      unfold belowP
      simp only [Bool.and_eq_true, decide_eq_true_eq, beq_iff_eq, List.length_append, List.length_singleton]
      constructor
      · rintro (rfl | ⟨h3, h4⟩)
        · rw [parO_data, hA] at hB
          subst hB
          exact ⟨by omega, by simp⟩
        · refine ⟨by omega, ?_⟩
          rw [List.take_append_of_le_length (by omega)]
          exact h4
      · rintro ⟨h3, h4⟩
        rcases Nat.lt_or_ge B.length A.length with h5 | h5
        · rw [List.take_append_of_le_length (by omega)] at h4
          exact .inr ⟨h5, h4⟩
        · left
          have h6 : B.length = A.length := by omega
          rw [h6, List.take_left'  rfl] at h4
          apply bytes_cut
          rw [parO_data, hA, hB, h4]
end Go.Proofs.YtcnjiphoahoojaaGreatDoor.Recs

/- Resolving a path in a tree, part by part, and what comes out at once. -/
namespace Go.Proofs.YtcnjiphoahoojaaGreatDoor.Recs
open Go.RowKit Paths

/-- The first i + 1 parts of a path. -/
def pre (q : ByteArray) (i : Nat) : ByteArray := ⟨(Lib.join ((cutAt 47 q.data.toList).take (i + 1)) [47]).toArray⟩
def nparts (q : ByteArray) : Nat := (cutAt 47 q.data.toList).length
theorem pre_data (q : ByteArray) (i : Nat) : (pre q i).data.toList = Lib.join ((cutAt 47 q.data.toList).take (i + 1)) [47] := rfl
theorem nparts_pos (q : ByteArray) : 0 < nparts q := cutAt_pos 47 _
theorem pre_cut {q : ByteArray} (h : pathB q.data.toList = true) (i : Nat) : cutAt 47 (pre q i).data.toList = (cutAt 47 q.data.toList).take (i + 1) := by
  rw [pre_data]
  refine clean_of_all ?_ ?_
  · have := (pathB_parts h).2
    rw [List.all_eq_true] at this ⊢
    exact fun x hx => this x (List.mem_of_mem_take hx)
  · intro e
    have h1 := congrArg List.length e
    have h2 := nparts_pos q
    unfold nparts at h2
    rw [List.length_take, List.length_nil] at h1
    omega
theorem pre_path {q : ByteArray} (h : pathB q.data.toList = true) (i : Nat) : pathB (pre q i).data.toList = true := by
  unfold pathB
  rw [pre_cut h]
  obtain ⟨h1, h2⟩ := pathB_parts h
  simp only [Bool.and_eq_true, decide_eq_true_eq]
  refine ⟨by rw [List.length_take]; omega, ?_⟩
  rw [List.all_eq_true] at h2 ⊢
  exact fun x hx => h2 x (List.mem_of_mem_take hx)
theorem pre_last {q : ByteArray} (i : Nat) (hi : nparts q ≤ i + 1) : pre q i = q := by
  apply ByteArray.ext
  apply Array.toList_inj.1
  rw [pre_data, List.take_of_length_le hi, join_cut]
theorem pre_up {q : ByteArray} (h : pathB q.data.toList = true) {i j : Nat} (hij : i < j) (hj : j < nparts q) : pre q i ∈ ups (pre q j) := by
  rw [up_below (pre_path h j), pre_cut h, pre_cut h]
  unfold belowP
  unfold nparts at hj
  simp only [Bool.and_eq_true, decide_eq_true_eq, beq_iff_eq, List.length_take]
  refine ⟨by omega, ?_⟩
  rw [List.take_take]
  congr 1
  omega
theorem pre_ups {q : ByteArray} (h : pathB q.data.toList = true) {i : Nat} (hi : i + 1 < nparts q) : pre q i ∈ ups q := by
  have := pre_up h (i := i) (j := nparts q - 1) (by omega) (by omega)
  rwa [pre_last (nparts q - 1) (by omega)] at this
theorem ups_pre {q a : ByteArray} (h : pathB q.data.toList = true) (ha : a ∈ ups q) : ∃ i, i + 1 < nparts q ∧ a = pre q i := by
  have hp := ups_path h a ha
  rw [up_below h] at ha
  unfold belowP at ha
  simp only [Bool.and_eq_true, decide_eq_true_eq, beq_iff_eq] at ha
  have h1 := nparts_pos a
  unfold nparts at h1 ⊢
  refine ⟨(cutAt 47 a.data.toList).length - 1, by omega, bytes_cut ?_⟩
  rw [pre_cut h, Nat.sub_add_cancel h1]
  exact ha.2.symm

/-- Resolving, from the i-th part on: the node, or the code. -/
def findFrom (t : List R) (q : ByteArray) (i : Nat) : R × Int :=
  if i < nparts q then
    (if atL t (pre q i) < 0 then (⟨0, 0, ByteArray.empty, ByteArray.empty, false⟩, 5)
     else if i + 1 = nparts q then ((t[(atL t (pre q i)).toNat]?).getD ⟨0, 0, ByteArray.empty, ByteArray.empty, false⟩, 0)
     else if (t[(atL t (pre q i)).toNat]?).any (fun x => decide (x.k ≠ 3)) then (⟨0, 0, ByteArray.empty, ByteArray.empty, false⟩, 13) else findFrom t q (i + 1))
  else (⟨0, 0, ByteArray.empty, ByteArray.empty, false⟩, 5)
termination_by nparts q - i
/-- What is in the way of a path: one above it that is no directory. -/
def blocked (t : List R) (q : ByteArray) : Bool := (ups q).any fun a => (recAt t a).any fun x => decide (x.k ≠ 3)
def findT (t : List R) (q : ByteArray) : R × Int := match recAt t q with
  | some r => (r, 0)
  | none => (⟨0, 0, ByteArray.empty, ByteArray.empty, false⟩, if blocked t q then 13 else 5)
theorem blocked_iff {t : List R} {q : ByteArray} : blocked t q = true ↔ ∃ a ∈ ups q, ∃ r, recAt t a = some r ∧ r.k ≠ 3 := by
  unfold blocked
  rw [List.any_eq_true]
  constructor
  · rintro ⟨a, ha, h⟩
    cases hr : recAt t a with
    | none => rw [hr] at h; cases h
    | some r => rw [hr] at h; exact ⟨a, ha, r, hr, by simpa using h⟩
  · rintro ⟨a, ha, r, hr, hk⟩
    exact ⟨a, ha, by rw [hr]; simpa using hk⟩
theorem dir_up {t : List R} (ht : IsTree t) {q : ByteArray} {r : R} (hr : recAt t q = some r) {a : ByteArray} (ha : a ∈ ups q) : ∃ x, recAt t a = some x ∧ x.k = 3 := by
  obtain ⟨hm, rfl⟩ := recAt_mem hr
  obtain ⟨n, hn, rfl, hk⟩ := housed_ups ht.housed (ht.path r hm) r hm rfl a ha
  exact ⟨n, recAt_of ht.sorted hn, hk⟩
theorem find_closed {t : List R} (ht : IsTree t) {q : ByteArray} (h : pathB q.data.toList = true) : ∀ (n i : Nat), nparts q - i = n → i < nparts q → (∀ j, j < i → ∃ r, recAt t (pre q j) = some r ∧ r.k = 3) → findFrom t q i = findT t q := by
  intro n
  induction n with
  | zero => intro i hi hlt _; omega
  | succ n ih =>
    intro i hi hlt hdir
    rw [findFrom, if_pos hlt]
    rcases atL_recAt t (pre q i) with ⟨h1, h2⟩ | ⟨k, hk, h1, h2⟩
    · rw [h1, if_pos (by decide)]
      have hq : recAt t q = none := by
        cases hr : recAt t q with
        | none => rfl
        | some r =>
          by_cases hl : i + 1 < nparts q
          · obtain ⟨x, hx, _⟩ := dir_up ht hr (pre_ups h hl)
            rw [h2] at hx; cases hx
          · rw [pre_last i (by omega)] at h2
            rw [h2] at hr; cases hr
      have hb : blocked t q = false := by
        rw [Bool.eq_false_iff]
        intro hb
        obtain ⟨a, ha, r, hr, hk⟩ := blocked_iff.1 hb
        obtain ⟨j, hj, rfl⟩ := ups_pre h ha
        rcases Nat.lt_trichotomy j i with h3 | h3 | h3
        · obtain ⟨x, hx, hxk⟩ := hdir j h3
          rw [hr] at hx; cases hx; exact hk hxk
        · subst h3; rw [h2] at hr; cases hr
        · obtain ⟨x, hx, _⟩ := dir_up ht hr (pre_up h h3 (by omega))
          rw [h2] at hx; cases hx
      unfold findT
      rw [hq, hb]
      rfl
    · rw [h1, if_neg (by omega), Int.toNat_natCast, List.getElem?_eq_getElem hk]
      by_cases hl : i + 1 = nparts q
      · rw [if_pos hl]
        rw [pre_last i (by omega)] at h2
        unfold findT
        rw [h2]
        rfl
      · rw [if_neg hl]
        by_cases h3 : t[k].k = 3
        · rw [if_neg (by simpa using h3)]
          refine ih (i + 1) (by omega) (by omega) fun j hj => ?_
          rcases Nat.lt_or_ge j i with h4 | h4
          · exact hdir j h4
          · obtain rfl : j = i := by omega
            exact ⟨_, h2, h3⟩
        · rw [if_pos (by simpa using h3)]
          have hup := pre_ups h (i := i) (by omega)
          have hq : recAt t q = none := by
            cases hr : recAt t q with
            | none => rfl
            | some r =>
              obtain ⟨x, hx, hxk⟩ := dir_up ht hr hup
              rw [h2] at hx; cases hx; exact absurd hxk h3
          unfold findT
          rw [hq, blocked_iff.2 ⟨_, hup, _, h2, h3⟩]
          rfl
/-- Resolving part by part comes to this. -/
theorem find_is {t : List R} (ht : IsTree t) {q : ByteArray} (h : pathB q.data.toList = true) : findFrom t q 0 = findT t q :=
  find_closed ht h _ 0 rfl (nparts_pos q) (fun j hj => by omega)
end Go.Proofs.YtcnjiphoahoojaaGreatDoor.Recs
