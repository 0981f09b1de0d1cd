/- Parts of several texts of mine in one file (each begins with its own remark). -/
import Derived.Test.YtibekkfbpmloiabGreatDoorCA1
import Derived.Test.YtibekkfbpmloiabGreatDoorCA2
import Derived.Test.YtibekkfbpmloiabGreatDoorCA3
import Derived.Test.YtibekkfbpmloiabGreatDoorCA4
import Derived.Test.YtibekkfbpmloiabGreatDoorCA5
import Derived.Test.YtibekkfbpmloiabGreatDoorCA6
import Derived.Test.YtibekkfbpmloiabGreatDoorCA7
import Derived.Test.YtibekkfbpmloiabGreatDoorCA8
import Derived.Test.YtibekkfbpmloiabGreatDoorCA9
import Derived.Test.YtibekkfbpmloiabGreatDoorChecked
import Derived.Test.YtibekkfbpmloiabGreatDoorShelf
import Derived.BigQuiet
import Derived.Deep.QuietTactic
import Derived.Deep.RegionHeld3
import Derived.StillTailTactics
import Derived.Deep.Draws
import Derived.Deep.LoopGhost
import Derived.WalkKit
import Derived.WalkSpells
import Derived.WalkSmall
import Derived.Lib.OthersKept
import Derived.Lib.Hide
import Derived.Lib.Strings
import Derived.Laws.OwnMore
import Derived.BigRegion
import Derived.Deep.Slices
import Derived.OpenShut
import Derived.ShutString
import Derived.ChangeArms
import Derived.WideShapes
import Derived.Lib.LaidTab
import Derived.Lib.Join
import Derived.Laws.BytesArg
/- Records: RecordOK, and what makes a record, of the program and of its model. Condition (of the program's): its table of kinds holds what its own initialiser lays. -/
namespace Go.Proofs.YtibekkfbpmloiabGreatDoor.Recs
open Go.RowKit Paths

theorem recordOK_impl (k m : Int) (p b : ByteArray) (o : Bool) (w : World) (hp : p.size ≤ maxLen) (ht : Tab w) :
    Calls Tryz.prog 208 #[.agg #[.int .i64 k, .string p, .string b, .int .i64 m, .bool o]] w fun e w' => e = .returned (.bool (faultI k p.data.toList b.size m o == 0)) ∧ Below w.heap.size w w' := by
  go_enter Tryz.func208, Tryz.ntmps208
  go_wp2_with fail
  refine (recordFault_impl k m p b o _ hp (ht.below ((Below.refl _ _).alloc (Nat.le_refl _) _) (Nat.le_refl _))).mono ?_
  rintro e w1 ⟨rfl, hb1⟩
  go_wp2_with fail
  go_ret
  exact ⟨rfl, ((Below.refl _ _).alloc (Nat.le_refl _) _).trans (hb1.mono (by simp <;> omega))⟩

theorem l02OK_any (k m : Int) (p b : ByteArray) (o : Bool) (w : World) :
    Calls Tryz.prog 124 #[.agg #[.int .i64 k, .string p, .string b, .int .i64 m, .bool o]] w fun e w' => e = .returned (.bool (faultI k p.data.toList b.size m o == 0)) ∧ Below w.heap.size w w' := by
  go_enter Tryz.func124, Tryz.ntmps124
  go_wp2_with fail
  refine (l02Fault_any k m p b o _).mono ?_
  rintro e w1 ⟨rfl, hb1⟩
  go_wp2_with fail
  go_ret
  exact ⟨rfl, ((Below.refl _ _).alloc (Nat.le_refl _) _).trans (hb1.mono (by simp <;> omega))⟩

/-! ### Making a record -/
end Go.Proofs.YtibekkfbpmloiabGreatDoor.Recs

/- The laws' own copy of a slice of records, its size, its comparison. -/
namespace Go.Proofs.YtibekkfbpmloiabGreatDoor.Recs
set_option maxRecDepth 100000
open Go.RowKit Paths

def zR : R := ⟨0, 0, ByteArray.empty, ByteArray.empty, false⟩
end Go.Proofs.YtibekkfbpmloiabGreatDoor.Recs

/- Plain facts on paths: a path is its parent and one part; the order of paths is strict and total; what is below a path follows it at once. -/
namespace Go.Proofs.YtibekkfbpmloiabGreatDoor

theorem lessP_between : ∀ (B A C : List (List UInt8)), lessP B A = true → lessP A (B ++ C) = true → belowP A B = true
  | [], [], _, h, _ => by simp [lessP] at h
  | [], _ :: _, _, _, _ => by simp [belowP]
  | _ :: _, [], _, h, _ => by simp [lessP] at h
  | b :: B, a :: A, C, h, k => by
    simp only [List.cons_append, lessP] at h k
    by_cases e : b = a
    · subst e
      simp only [if_true] at h k
      have := lessP_between B A C h k
      simp [belowP] at this ⊢
      exact this
    · rw [if_neg e] at h
      rw [if_neg (fun x => e x.symm)] at k
      rw [bytesLess_asymm b a h] at k
      cases k
/-! ### A path is its parent and one part -/
end Go.Proofs.YtibekkfbpmloiabGreatDoor

/- Paths: JoinPath, of the program and of its model. -/
namespace Go.Proofs.YtibekkfbpmloiabGreatDoor.Paths
open Go.RowKit

theorem JoinPost.name {d p : ByteArray} {w w' : World} (h : joinWay d p = 1) (hb : Below w.heap.size w w') : JoinPost d p w (.returned (.tuple #[.string ⟨#[]⟩, .int .i64 10])) w' := ⟨by unfold joinRes joinCode; rw [h]; rfl, hb⟩
end Go.Proofs.YtibekkfbpmloiabGreatDoor.Paths

/- Trees as plain lists of nodes (records of which Opaque is false): the model's check, record by record, and what it says at once. -/
namespace Go.Proofs.YtibekkfbpmloiabGreatDoor.Recs
open Go.RowKit Paths

/-- The parent of a path, where it is no root, stands among the first i and is a directory. -/
def homeOK (t : List R) (i : Nat) (q : ByteArray) : Bool :=
  if parentL q.data.toList = [] then true else decide (0 ≤ atL (t.take i) (parO q)) && (t[(atL (t.take i) (parO q)).toNat]?).all (fun x => decide (x.k = 3))
/-- The node r is fine at place i. -/
def nodeOK (t : List R) (i : Nat) (r : R) : Bool :=
  decide (r.k ≠ 4) && decide (r.fault = 0) && (beforeL t i).all (fun x => lessR x r) && homeOK t i r.p
def treeFrom (t : List R) (i : Nat) : Bool := if h : i < t.length then nodeOK t i t[i] && treeFrom t (i + 1) else true
termination_by t.length - i
def treeOK (t : List R) : Bool := decide (t.length ≤ 24) && treeFrom t 0
theorem treeFrom_step {t : List R} {i : Nat} (h : i < t.length) : treeFrom t i = (nodeOK t i t[i] && treeFrom t (i + 1)) := by rw [treeFrom, dif_pos h]
theorem treeFrom_end {t : List R} {i : Nat} (h : t.length ≤ i) : treeFrom t i = true := by rw [treeFrom, dif_neg (by omega)]
theorem treeFrom_all (t : List R) : ∀ (n i : Nat), t.length - i = n → (treeFrom t i = true ↔ ∀ j (h : j < t.length), i ≤ j → nodeOK t j t[j] = true) := by
  intro n
  induction n with
  | zero =>
    intro i hi
    rw [treeFrom_end (by omega)]
    exact ⟨fun _ j hj hij => by omega, fun _ => rfl⟩
  | succ n ih =>
    intro i hi
    have hlt : i < t.length := by omega
    rw [treeFrom_step hlt, Bool.and_eq_true, ih (i + 1) (by omega)]
    constructor
    · rintro ⟨h1, h2⟩ j hj hij
      rcases Nat.eq_or_lt_of_le hij with rfl | h3
      · exact h1
      · exact h2 j hj h3
    · intro h
      exact ⟨h i hlt (Nat.le_refl _), fun j hj hij => h j hj (by omega)⟩
theorem homeOK_yes {t : List R} {i : Nat} (hi : i ≤ t.length) {q : ByteArray} (h : homeOK t i q = true) (hp : parentL q.data.toList ≠ []) : ∃ k, ∃ hk : k < i, (t[k]'(by omega)).p = parO q ∧ (t[k]'(by omega)).k = 3 := by
  unfold homeOK at h
  rw [if_neg hp, Bool.and_eq_true, decide_eq_true_eq] at h
  rcases atL_cases (t.take i) (parO q) with ⟨h3, _⟩ | ⟨k, hk, h3, h4, _⟩
  · omega
  · have hki : k < i := by rw [List.length_take] at hk; omega
    refine ⟨k, hki, by simpa using h4, ?_⟩
    have h5 := h.2
    rw [h3, Int.toNat_natCast, List.getElem?_eq_getElem (by omega)] at h5
    simpa using h5
theorem nodeOK_parts {t : List R} {i : Nat} (hi : i < t.length) (h : nodeOK t i t[i] = true) :
    t[i].k ≠ 4 ∧ t[i].fault = 0 ∧ (∀ x, beforeL t i = some x → lessR x t[i] = true) ∧ (parentL t[i].p.data.toList ≠ [] → ∃ k, ∃ hk : k < i, (t[k]'(by omega)).p = parO t[i].p ∧ (t[k]'(by omega)).k = 3) := by
  unfold nodeOK at h
  simp only [Bool.and_eq_true, decide_eq_true_eq] at h
  obtain ⟨⟨⟨h1, h2⟩, h3⟩, h4⟩ := h
  refine ⟨h1, h2, fun x hx => ?_, homeOK_yes (by omega) h4⟩
  rw [hx] at h3
  simpa using h3
theorem nexts_sorted {t : List R} (h : ∀ i (hi : i + 1 < t.length), lessR (t[i]'(by omega)) t[i + 1] = true) : Sorted t := by
  have key : ∀ (n i j : Nat) (hj : j < t.length) (hij : j = i + 1 + n), lessR (t[i]'(by omega)) t[j] = true := by
    intro n
    induction n with
    | zero => intro i j hj hij; subst hij; exact h i hj
    | succ n ih =>
      intro i j hj hij
      subst hij
      exact lessP_trans _ _ _ (ih i (i + 1 + n) (by omega) rfl) (h (i + 1 + n) (by omega))
  unfold Sorted
  rw [List.pairwise_iff_getElem]
  exact fun i j _ hj hij => key (j - i - 1) i j hj (by omega)
theorem tree_of {t : List R} (h : treeOK t = true) : Tree t := by
  unfold treeOK at h
  rw [Bool.and_eq_true, decide_eq_true_eq] at h
  have hall := (treeFrom_all t _ 0 rfl).1 h.2
  have hp := fun i (hi : i < t.length) => nodeOK_parts hi (hall i hi (Nat.zero_le _))
  refine ⟨h.1, fun r hr => ?_, fun r hr => ?_, nexts_sorted fun i hi => ?_, fun r hr hpar => ?_⟩
  · obtain ⟨i, hi, rfl⟩ := List.getElem_of_mem hr
    exact (hp i hi).1
  · obtain ⟨i, hi, rfl⟩ := List.getElem_of_mem hr
    exact (hp i hi).2.1
  · refine (hp (i + 1) hi).2.2.1 _ ?_
    unfold beforeL
    rw [if_neg (by omega)]
    simp [show i < t.length by omega]
  · obtain ⟨i, hi, rfl⟩ := List.getElem_of_mem hr
    obtain ⟨k, hk, h1, h2⟩ := (hp i hi).2.2.2 hpar
    exact ⟨_, List.getElem_mem _, h1, h2⟩
theorem home_of {t : List R} (hs : Sorted t) (hh : Housed t) {i : Nat} (hi : i < t.length) (hpath : pathB t[i].p.data.toList = true) : homeOK t i t[i].p = true := by
  unfold homeOK
  by_cases hp : parentL t[i].p.data.toList = []
  · rw [if_pos hp]
  · rw [if_neg hp]
    obtain ⟨x, hx, hxp, hxk⟩ := hh _ (List.getElem_mem hi) hp
    obtain ⟨k, hk, rfl⟩ := List.getElem_of_mem hx
    have hki : k < i := by
      rcases Nat.lt_trichotomy k i with h1 | h1 | h1
      · exact h1
      · subst h1
        have h2 := parent_less hpath hp
        rw [← hxp, lessP_irrefl] at h2
        cases h2
      · have h2 := parent_less hpath hp
        have h3 := sorted_get hs hk h1
        unfold lessR at h3
        rw [hxp] at h3
        rw [lessP_asymm _ _ h2] at h3
        cases h3
    rcases atL_cases (t.take i) (parO t[i].p) with ⟨_, h2⟩ | ⟨j, hj, h1, h2, _⟩
    · exact absurd hxp (h2 _ (List.mem_take_iff_getElem.2 ⟨k, by omega, rfl⟩))
    · have hji : j < i := by rw [List.length_take] at hj; omega
      have h2' : (t[j]'(by omega)).p = parO t[i].p := by simpa using h2
      have ejk : j = k := sorted_once hs (by omega) hk (h2'.trans hxp.symm)
      subst ejk
      rw [h1]
      simp [show j < t.length by omega, hxk]
theorem treeOK_of {t : List R} (h : Tree t) : treeOK t = true := by
  unfold treeOK
  rw [Bool.and_eq_true, decide_eq_true_eq]
  refine ⟨h.len, (treeFrom_all t _ 0 rfl).2 fun i hi _ => ?_⟩
  have hm := List.getElem_mem hi
  have hf := h.fault _ hm
  unfold nodeOK
  simp only [Bool.and_eq_true, decide_eq_true_eq]
  refine ⟨⟨⟨h.kind _ hm, hf⟩, ?_⟩, home_of h.sorted h.housed hi (fault_path hf).1⟩
  cases hb : beforeL t i with
  | none => rfl
  | some x =>
    unfold beforeL at hb
    split at hb
    · cases hb
    · rw [List.getElem?_eq_getElem (show i - 1 < t.length by omega)] at hb
      cases hb
      exact sorted_get h.sorted hi (by omega)
end Go.Proofs.YtibekkfbpmloiabGreatDoor.Recs

/- Resolving a path in a tree, part by part, and what comes out at once. -/
namespace Go.Proofs.YtibekkfbpmloiabGreatDoor.Recs
open Go.RowKit Paths

def nparts (q : ByteArray) : Nat := (cutAt 47 q.data.toList).length
theorem pre_data (q : ByteArray) (i : Nat) : (pre q i).data.toList = Lib.join ((cutAt 47 q.data.toList).take (i + 1)) [47] := rfl
theorem nparts_pos (q : ByteArray) : 0 < nparts q := cutAt_pos 47 _
theorem pre_cut {q : ByteArray} (h : pathB q.data.toList = true) (i : Nat) : cutAt 47 (pre q i).data.toList = (cutAt 47 q.data.toList).take (i + 1) := by
  rw [pre_data]
  refine clean_of_all ?_ ?_
  · have := (pathB_parts h).2
    rw [List.all_eq_true] at this ⊢
    exact fun x hx => this x (List.mem_of_mem_take hx)
  · intro e
    have h1 := congrArg List.length e
    have h2 := nparts_pos q
    unfold nparts at h2
    rw [List.length_take, List.length_nil] at h1
    omega
theorem pre_path {q : ByteArray} (h : pathB q.data.toList = true) (i : Nat) : pathB (pre q i).data.toList = true := by
  unfold pathB
  rw [pre_cut h]
  obtain ⟨h1, h2⟩ := pathB_parts h
  simp only [Bool.and_eq_true, decide_eq_true_eq]
  refine ⟨by rw [List.length_take]; omega, ?_⟩
  rw [List.all_eq_true] at h2 ⊢
  exact fun x hx => h2 x (List.mem_of_mem_take hx)
theorem pre_last {q : ByteArray} (i : Nat) (hi : nparts q ≤ i + 1) : pre q i = q := by
  apply ByteArray.ext
  apply Array.toList_inj.1
  rw [pre_data, List.take_of_length_le hi, join_cut]
theorem pre_up {q : ByteArray} (h : pathB q.data.toList = true) {i j : Nat} (hij : i < j) (hj : j < nparts q) : pre q i ∈ ups (pre q j) := by
  rw [up_below (pre_path h j), pre_cut h, pre_cut h]
  unfold belowP
  unfold nparts at hj
  simp only [Bool.and_eq_true, decide_eq_true_eq, beq_iff_eq, List.length_take]
  refine ⟨by omega, ?_⟩
  rw [List.take_take]
  congr 1
  omega
theorem pre_ups {q : ByteArray} (h : pathB q.data.toList = true) {i : Nat} (hi : i + 1 < nparts q) : pre q i ∈ ups q := by
  have := pre_up h (i := i) (j := nparts q - 1) (by omega) (by omega)
  rwa [pre_last (nparts q - 1) (by omega)] at this
theorem ups_pre {q a : ByteArray} (h : pathB q.data.toList = true) (ha : a ∈ ups q) : ∃ i, i + 1 < nparts q ∧ a = pre q i := by
  have hp := ups_path h a ha
  rw [up_below h] at ha
  unfold belowP at ha
  simp only [Bool.and_eq_true, decide_eq_true_eq, beq_iff_eq] at ha
  have h1 := nparts_pos a
  unfold nparts at h1 ⊢
  refine ⟨(cutAt 47 a.data.toList).length - 1, by omega, bytes_cut ?_⟩
  rw [pre_cut h, Nat.sub_add_cancel h1]
  exact ha.2.symm

/-- Resolving, from the i-th part on: the node, or the code. -/
def findFrom (t : List R) (q : ByteArray) (i : Nat) : R × Int :=
  if i < nparts q then
    (if atL t (pre q i) < 0 then (⟨0, 0, ByteArray.empty, ByteArray.empty, false⟩, 5)
     else if i + 1 = nparts q then ((t[(atL t (pre q i)).toNat]?).getD ⟨0, 0, ByteArray.empty, ByteArray.empty, false⟩, 0)
     else if (t[(atL t (pre q i)).toNat]?).any (fun x => decide (x.k ≠ 3)) then (⟨0, 0, ByteArray.empty, ByteArray.empty, false⟩, 13) else findFrom t q (i + 1))
  else (⟨0, 0, ByteArray.empty, ByteArray.empty, false⟩, 5)
termination_by nparts q - i
/-- What is in the way of a path: one above it that is no directory. -/
def blocked (t : List R) (q : ByteArray) : Bool := (ups q).any fun a => (recAt t a).any fun x => decide (x.k ≠ 3)
def findT (t : List R) (q : ByteArray) : R × Int := match recAt t q with
  | some r => (r, 0)
  | none => (⟨0, 0, ByteArray.empty, ByteArray.empty, false⟩, if blocked t q then 13 else 5)
theorem blocked_iff {t : List R} {q : ByteArray} : blocked t q = true ↔ ∃ a ∈ ups q, ∃ r, recAt t a = some r ∧ r.k ≠ 3 := by
  unfold blocked
  rw [List.any_eq_true]
  constructor
  · rintro ⟨a, ha, h⟩
    cases hr : recAt t a with
    | none => rw [hr] at h; cases h
    | some r => rw [hr] at h; exact ⟨a, ha, r, hr, by simpa using h⟩
  · rintro ⟨a, ha, r, hr, hk⟩
    exact ⟨a, ha, by rw [hr]; simpa using hk⟩
theorem find_closed {t : List R} (ht : IsTree t) {q : ByteArray} (h : pathB q.data.toList = true) : ∀ (n i : Nat), nparts q - i = n → i < nparts q → (∀ j, j < i → ∃ r, recAt t (pre q j) = some r ∧ r.k = 3) → findFrom t q i = findT t q := by
  intro n
  induction n with
  | zero => intro i hi hlt _; omega
  | succ n ih =>
    intro i hi hlt hdir
    rw [findFrom, if_pos hlt]
    rcases atL_recAt t (pre q i) with ⟨h1, h2⟩ | ⟨k, hk, h1, h2⟩
    · rw [h1, if_pos (by decide)]
      have hq : recAt t q = none := by
        cases hr : recAt t q with
        | none => rfl
        | some r =>
          by_cases hl : i + 1 < nparts q
          · obtain ⟨x, hx, _⟩ := dir_up ht hr (pre_ups h hl)
            rw [h2] at hx; cases hx
          · rw [pre_last i (by omega)] at h2
            rw [h2] at hr; cases hr
      have hb : blocked t q = false := by
        rw [Bool.eq_false_iff]
        intro hb
        obtain ⟨a, ha, r, hr, hk⟩ := blocked_iff.1 hb
        obtain ⟨j, hj, rfl⟩ := ups_pre h ha
        rcases Nat.lt_trichotomy j i with h3 | h3 | h3
        · obtain ⟨x, hx, hxk⟩ := hdir j h3
          rw [hr] at hx; cases hx; exact hk hxk
        · subst h3; rw [h2] at hr; cases hr
        · obtain ⟨x, hx, _⟩ := dir_up ht hr (pre_up h h3 (by omega))
          rw [h2] at hx; cases hx
      unfold findT
      rw [hq, hb]
      rfl
    · rw [h1, if_neg (by omega), Int.toNat_natCast, List.getElem?_eq_getElem hk]
      by_cases hl : i + 1 = nparts q
      · rw [if_pos hl]
        rw [pre_last i (by omega)] at h2
        unfold findT
        rw [h2]
        rfl
      · rw [if_neg hl]
        by_cases h3 : t[k].k = 3
        · rw [if_neg (by simpa using h3)]
          refine ih (i + 1) (by omega) (by omega) fun j hj => ?_
          rcases Nat.lt_or_ge j i with h4 | h4
          · exact hdir j h4
          · obtain rfl : j = i := by omega
            exact ⟨_, h2, h3⟩
        · rw [if_pos (by simpa using h3)]
          have hup := pre_ups h (i := i) (by omega)
          have hq : recAt t q = none := by
            cases hr : recAt t q with
            | none => rfl
            | some r =>
              obtain ⟨x, hx, hxk⟩ := dir_up ht hr hup
              rw [h2] at hx; cases hx; exact absurd hxk h3
          unfold findT
          rw [hq, blocked_iff.2 ⟨_, hup, _, h2, h3⟩]
          rfl
/-- Resolving part by part comes to this. -/
theorem find_is {t : List R} (ht : IsTree t) {q : ByteArray} (h : pathB q.data.toList = true) : findFrom t q 0 = findT t q :=
  find_closed ht h _ 0 rfl (nparts_pos q) (fun j hj => by omega)
end Go.Proofs.YtibekkfbpmloiabGreatDoor.Recs

/- Adding a node to a tree and removing one, plain: where it goes, and that a tree stays a tree. -/
namespace Go.Proofs.YtibekkfbpmloiabGreatDoor.Recs
open Go.RowKit Paths

/-- A tree with a node put into a home of its own is a tree. -/
theorem put_tree {t : List R} (h : Tree t) {n : R} (hk : n.k ≠ 4) (hf : n.fault = 0) (hnew : recAt t n.p = none) (hhome : parentL n.p.data.toList ≠ [] → ∃ x ∈ t, x.p = parO n.p ∧ x.k = 3) (hlen : t.length < 24) : Tree (putL t n) := by
  have hmem := fun x => mem_put (t := t) (n := n) (x := x)
  refine ⟨?_, fun r hr => ?_, fun r hr => ?_, put_sorted h.sorted n, fun r hr hp => ?_⟩
  · have : (putL t n).length ≤ t.length + 1 := by
      unfold putL
      rw [List.length_append, List.length_cons]
      have key : ∀ l : List R, (l.filter (fun x => lessR x n)).length + (l.filter (fun x => lessR n x)).length ≤ l.length := by
        intro l
        induction l with
        | nil => simp
        | cons y l ih =>
          rcases Bool.eq_false_or_eq_true (lessR y n) with h1 | h1
          · rw [List.filter_cons_of_pos (p := fun x => lessR x n) h1, List.filter_cons_of_neg (p := fun x => lessR n x) (by simp [lessR_asymm h1])]
            simp only [List.length_cons]; omega
          · rw [List.filter_cons_of_neg (p := fun x => lessR x n) (by simp [h1])]
            rcases Bool.eq_false_or_eq_true (lessR n y) with h2 | h2
            · rw [List.filter_cons_of_pos (p := fun x => lessR n x) h2]; simp only [List.length_cons]; omega
            · rw [List.filter_cons_of_neg (p := fun x => lessR n x) (by simp [h2])]; simp only [List.length_cons]; omega
      have := key t
      omega
    omega
  · rcases (hmem r).1 hr with rfl | ⟨h1, _⟩
    · exact hk
    · exact h.kind r h1
  · rcases (hmem r).1 hr with rfl | ⟨h1, _⟩
    · exact hf
    · exact h.fault r h1
  · have hold : ∀ x ∈ t, x ∈ putL t n := fun x hx => (hmem x).2 (.inr ⟨hx, fun e => recAt_none hnew x hx e⟩)
    rcases (hmem r).1 hr with rfl | ⟨h1, _⟩
    · obtain ⟨x, hx, h2⟩ := hhome hp
      exact ⟨x, hold x hx, h2⟩
    · obtain ⟨x, hx, h2⟩ := h.housed r h1 hp
      exact ⟨x, hold x hx, h2⟩
end Go.Proofs.YtibekkfbpmloiabGreatDoor.Recs

/- Trees with what is directly below each node, plain. -/
namespace Go.Proofs.YtibekkfbpmloiabGreatDoor.Recs
open Go.RowKit Paths

theorem bytes_ext {a b : ByteArray} (h : a.data.toList = b.data.toList) : a = b := ByteArray.ext (Array.toList_inj.1 h)
theorem pre_parent {q : ByteArray} (h : pathB q.data.toList = true) {i : Nat} (hi : i + 1 < nparts q) : parO (pre q (i + 1)) = pre q i := by
  apply bytes_ext
  rw [parO_data]
  unfold parentL
  rw [pre_cut h, pre_data]
  congr 1
  unfold nparts at hi
  rw [List.dropLast_eq_take, List.take_take, List.length_take]
  congr 1
  omega
theorem pre_parent0 {q : ByteArray} (h : pathB q.data.toList = true) : parO (pre q 0) = ByteArray.empty := by
  rw [parO_empty]
  unfold parentL
  rw [pre_cut h]
  have := nparts_pos q
  unfold nparts at this
  match hc : cutAt 47 q.data.toList, this with
  | x :: t, _ => rfl
theorem pre_lastB {q : ByteArray} (h : pathB q.data.toList = true) {i : Nat} (hi : i < nparts q) : lastB (pre q i) = ⟨((cutAt 47 q.data.toList)[i]'hi).toArray⟩ := by
  unfold lastB
  congr 2
  have hl : (cutAt 47 (pre q i).data.toList).length = i + 1 := by
    rw [pre_cut h, List.length_take]
    unfold nparts at hi
    omega
  rw [List.getLast_eq_getElem]
  have : ∀ (A B : List (List UInt8)) (e : A = B) (n m : Nat) (hn : n < A.length) (hm : m < B.length), n = m → A[n] = B[m] := by
    intro A B e n m hn hm e2
    subst e e2
    rfl
  rw [this _ _ (pre_cut h i) _ i _ (by rw [List.length_take]; unfold nparts at hi; omega) (by omega), List.getElem_take]
  rfl
/-- Among what is directly below, the one of a last part. -/
theorem kid_find {t : List R} (ht : ∀ r ∈ t, pathB r.p.data.toList = true) {c : ByteArray} (hc : pathB c.data.toList = true) {p x : ByteArray} (hp : parO c = p) (hx : lastB c = x) :
    (kids t p).find? (fun r => decide (lastB r.p = x)) = recAt t c := by
  unfold kids recAt
  rw [List.find?_filter]
  subst hp hx
  induction t with
  | nil => rfl
  | cons r t ih =>
    have hr := ht r (List.mem_cons_self ..)
    have ih' := ih fun r hm => ht r (List.mem_cons_of_mem _ hm)
    by_cases he : r.p = c
    · rw [List.find?_cons_of_pos (by simp [he]), List.find?_cons_of_pos (by simp [he])]
    · have : ¬ (parO r.p = parO c ∧ lastB r.p = lastB c) := fun h => he (path_two hr hc h.1 h.2)
      rw [List.find?_cons_of_neg (by simpa using this), List.find?_cons_of_neg (by simpa using he)]
      exact ih'
end Go.Proofs.YtibekkfbpmloiabGreatDoor.Recs

/- Trees, plain: all that is below a path, by what is directly below it; what putting a node in and taking one out do to what is directly below. -/
namespace Go.Proofs.YtibekkfbpmloiabGreatDoor.Recs
open Go.RowKit Paths

/-- Among what is directly below one, the last part decides. -/
theorem lessP_last : ∀ (A : List (List UInt8)) (x y : List UInt8), lessP (A ++ [x]) (A ++ [y]) = Op.bytesLess x y
  | [], x, y => by
    unfold lessP
    by_cases h : x = y
    · subst h; simp [lessP, bytesLess_irrefl]
    · simp [h]
  | a :: A, x, y => by
    have := lessP_last A x y
    simp only [List.cons_append, lessP]
    simpa using this
theorem less_kid {a b : ByteArray} (ha : pathB a.data.toList = true) (hb : pathB b.data.toList = true) (h : parO a = parO b) : lessP (cutAt 47 a.data.toList) (cutAt 47 b.data.toList) = Op.bytesLess (lastB a).data.toList (lastB b).data.toList := by
  have e1 : parentL a.data.toList = parentL b.data.toList := by rw [← parO_data, ← parO_data, h]
  have e2 : (cutAt 47 a.data.toList).dropLast = (cutAt 47 b.data.toList).dropLast := by
    rcases parent_cases ha with ⟨a1, a2, _⟩ | ⟨_, a2, a3, _⟩ <;> rcases parent_cases hb with ⟨b1, b2, _⟩ | ⟨_, b2, b3, _⟩
    · rw [a2, b2]; rfl
    · exact absurd (e1.symm.trans a1) b3
    · exact absurd (e1.trans b1) a3
    · rw [← a2, ← b2, e1]
  rw [cut_parent a.data.toList, cut_parent b.data.toList, e2, lessP_last]
  rfl
end Go.Proofs.YtibekkfbpmloiabGreatDoor.Recs
