/- Parts of several texts of mine in one file (each begins with its own remark). -/
import Derived.Test.YtcnjiphoahoojaaGreatDoorEA1
import Derived.Test.YtcnjiphoahoojaaGreatDoorEA2
import Derived.Test.YtcnjiphoahoojaaGreatDoorEA3
import Derived.Test.YtcnjiphoahoojaaGreatDoorEA4
import Derived.Test.YtcnjiphoahoojaaGreatDoorEA5
import Derived.Test.YtcnjiphoahoojaaGreatDoorChecked
import Derived.Test.YtcnjiphoahoojaaGreatDoorShelf
import Derived.Deep.Slices
import Derived.OpenShut
import Derived.ShutString
import Derived.ChangeArms
import Derived.WideShapes
import Derived.Lib.LaidTab
import Derived.BigQuiet
import Derived.Deep.QuietTactic
import Derived.Deep.RegionHeld3
import Derived.StillTailTactics
import Derived.Deep.Draws
import Derived.Deep.LoopGhost
import Derived.WalkKit
import Derived.WalkSpells
import Derived.WalkSmall
import Derived.Lib.OthersKept
import Derived.Lib.Hide
import Derived.Lib.Strings
import Derived.Lib.Join
import Derived.Laws.BytesArg
/- Adding a node to a tree and removing one, plain: where it goes, and that a tree stays a tree. -/
namespace Go.Proofs.YtcnjiphoahoojaaGreatDoor.Recs
open Go.RowKit Paths

theorem lessR_trans {x y z : R} (h : lessR x y = true) (k : lessR y z = true) : lessR x z = true := lessP_trans _ _ _ h k
theorem lessR_asymm {x y : R} (h : lessR x y = true) : lessR y x = false := lessP_asymm _ _ h
theorem lessR_path {x y n : R} (h : x.p = y.p) : lessR x n = lessR y n := by unfold lessR; rw [h]
theorem put_head {t : List R} (h : Sorted t) (n : R) : t.takeWhile (fun x => lessR x n) = t.filter (fun x => lessR x n) := by
  induction t with
  | nil => rfl
  | cons x t ih =>
    unfold Sorted at h ih
    rw [List.pairwise_cons] at h
    rcases Bool.eq_false_or_eq_true (lessR x n) with hx | hx
    · rw [List.takeWhile_cons_of_pos (p := fun x => lessR x n) hx, List.filter_cons_of_pos (p := fun x => lessR x n) hx, ih h.2]
    · rw [List.takeWhile_cons_of_neg (p := fun x => lessR x n) (by simp [hx]), List.filter_cons_of_neg (p := fun x => lessR x n) (by simp [hx])]
      symm
      rw [List.filter_eq_nil_iff]
      intro y hy hn
      rw [lessR_trans (h.1 y hy) hn] at hx
      cases hx
theorem put_tail {t : List R} (h : Sorted t) (n : R) : t.filter (fun x => lessR n x) = (if (t.dropWhile (fun x => lessR x n)).head?.any (fun x => decide (x.p = n.p)) then (t.dropWhile (fun x => lessR x n)).tail else t.dropWhile (fun x => lessR x n)) := by
  induction t with
  | nil => rfl
  | cons x t ih =>
    unfold Sorted at h ih
    rw [List.pairwise_cons] at h
    rcases Bool.eq_false_or_eq_true (lessR x n) with hx | hx
    · rw [List.dropWhile_cons_of_pos (p := fun x => lessR x n) hx, List.filter_cons_of_neg (p := fun x => lessR n x) (by simp [lessR_asymm hx]), ih h.2]
    · rw [List.dropWhile_cons_of_neg (p := fun x => lessR x n) (by simp [hx])]
      simp only [List.head?_cons, Option.any_some, decide_eq_true_eq, List.tail_cons]
      by_cases he : x.p = n.p
      · rw [if_pos he, List.filter_cons_of_neg (p := fun x => lessR n x) (by rw [← lessR_path he, lessR_irrefl]; decide)]
        rw [List.filter_eq_self]
        intro y hy
        rw [← lessR_path he]
        exact h.1 y hy
      · rw [if_neg he]
        have hn : lessR n x = true := by
          rcases less_or he with h1 | h1
          · rw [h1] at hx; cases hx
          · exact h1
        rw [List.filter_cons_of_pos (p := fun x => lessR n x) hn]
        congr 1
        rw [List.filter_eq_self]
        intro y hy
        exact lessR_trans hn (h.1 y hy)
/-- The place where a node goes: behind those that are less. -/
def placeOf (t : List R) (n : R) : Nat := (t.takeWhile (fun x => lessR x n)).length
theorem place_take (t : List R) (n : R) : t.take (placeOf t n) = t.takeWhile (fun x => lessR x n) := by
  unfold placeOf
  conv => lhs; rw [← List.takeWhile_append_dropWhile (p := fun x => lessR x n) (l := t)]
  rw [List.takeWhile_append_dropWhile]
  conv => lhs; arg 2; rw [← List.takeWhile_append_dropWhile (p := fun x => lessR x n) (l := t)]
  rw [List.take_left' rfl]
theorem place_drop (t : List R) (n : R) : t.drop (placeOf t n) = t.dropWhile (fun x => lessR x n) := by
  unfold placeOf
  conv => lhs; arg 2; rw [← List.takeWhile_append_dropWhile (p := fun x => lessR x n) (l := t)]
  rw [List.drop_left' rfl]
/-- As the model puts it. -/
theorem put_is {t : List R} (h : Sorted t) (n : R) :
    putL t n = t.take (placeOf t n) ++ n :: (if (t[placeOf t n]?).any (fun x => decide (x.p = n.p)) then t.drop (placeOf t n + 1) else t.drop (placeOf t n)) := by
  unfold putL
  rw [← put_head h, put_tail h, place_take, place_drop]
  have e1 : (t.dropWhile (fun x => lessR x n)).head? = t[placeOf t n]? := by rw [← place_drop, List.head?_drop]
  have e2 : (t.dropWhile (fun x => lessR x n)).tail = t.drop (placeOf t n + 1) := by rw [← place_drop, List.tail_drop]
  rw [e1, e2]
theorem place_less {t : List R} {n : R} {k : Nat} (hk : k < placeOf t n) : ∃ h : k < t.length, lessR t[k] n = true := by
  have hlen : placeOf t n ≤ t.length := by unfold placeOf; exact (List.takeWhile_prefix _).sublist.length_le
  refine ⟨by omega, ?_⟩
  have hm : t[k]'(by omega) ∈ t.takeWhile (fun x => lessR x n) := by
    rw [← place_take]
    exact List.mem_take_iff_getElem.2 ⟨k, by omega, rfl⟩
  have hall : (t.takeWhile (fun x => lessR x n)).all (fun x => lessR x n) = true := List.all_takeWhile
  exact List.all_eq_true.1 hall (t[k]'(by omega)) hm
theorem place_stop {t : List R} {n : R} (h : placeOf t n < t.length) : lessR t[placeOf t n] n = false := by
  have e : t[placeOf t n]? = (t.dropWhile (fun x => lessR x n)).head? := by rw [← place_drop, List.head?_drop]
  rw [List.getElem?_eq_getElem h] at e
  have := List.head?_dropWhile_not (p := fun x => lessR x n) t
  rw [← e] at this
  simpa using this

/-- A tree with a node put into a home of its own is a tree. -/
theorem put_tree {t : List R} (h : Tree t) {n : R} (hk : n.k ≠ 4) (hf : n.fault = 0) (hnew : recAt t n.p = none) (hhome : parentL n.p.data.toList ≠ [] → ∃ x ∈ t, x.p = parO n.p ∧ x.k = 3) (hlen : t.length < 24) : Tree (putL t n) := by
  have hmem := fun x => mem_put (t := t) (n := n) (x := x)
  refine ⟨?_, fun r hr => ?_, fun r hr => ?_, put_sorted h.sorted n, fun r hr hp => ?_⟩
  · have : (putL t n).length ≤ t.length + 1 := by
      unfold putL
      rw [List.length_append, List.length_cons]
      have key : ∀ l : List R, (l.filter (fun x => lessR x n)).length + (l.filter (fun x => lessR n x)).length ≤ l.length := by
        intro l
        induction l with
        | nil => simp
        | cons y l ih =>
          rcases Bool.eq_false_or_eq_true (lessR y n) with h1 | h1
          · rw [List.filter_cons_of_pos (p := fun x => lessR x n) h1, List.filter_cons_of_neg (p := fun x => lessR n x) (by simp [lessR_asymm h1])]
            simp only [List.length_cons]; omega
          · rw [List.filter_cons_of_neg (p := fun x => lessR x n) (by simp [h1])]
            rcases Bool.eq_false_or_eq_true (lessR n y) with h2 | h2
            · rw [List.filter_cons_of_pos (p := fun x => lessR n x) h2]; simp only [List.length_cons]; omega
            · rw [List.filter_cons_of_neg (p := fun x => lessR n x) (by simp [h2])]; simp only [List.length_cons]; omega
      have := key t
      omega
    omega
  · rcases (hmem r).1 hr with rfl | ⟨h1, _⟩
    · exact hk
    · exact h.kind r h1
  · rcases (hmem r).1 hr with rfl | ⟨h1, _⟩
    · exact hf
    · exact h.fault r h1
  · have hold : ∀ x ∈ t, x ∈ putL t n := fun x hx => (hmem x).2 (.inr ⟨hx, fun e => recAt_none hnew x hx e⟩)
    rcases (hmem r).1 hr with rfl | ⟨h1, _⟩
    · obtain ⟨x, hx, h2⟩ := hhome hp
      exact ⟨x, hold x hx, h2⟩
    · obtain ⟨x, hx, h2⟩ := h.housed r h1 hp
      exact ⟨x, hold x hx, h2⟩
end Go.Proofs.YtcnjiphoahoojaaGreatDoor.Recs

/- Trees with what is directly below each node, plain. -/
namespace Go.Proofs.YtcnjiphoahoojaaGreatDoor.Recs
open Go.RowKit Paths

/-- The last part of a path. -/
def lastB (p : ByteArray) : ByteArray := ⟨((cutAt 47 p.data.toList).getLast (cutAt_ne 47 _)).toArray⟩
/-- What the root of a tree is, as a node. -/
def rootR : R := ⟨3, 0, ByteArray.empty, ByteArray.empty, false⟩
/-- What is directly below a path. -/
def kids (t : List R) (p : ByteArray) : List R := t.filter fun c => decide (parO c.p = p)
theorem mem_kids {t : List R} {p : ByteArray} {c : R} : c ∈ kids t p ↔ c ∈ t ∧ parO c.p = p := by unfold kids; rw [List.mem_filter, decide_eq_true_eq]
theorem parO_empty {q : ByteArray} : parO q = ByteArray.empty ↔ parentL q.data.toList = [] := by
  constructor
  · intro h
    have := congrArg (fun b : ByteArray => b.data.toList) h
    rw [parO_data] at this
    exact this
  · intro h
    unfold parO
    rw [h]
    rfl
theorem path_nonempty {q : ByteArray} (h : pathB q.data.toList = true) : q ≠ ByteArray.empty := fun e => by
  rw [e] at h
  exact pathB_ne h rfl
theorem rootR_p : rootR.p = ByteArray.empty := rfl
theorem lastB_data (p : ByteArray) : (lastB p).data.toList = (cutAt 47 p.data.toList).getLast (cutAt_ne 47 _) := rfl
theorem bytes_ext {a b : ByteArray} (h : a.data.toList = b.data.toList) : a = b := ByteArray.ext (Array.toList_inj.1 h)
/-- A path is its parent and its last part. -/
theorem path_two {a b : ByteArray} (ha : pathB a.data.toList = true) (hb : pathB b.data.toList = true) (h1 : parO a = parO b) (h2 : lastB a = lastB b) : a = b := by
  have e1 : parentL a.data.toList = parentL b.data.toList := by rw [← parO_data, ← parO_data, h1]
  have e2 := congrArg (fun x : ByteArray => x.data.toList) h2
  simp only [lastB_data] at e2
  apply bytes_cut
  rw [cut_parent a.data.toList, cut_parent b.data.toList, e2]
  congr 1
  rcases parent_cases ha with ⟨a1, a2, _⟩ | ⟨_, a2, a3, _⟩ <;> rcases parent_cases hb with ⟨b1, b2, _⟩ | ⟨_, b2, b3, _⟩
  · rw [a2, b2]; rfl
  · exact absurd (e1.symm.trans a1) b3
  · exact absurd (e1.trans b1) a3
  · rw [← a2, ← b2, e1]
theorem pre_parent {q : ByteArray} (h : pathB q.data.toList = true) {i : Nat} (hi : i + 1 < nparts q) : parO (pre q (i + 1)) = pre q i := by
  apply bytes_ext
  rw [parO_data]
  unfold parentL
  rw [pre_cut h, pre_data]
  congr 1
  unfold nparts at hi
  rw [List.dropLast_eq_take, List.take_take, List.length_take]
  congr 1
  omega
theorem pre_parent0 {q : ByteArray} (h : pathB q.data.toList = true) : parO (pre q 0) = ByteArray.empty := by
  rw [parO_empty]
  unfold parentL
  rw [pre_cut h]
  have := nparts_pos q
  unfold nparts at this
  match hc : cutAt 47 q.data.toList, this with
  | x :: t, _ => rfl
theorem pre_lastB {q : ByteArray} (h : pathB q.data.toList = true) {i : Nat} (hi : i < nparts q) : lastB (pre q i) = ⟨((cutAt 47 q.data.toList)[i]'hi).toArray⟩ := by
  unfold lastB
  congr 2
  have hl : (cutAt 47 (pre q i).data.toList).length = i + 1 := by
    rw [pre_cut h, List.length_take]
    unfold nparts at hi
    omega
  rw [List.getLast_eq_getElem]
  have : ∀ (A B : List (List UInt8)) (e : A = B) (n m : Nat) (hn : n < A.length) (hm : m < B.length), n = m → A[n] = B[m] := by
    intro A B e n m hn hm e2
    subst e e2
    rfl
  rw [this _ _ (pre_cut h i) _ i _ (by rw [List.length_take]; unfold nparts at hi; omega) (by omega), List.getElem_take]
  rfl
/-- Among what is directly below, the one of a last part. -/
theorem kid_find {t : List R} (ht : ∀ r ∈ t, pathB r.p.data.toList = true) {c : ByteArray} (hc : pathB c.data.toList = true) {p x : ByteArray} (hp : parO c = p) (hx : lastB c = x) :
    (kids t p).find? (fun r => decide (lastB r.p = x)) = recAt t c := by
  unfold kids recAt
  rw [List.find?_filter]
  subst hp hx
  induction t with
  | nil => rfl
  | cons r t ih =>
    have hr := ht r (List.mem_cons_self ..)
    have ih' := ih fun r hm => ht r (List.mem_cons_of_mem _ hm)
    by_cases he : r.p = c
    · rw [List.find?_cons_of_pos (by simp [he]), List.find?_cons_of_pos (by simp [he])]
    · have : ¬ (parO r.p = parO c ∧ lastB r.p = lastB c) := fun h => he (path_two hr hc h.1 h.2)
      rw [List.find?_cons_of_neg (by simpa using this), List.find?_cons_of_neg (by simpa using he)]
      exact ih'
theorem sorted_filter {t : List R} (h : Sorted t) (f : R → Bool) : Sorted (t.filter f) := List.Pairwise.filter _ h
theorem up_self {q : ByteArray} (h : pathB q.data.toList = true) : q ∉ ups q := fun hm => by
  have := ups_less h q hm
  rw [lessP_irrefl] at this
  cases this
theorem ups_of_par {q : ByteArray} (h : pathB q.data.toList = true) (hp : parO q ≠ ByteArray.empty) : ups q = parO q :: ups (parO q) := by
  rw [ups_step h, if_neg (fun e => hp (parO_empty.2 e))]
end Go.Proofs.YtcnjiphoahoojaaGreatDoor.Recs

/- Trees, plain: all that is below a path, by what is directly below it; what putting a node in and taking one out do to what is directly below. -/
namespace Go.Proofs.YtcnjiphoahoojaaGreatDoor.Recs
open Go.RowKit Paths

theorem kids_sorted {t : List R} (h : Sorted t) (p : ByteArray) : Sorted (kids t p) := sorted_filter h _
/-- Where a node has no fellow: it goes between those that are less and those that are not. -/
theorem put_new {t : List R} (h : Sorted t) {n : R} (hn : recAt t n.p = none) : putL t n = t.take (placeOf t n) ++ n :: t.drop (placeOf t n) := by
  rw [put_is h, if_neg]
  intro e
  cases hg : t[placeOf t n]? with
  | none => rw [hg] at e; cases e
  | some x =>
    rw [hg] at e
    have hm := List.mem_of_getElem? hg
    exact recAt_none hn x hm (by simpa using e)
theorem kids_put {t : List R} (h : Sorted t) {n : R} (hn : recAt t n.p = none) (p : ByteArray) : kids (putL t n) p = if parO n.p = p then putL (kids t p) n else kids t p := by
  have e := put_new h hn
  by_cases hp : parO n.p = p
  · rw [if_pos hp]
    unfold putL kids
    rw [List.filter_append, List.filter_cons_of_pos (by simpa using hp)]
    simp only [List.filter_filter, Bool.and_comm]
  · rw [if_neg hp, e]
    conv => rhs; rw [← List.take_append_drop (placeOf t n) t]
    unfold kids
    rw [List.filter_append, List.filter_cons_of_neg (by simpa using hp), List.filter_append]
theorem recAt_kids {t : List R} {q p : ByteArray} (h : recAt t q = none) : recAt (kids t p) q = none := by
  unfold recAt at h ⊢
  rw [List.find?_eq_none] at h ⊢
  exact fun x hx => h x (mem_kids.1 hx).1
/-- Among what is directly below one, the last part decides. -/
theorem lessP_last : ∀ (A : List (List UInt8)) (x y : List UInt8), lessP (A ++ [x]) (A ++ [y]) = Op.bytesLess x y
  | [], x, y => by
    unfold lessP
    by_cases h : x = y
    · subst h; simp [lessP, bytesLess_irrefl]
    · simp [h]
  | a :: A, x, y => by
    have := lessP_last A x y
    simp only [List.cons_append, lessP]
    simpa using this
theorem less_kid {a b : ByteArray} (ha : pathB a.data.toList = true) (hb : pathB b.data.toList = true) (h : parO a = parO b) : lessP (cutAt 47 a.data.toList) (cutAt 47 b.data.toList) = Op.bytesLess (lastB a).data.toList (lastB b).data.toList := by
  have e1 : parentL a.data.toList = parentL b.data.toList := by rw [← parO_data, ← parO_data, h]
  have e2 : (cutAt 47 a.data.toList).dropLast = (cutAt 47 b.data.toList).dropLast := by
    rcases parent_cases ha with ⟨a1, a2, _⟩ | ⟨_, a2, a3, _⟩ <;> rcases parent_cases hb with ⟨b1, b2, _⟩ | ⟨_, b2, b3, _⟩
    · rw [a2, b2]; rfl
    · exact absurd (e1.symm.trans a1) b3
    · exact absurd (e1.trans b1) a3
    · rw [← a2, ← b2, e1]
  rw [cut_parent a.data.toList, cut_parent b.data.toList, e2, lessP_last]
  rfl
/-- What stays directly below one that stays. -/
theorem kids_without {t : List R} (ht : ∀ r ∈ t, pathB r.p.data.toList = true) {q : ByteArray} (hq : pathB q.data.toList = true) {p : ByteArray} (hp : p ≠ q ∧ q ∉ ups p) :
    kids (withoutL t q true) p = (kids t p).filter fun c => !(decide (parO q = p) && decide (lastB c.p = lastB q)) := by
  unfold kids withoutL
  rw [List.filter_filter, List.filter_filter]
  apply List.filter_congr
  intro x hx
  have hxp := ht x hx
  by_cases hpar : parO x.p = p
  · have hup : q ∉ ups x.p := by
      intro hm
      by_cases he : parO x.p = ByteArray.empty
      · rw [ups_step hxp, if_pos (parO_empty.1 he)] at hm; cases hm
      · rw [ups_of_par hxp he, hpar, List.mem_cons] at hm
        rcases hm with hm | hm
        · exact hp.1 hm.symm
        · exact hp.2 hm
    have h1 : isUp q x.p = false := isUp_no.2 hup
    rw [h1, decide_eq_true hpar]
    simp only [Bool.not_false, Bool.true_and, Bool.and_true]
    by_cases he : x.p = q
    · subst he
      simp [hpar]
    · have : ¬ (parO q = p ∧ lastB x.p = lastB q) := fun h => he (path_two hxp hq (hpar.trans h.1.symm) h.2)
      rw [decide_eq_false he]
      by_cases h1 : parO q = p
      · have h2 : ¬ lastB x.p = lastB q := fun e => this ⟨h1, e⟩
        simp [h1, h2]
      · simp [h1]
  · rw [decide_eq_false hpar]
    simp
end Go.Proofs.YtcnjiphoahoojaaGreatDoor.Recs

/- Trees and applying, plain: a node added and taken out again; what a layer makes of nothing; what a tree shows of a layer and of the tree before. -/
namespace Go.Proofs.YtcnjiphoahoojaaGreatDoor.Recs
open Go.RowKit Paths

theorem put_len {t : List R} (h : Sorted t) {n : R} (hn : recAt t n.p = none) : (putL t n).length = t.length + 1 := by
  have hpl : placeOf t n ≤ t.length := by unfold placeOf; exact (List.takeWhile_prefix _).sublist.length_le
  rw [put_new h hn, List.length_append, List.length_cons, List.length_take, List.length_drop]
  omega
section
variable {l t : List R}
end
end Go.Proofs.YtcnjiphoahoojaaGreatDoor.Recs

/- The laws' own marks: markText, and the marks written into a row of strings and read again; eqStringS. -/
namespace Go.Proofs.YtcnjiphoahoojaaGreatDoor.Paths
open Go.RowKit

/-- The digits of k ahead of some bytes (f: at most so many). -/
def digsF : Nat → Nat → List UInt8 → List UInt8
  | 0, _, out => out
  | f + 1, k, out => if k = 0 then out else digsF f (k / 10) (UInt8.ofNat (48 + k % 10) :: out)
def digs (k : Nat) (out : List UInt8) : List UInt8 := digsF k k out
theorem digsF_enough : ∀ (f g k : Nat) (out : List UInt8), k ≤ f → k ≤ g → digsF f k out = digsF g k out
  | 0, 0, _, _, _, _ => rfl
  | 0, g + 1, k, out, h, _ => by obtain rfl : k = 0 := by omega
                                 simp [digsF]
  | f + 1, 0, k, out, _, h => by obtain rfl : k = 0 := by omega
                                 simp [digsF]
  | f + 1, g + 1, k, out, h1, h2 => by
    simp only [digsF]
    split
    · rfl
    · exact digsF_enough f g (k / 10) _ (by omega) (by omega)
theorem digs_zero (out : List UInt8) : digs 0 out = out := rfl
theorem digs_pos {k : Nat} (h : 0 < k) (out : List UInt8) : digs k out = digs (k / 10) (UInt8.ofNat (48 + k % 10) :: out) := by
  obtain ⟨m, rfl⟩ : ∃ m, k = m + 1 := ⟨k - 1, by omega⟩
  unfold digs
  rw [digsF, if_neg (by omega)]
  exact digsF_enough _ _ _ _ (by omega) (by omega)
def markS (k : Int) : ByteArray := if k ≤ 0 then ⟨#[109, 48]⟩ else ⟨(109 :: digs k.toNat []).toArray⟩

def byte1 (x : Int) : ByteArray := ⟨[UInt8.ofNat x.toNat].toArray⟩
theorem byte1_size (x : Int) : (byte1 x).size = 1 := rfl
/-- 'string([]byte{x})' -/
theorem conv_one (x : Int) (w : World) : (convert 93 9 (.slice (some ⟨w.heap.size, 0, none⟩) 1 1)).run Tryz.prog (w.alloc (.cells #[.int .u8 x] 5)) = .ok (.string (byte1 x)) (w.alloc (.cells #[.int .u8 x] 5)) := by
  have := run_convert_bytes_arg (P := Tryz.prog) (w.alloc (.cells #[.int .u8 x] 5)) 93 5 Tryz.underlying93 Tryz.underlying5 w.heap.size 0 1 1 [x] rfl
    (by intro i hi; obtain rfl : i = 0 := by omega
        simp) 9 Tryz.underlying9
  exact this

theorem mark_step {n m : Nat} {O : ByteArray} (h : digs n [] = digs m O.data.toList) (hm : 0 < m) : digs n [] = digs (m / 10) (byte1 (48 + (m : Int) % 10) ++ O).data.toList := by
  rw [h, digs_pos hm]
  have e : (48 + (m : Int) % 10).toNat = 48 + m % 10 := by omega
  have e2 : (byte1 (48 + (m : Int) % 10) ++ O).data.toList = UInt8.ofNat (48 + m % 10) :: O.data.toList := by
    unfold byte1
    rw [e]
    simp
  rw [e2]
theorem mark_end {n : Nat} {O : ByteArray} (h : digs n [] = digs 0 O.data.toList) : (⟨(109 :: digs n []).toArray⟩ : ByteArray) = ⟨#[109]⟩ ++ O := by
  rw [h, digs_zero]
  apply ByteArray.ext
  simp

set_option maxHeartbeats 400000 in
theorem markText_any (k : Int) (w : World) (h0 : 0 ≤ k) (hk : k ≤ 1099511627776) : Calls Tryz.prog 34 #[.int .i64 k] w fun e w' => e = .returned (.string (markS k)) ∧ Below w.heap.size w w' := by
  obtain ⟨n, rfl⟩ := Int.eq_ofNat_of_zero_le h0
  by_cases hz : n = 0
  · subst hz
    go_enter Tryz.func34, Tryz.ntmps34
    go_wp2
    go_ret
    exact ⟨rfl, Below.refl _ _⟩
  · have HM : Hid (markS (n : Int) = ⟨(109 :: digs n []).toArray⟩) := by show _ = _; unfold markS; rw [if_neg (by omega)]; rfl
    have hd : decide ((n : Int) ≤ 0) = false := by simp; omega
    go_enter Tryz.func34, Tryz.ntmps34
    go_wp2
    go_loopw [0, 3] (fun v o wr => ∃ (m : Nat) (O : ByteArray), v = .int .i64 m ∧ o = .string O ∧ O.size + m ≤ n ∧ Hid (digs n [] = digs m O.data.toList) ∧ Below w.heap.size w wr) (fun v _ _ => (intOf v).toNat)
    case atStart => exact ⟨n, ⟨#[]⟩, rfl, rfl, by show 0 + n ≤ n; omega, rfl, Below.refl _ _⟩
    case round =>
      obtain ⟨m, O, rfl, rfl, hO, HD, hbw⟩ := hrel
      by_cases hm : 0 < m
      · have hd2 : decide ((0 : Int) < (m : Int)) = true := by simp; omega
        have HS := Lib.hid (mark_step HD.out hm)
        have hcv := conv_one
        have hb1 := byte1_size (48 + (m : Int) % 10)
        go_wp2
        go_roundw
        case rel => exact ⟨m / 10, _, by go_num, rfl, by simp [byte1_size]; omega, HS, hbw.alloc hbw.size _⟩
        case measure => simp [intOf]; omega
      · obtain rfl : m = 0 := by omega
        have HE := Lib.hid (mark_end HD.out)
        go_wp2
        go_ret
        exact ⟨by rw [HM.out, HE.out]; rfl, hbw⟩

/-- A slice that reads as the strings L, wherever it lies. -/
def Strs (w : World) (v : Value) (L : List (List UInt8)) : Prop :=
  ∃ A cap, v = .slice A L.length cap ∧ L.length ≤ cap ∧ (0 < L.length → ∃ b off, A = some ⟨b, off, none⟩ ∧ b < w.heap.size ∧ ∀ k p, L[k]? = some p → w.cell? ⟨b, off + k, none⟩ = some (strV p))
theorem Strs.own {w : World} {base : Nat} {v : Value} {L : List (List UInt8)} (h : w.ownsRow base 9 1 v L.length (L.map strV)) : Strs w v L := by
  rcases h.2 with ⟨rfl, hn⟩ | ⟨g, cap, cur, rfl, hb, hg, hc, _⟩
  · exact ⟨none, 0, by rw [hn], by omega, fun h => by omega⟩
  · refine ⟨_, cap, rfl, hc, fun _ => ⟨g, 0, rfl, (Array.getElem?_eq_some_iff.1 hg).1, fun k p hk => ?_⟩⟩
    have := h.cells (g := g) rfl k (strV p) (by simp [hk])
    simpa [Addr.add_lit] using this
theorem Strs.below {w w' : World} {v : Value} {L : List (List UInt8)} (h : Strs w v L) (hb : Below w.heap.size w w') : Strs w' v L := by
  obtain ⟨A, cap, rfl, hc, h⟩ := h
  refine ⟨A, cap, rfl, hc, fun hn => ?_⟩
  obtain ⟨b, off, rfl, hlt, hcell⟩ := h hn
  exact ⟨b, off, rfl, Nat.lt_of_lt_of_le hlt hb.size, fun k p hk => (hb.cell (p := ⟨b, off + k, none⟩) hlt).trans (hcell k p hk)⟩

theorem grown_below {w w' : World} (h : Below w.heap.size w w') (row : Option Nat) : w.grownBy w' row := ⟨h.os, h.tape, h.output, h.size, fun k hk _ => h.block k hk⟩
theorem grown_trans {a b c : World} {row : Option Nat} (h : a.grownBy b row) (k : b.grownBy c row) : a.grownBy c row :=
  ⟨k.os.trans h.os, k.tape.trans h.tape, k.output.trans h.output, Nat.le_trans h.size k.size, fun i hi hne => (k.block i (Nat.lt_of_lt_of_le hi h.size) hne).trans (h.block i hi hne)⟩

end Go.Proofs.YtcnjiphoahoojaaGreatDoor.Paths

/- Paths: ParentOf and JoinPath, of the program and of its model. -/
namespace Go.Proofs.YtcnjiphoahoojaaGreatDoor.Paths
open Go.RowKit

/-- strings.Join with a stroke between, at a slice that reads as L. -/
theorem join_any (v : Value) (L : List (List UInt8)) (w : World) (h : Strs w v L) (hl : (Lib.join L [47]).length ≤ 140737488355328) (hL : L.length ≤ 140737488355328) :
    Calls Tryz.prog 105 #[v, .string ⟨#[47]⟩] w fun e w' => e = .returned (strV (Lib.join L [47])) ∧ Below w.heap.size w w' := by
  obtain ⟨A, cap, rfl, hcap, h⟩ := h
  cases L with
  | nil =>
    refine (Tryz.strings_Join_none A cap _ w).mono ?_
    rintro e w' ⟨rfl, rfl⟩
    exact ⟨rfl, Below.refl _ _⟩
  | cons p r =>
    obtain ⟨b, off, rfl, hb, hc⟩ := h (by simp)
    have hm : ((p :: r).map fun l => (⟨l.toArray⟩ : ByteArray)).map (·.data.toList) = p :: r := by simp [Function.comp_def]
    have := Tryz.strings_Join b off cap ((p :: r).map fun l => (⟨l.toArray⟩ : ByteArray)) ⟨#[47]⟩ w (fun j x hx => by
      simp only [List.getElem?_map, Option.map_eq_some_iff] at hx
      obtain ⟨l, hl, rfl⟩ := hx
      exact hc j l hl) hb (by simpa using hL) (by simpa using hcap) (by rw [hm]; exact hl)
    rw [hm, List.length_map] at this
    exact this

theorem Strs.take {w : World} {A : Option Addr} {cap : Nat} {L : List (List UInt8)} {k : Nat} (h : Strs w (.slice A L.length cap) L) (hk : k ≤ L.length) : Strs w (.slice A k cap) (L.take k) := by
  obtain ⟨A', cap', e, hc, h⟩ := h
  cases e
  refine ⟨A, cap, by rw [List.length_take, Nat.min_eq_left hk], by rw [List.length_take]; omega, fun hn => ?_⟩
  rw [List.length_take] at hn
  obtain ⟨b, off, e, hb, hcell⟩ := h (by omega)
  refine ⟨b, off, e, hb, fun j p hj => hcell j p ?_⟩
  rw [List.getElem?_take] at hj
  split at hj
  · exact hj
  · cases hj

def parS (s : ByteArray) : List UInt8 := if pathB s.data.toList then parentL s.data.toList else []
theorem parS_yes {s : ByteArray} (h : pathB s.data.toList = true) : parS s = Lib.join (cutAt 47 s.data.toList).dropLast [47] := by unfold parS; rw [h]; rfl
theorem parS_no {s : ByteArray} (h : pathB s.data.toList = false) : parS s = [] := by unfold parS; rw [h]; rfl
theorem askC_zero {s : ByteArray} (h : askC s = 0) : s.size ≤ 65536 ∧ pathB s.data.toList = true := by
  unfold askC at h
  split at h
  · cases h
  · split at h
    · exact ⟨by omega, ‹_›⟩
    · cases h
theorem askC_bad {s : ByteArray} (h : askC s ≠ 0) : pathB s.data.toList = false := by
  unfold askC at h
  split at h
  · exact pathB_long (by omega)
  · split at h
    · exact absurd rfl h
    · rename_i h2; simpa using h2
theorem join_dropLast_len (l : List UInt8) : (Lib.join (cutAt 47 l).dropLast [47]).length ≤ l.length := by
  have h := cutAt_ne 47 l
  conv => rhs; rw [← join_cut l]
  rw [← List.dropLast_concat_getLast h, List.dropLast_concat]
  by_cases hd : (cutAt 47 l).dropLast = []
  · rw [hd]; simp [Lib.join_nil]
  · rw [join_snoc _ hd]; simp

set_option maxHeartbeats 400000 in
theorem parentOf_impl (s : ByteArray) (w : World) (hs : s.size ≤ maxLen) : Calls Tryz.prog 70 #[.string s] w fun e w' => e = .returned (.tuple #[strV (parS s), .int .i64 (askC s)]) ∧ Below w.heap.size w w' := by
  go_enter Tryz.func70, Tryz.ntmps70
  go_wp2_with fail
  refine (partsOf_impl _ _ hs).mono ?_
  rintro e w1 ⟨v, rfl, hb1, ho1⟩
  by_cases h0 : askC s = 0
  · have hB := askC_zero h0
    have HP := Lib.hid (parS_yes hB.2)
    have H0 := Lib.hid h0
    rw [partsOf_yes hB.2] at ho1
    have hpos := cutAt_pos 47 s.data.toList
    have hlen := (pathB_parts hB.2).1
    have hjl := join_dropLast_len s.data.toList
    rw [← Lib.size_eq] at hjl
    generalize hL : cutAt 47 s.data.toList = L at *
    have HL := Lib.hid hL
    clear hL
    obtain ⟨g, cap, rfl, hcap, hg0, hg1, hcell⟩ := own_slice ho1 (by omega)
    have hst := (Strs.own ho1).take (k := L.length - 1) (by omega)
    rw [← List.dropLast_eq_take] at hst
    have HS := Lib.hid hst
    clear hcell hst
    have hc1 : (1 : Int) ≤ (L.length : Int) := by omega
    rw [h0]
    clear h0
    go_wp2_with fail
    refine (join_any _ _ _ HS.out (by omega) (by rw [List.length_dropLast]; omega)).mono ?_
    rintro e w2 ⟨rfl, hb2⟩
    go_wp2_with fail
    go_ret2
    exact ⟨by rw [HP.out, H0.out]; rfl, hb1.trans (hb2.mono hb1.size)⟩
  · have HP := Lib.hid (parS_no (askC_bad h0))
    have hne : (askC s != 0) = true := by simpa using h0
    clear h0
    go_wp2_with fail
    go_ret2
    exact ⟨by rw [HP.out]; rfl, hb1⟩

set_option maxHeartbeats 400000 in
theorem l01Parent_any (s : ByteArray) (w : World) (hs : s.size ≤ maxLen) : Calls Tryz.prog 61 #[.string s] w fun e w' => e = .returned (strV (parentL s.data.toList)) ∧ w = w' := by
  unfold maxLen at hs
  go_enter Tryz.func61, Tryz.ntmps61
  go_wp2
  go_loop [3] (fun i => ∃ k : Nat, k ≤ s.size ∧ i = .int .i64 ((k : Int) - 1) ∧ Hid (Clear s.data.toList k)) (fun i => (intOf i + 1).toNat)
  case atStart => exact ⟨s.size, by omega, rfl, Clear.start s⟩
  case round =>
    obtain ⟨k, hk, rfl, HC⟩ := hrel
    cases k with
    | zero =>
      have HN := Lib.hid (Clear.none HC.out)
      go_wp2
      go_ret
      exact ⟨by rw [HN.out]; rfl, rfl⟩
    | succ k =>
      have e1 : (((k + 1 : Nat) : Int) - 1) = (k : Int) := by omega
      rw [e1]
      clear e1
      have hlt : k < s.size := by omega
      rcases Bool.eq_false_or_eq_true ((s[k].toNat : Int) == 47) with he | he
      · have HE : Hid (parentL s.data.toList = s.data.toList.take k) := HC.out.hit hlt (by simp at he; exact UInt8.toNat_inj.1 (by show _ = 47; omega))
        go_wp2
        go_ret
        exact ⟨by rw [HE.out, ← strV_take]; rfl, rfl⟩
      · have HD := Lib.hid (HC.out.down hlt (fun e => by rw [e] at he; exact absurd he (by decide)))
        go_wp2
        exact ⟨⟨k, by omega, rfl, HD⟩, by simp [intOf]⟩

end Go.Proofs.YtcnjiphoahoojaaGreatDoor.Paths

/- Paths: JoinPath, of the program and of its model. -/
namespace Go.Proofs.YtcnjiphoahoojaaGreatDoor.Paths
open Go.RowKit

/-- Which of the ways JoinPath goes: 0: too long · 1: no path, or no part · 2: too many parts · 3: from the root · 4: from a path. -/
def joinWay (d p : ByteArray) : Nat :=
  if 65536 < d.size ∨ 65536 < p.size then 0
  else if (d.size ≠ 0 ∧ pathB d.data.toList = false) ∨ partB p.data.toList = false then 1
  else if d.size = 0 then 3
  else if (cutAt 47 d.data.toList).length = 4 then 2 else 4
def joinCode (d p : ByteArray) : Int := match joinWay d p with | 0 => 2 | 1 => 10 | 2 => 6 | _ => 0
def joinRes (d p : ByteArray) : List UInt8 := match joinWay d p with | 3 => p.data.toList | 4 => d.data.toList ++ 47 :: p.data.toList | _ => []
def JoinPost (d p : ByteArray) (w : World) (e : Ending) (w' : World) : Prop := e = .returned (.tuple #[strV (joinRes d p), .int .i64 (joinCode d p)]) ∧ Below w.heap.size w w'

theorem JoinPost.long {d p : ByteArray} {w w' : World} (h : joinWay d p = 0) (hb : Below w.heap.size w w') : JoinPost d p w (.returned (.tuple #[.string ⟨#[]⟩, .int .i64 2])) w' := ⟨by unfold joinRes joinCode; rw [h]; rfl, hb⟩
theorem JoinPost.name {d p : ByteArray} {w w' : World} (h : joinWay d p = 1) (hb : Below w.heap.size w w') : JoinPost d p w (.returned (.tuple #[.string ⟨#[]⟩, .int .i64 10])) w' := ⟨by unfold joinRes joinCode; rw [h]; rfl, hb⟩
theorem JoinPost.many {d p : ByteArray} {w w' : World} (h : joinWay d p = 2) (hb : Below w.heap.size w w') : JoinPost d p w (.returned (.tuple #[.string ⟨#[]⟩, .int .i64 6])) w' := ⟨by unfold joinRes joinCode; rw [h]; rfl, hb⟩
theorem JoinPost.root {d p : ByteArray} {w w' : World} (h : joinWay d p = 3) (hb : Below w.heap.size w w') : JoinPost d p w (.returned (.tuple #[strV p.data.toList, .int .i64 0])) w' := ⟨by unfold joinRes joinCode; rw [h]; rfl, hb⟩
theorem pathB_empty {d : ByteArray} (h : d.size = 0) : pathB d.data.toList = false := by
  have : d.data.toList = [] := by
    have := Lib.size_eq d
    rw [h] at this
    exact List.eq_nil_of_length_eq_zero this.symm
  rw [this]
  decide

end Go.Proofs.YtcnjiphoahoojaaGreatDoor.Paths
