/- Parts of several texts of mine in one file (each begins with its own remark). -/
import Derived.Test.YtcnjiphoahoojaaDoorCA1
import Derived.Test.YtcnjiphoahoojaaDoorCA2
import Derived.Test.YtcnjiphoahoojaaDoorCA3
import Derived.Test.YtcnjiphoahoojaaDoorCA4
import Derived.Test.YtcnjiphoahoojaaDoorChecked
import Derived.WalkKit
import Derived.Lib.Strings
import Derived.Deep.Slices
import Derived.OpenShut
import Derived.ShutString
import Derived.ChangeArms
import Derived.WideShapes
import Derived.Lib.LaidTab
import Derived.BigQuiet
import Derived.Deep.QuietTactic
import Derived.Deep.RegionHeld3
import Derived.StillTailTactics
import Derived.Deep.Draws
import Derived.Deep.LoopGhost
import Derived.WalkSpells
import Derived.WalkSmall
import Derived.Lib.OthersKept
import Derived.Lib.Hide
import Derived.Lib.Join
/- Plain facts on lists of bytes: a list cut at a sign, step by step. -/
namespace Go.Proofs.YtcnjiphoahoojaaDoor

theorem pathB_ne {l : List UInt8} (h : pathB l = true) : l ≠ [] := by
  rintro rfl
  revert h
  decide

end Go.Proofs.YtcnjiphoahoojaaDoor

/- Layers as plain lists of records: the place of a path, the first fault, what lies under an opaque directory, the canonical form. -/
namespace Go.Proofs.YtcnjiphoahoojaaDoor.Recs
open Go.RowKit Paths

theorem parO_data (p : ByteArray) : (parO p).data.toList = parentL p.data.toList := rfl
/-- The record of a path, if it is there, is Opaque. -/
def opaqueAt (l : List R) (q : ByteArray) : Bool := decide (0 ≤ atL l q) && (l[(atL l q).toNat]?).any (fun x => x.o)
/-- One of those above a path is Opaque; n bounds how far up. -/
def underF : Nat → List R → ByteArray → Bool
  | 0, _, _ => false
  | n + 1, l, q => if parentL q.data.toList = [] then false else opaqueAt l (parO q) || underF n l (parO q)
def underL (l : List R) (q : ByteArray) : Bool := underF 4 l q
/-- What the canonical form makes of a record. -/
def canonR (l : List R) (r : R) : Option R :=
  if underL l r.p then (if r.k = 4 then none else some { r with o := false })
  else some { r with o := r.o && decide ((cutAt 47 r.p.data.toList).length < 4) }
def canonL (l : List R) : List R := l.filterMap (canonR l)
end Go.Proofs.YtcnjiphoahoojaaDoor.Recs

/- Plain facts on paths: a path is its parent and one part; the order of paths is strict and total; what is below a path follows it at once. -/
namespace Go.Proofs.YtcnjiphoahoojaaDoor

theorem bytesLess_cons (c d : UInt8) (a b : List UInt8) : Op.bytesLess (c :: a) (d :: b) = if c = d then Op.bytesLess a b else decide (c < d) := by
  simp only [Op.bytesLess]
  by_cases h : c = d
  · subst h; simp
  · simp [h]
theorem bytesLess_asymm : ∀ a b : List UInt8, Op.bytesLess a b = true → Op.bytesLess b a = false
  | [], [], h => by simp [Op.bytesLess] at h
  | [], _ :: _, _ => by simp [Op.bytesLess]
  | _ :: _, [], h => by simp [Op.bytesLess] at h
  | c :: a, d :: b, h => by
    rw [bytesLess_cons] at h ⊢
    by_cases e : c = d
    · subst e
      simp only [if_true] at h ⊢
      exact bytesLess_asymm a b h
    · rw [if_neg e] at h
      rw [if_neg (fun x => e x.symm)]
      simp at h ⊢
      exact UInt8.le_of_lt h
theorem bytesLess_total : ∀ a b : List UInt8, Op.bytesLess a b = false → Op.bytesLess b a = false → a = b
  | [], [], _, _ => rfl
  | [], _ :: _, h, _ => by simp [Op.bytesLess] at h
  | _ :: _, [], _, h => by simp [Op.bytesLess] at h
  | c :: a, d :: b, h, k => by
    rw [bytesLess_cons] at h k
    by_cases e : c = d
    · subst e
      simp only [if_true] at h k
      rw [bytesLess_total a b h k]
    · rw [if_neg e] at h
      rw [if_neg (fun x => e x.symm)] at k
      simp at h k
      exact absurd (UInt8.le_antisymm k h) e

theorem lessP_asymm : ∀ A B : List (List UInt8), lessP A B = true → lessP B A = false
  | [], [], h => by simp [lessP] at h
  | [], _ :: _, _ => rfl
  | _ :: _, [], h => by simp [lessP] at h
  | a :: A, b :: B, h => by
    simp only [lessP] at h ⊢
    by_cases e : a = b
    · subst e
      simp only [if_true] at h ⊢
      exact lessP_asymm A B h
    · rw [if_neg e] at h
      rw [if_neg (fun x => e x.symm)]
      exact bytesLess_asymm a b h
theorem lessP_total : ∀ A B : List (List UInt8), lessP A B = false → lessP B A = false → A = B
  | [], [], _, _ => rfl
  | [], _ :: _, h, _ => by simp [lessP] at h
  | _ :: _, [], _, h => by simp [lessP] at h
  | a :: A, b :: B, h, k => by
    simp only [lessP] at h k
    by_cases e : a = b
    · subst e
      simp only [if_true] at h k
      rw [lessP_total A B h k]
    · rw [if_neg e] at h
      rw [if_neg (fun x => e x.symm)] at k
      exact absurd (bytesLess_total a b h k) e
theorem lessP_prefix : ∀ (A : List (List UInt8)) (c : List UInt8) (C : List (List UInt8)), lessP A (A ++ c :: C) = true
  | [], _, _ => rfl
  | a :: A, c, C => by
    simp only [List.cons_append, lessP, if_true]
    exact lessP_prefix A c C
/-! ### A path is its parent and one part -/
theorem cut_parent (l : List UInt8) : cutAt 47 l = (cutAt 47 l).dropLast ++ [(cutAt 47 l).getLast (cutAt_ne 47 l)] := (List.dropLast_concat_getLast (cutAt_ne 47 l)).symm
theorem last_part {l : List UInt8} (h : pathB l = true) : partB ((cutAt 47 l).getLast (cutAt_ne 47 l)) = true :=
  List.all_eq_true.1 (pathB_parts h).2 _ (List.getLast_mem _)
theorem clean_of_all {L : List (List UInt8)} (h : L.all partB = true) (hn : L ≠ []) : cutAt 47 (Lib.join L [47]) = L := by
  induction L with
  | nil => exact absurd rfl hn
  | cons a r ih =>
    simp only [List.all_cons, Bool.and_eq_true] at h
    cases r with
    | nil => rw [Lib.join_one, cut_last h.1]
    | cons b t =>
      rw [join_two, cutAt_append, cut_last h.1, ih h.2 (by simp)]
      rfl
/-- What the parent of a path is: the root, or a path of one part less. -/
theorem parent_cases {l : List UInt8} (h : pathB l = true) :
    (parentL l = [] ∧ cutAt 47 l = [l] ∧ partB l = true) ∨
    (pathB (parentL l) = true ∧ cutAt 47 (parentL l) = (cutAt 47 l).dropLast ∧ parentL l ≠ [] ∧ l = parentL l ++ 47 :: (cutAt 47 l).getLast (cutAt_ne 47 l) ∧ (cutAt 47 l).dropLast ≠ []) := by
  obtain ⟨h4, ha⟩ := pathB_parts h
  have e := cut_parent l
  by_cases hd : (cutAt 47 l).dropLast = []
  · left
    rw [hd] at e
    have e2 := join_cut l
    rw [e, List.nil_append, Lib.join_one] at e2
    have hl := last_part h
    refine ⟨by unfold parentL; rw [hd]; rfl, ?_, by rw [e2] at hl; exact hl⟩
    rw [e, List.nil_append, e2]
  · right
    have hall : (cutAt 47 l).dropLast.all partB = true := by
      rw [List.all_eq_true] at ha ⊢
      exact fun x hx => ha x ((List.dropLast_sublist _).subset hx)
    have hc := clean_of_all hall hd
    have hp : pathB (parentL l) = true := by
      unfold pathB parentL
      rw [hc, hall, decide_eq_true (by rw [List.length_dropLast]; omega)]
      rfl
    refine ⟨hp, hc, pathB_ne hp, ?_, hd⟩
    have e2 := join_cut l
    rw [e, join_snoc _ hd] at e2
    exact e2.symm

end Go.Proofs.YtcnjiphoahoojaaDoor

/- Layers as plain lists of records: in a layer the paths increase, so each path is there once; a parent that is no root stands before its record, and is a directory; how far up one can go. -/
namespace Go.Proofs.YtcnjiphoahoojaaDoor.Recs
open Go.RowKit Paths

theorem bytesLess_trans : ∀ a b c : List UInt8, Op.bytesLess a b = true → Op.bytesLess b c = true → Op.bytesLess a c = true
  | [], [], _, h, _ => by simp [Op.bytesLess] at h
  | [], _ :: _, [], _, k => by simp [Op.bytesLess] at k
  | [], _ :: _, _ :: _, _, _ => by simp [Op.bytesLess]
  | _ :: _, [], _, h, _ => by simp [Op.bytesLess] at h
  | _ :: _, _ :: _, [], _, k => by simp [Op.bytesLess] at k
  | x :: a, y :: b, z :: c, h, k => by
    rw [bytesLess_cons] at h k ⊢
    by_cases e1 : x = y
    · subst e1
      by_cases e2 : x = z
      · subst e2
        simp only [if_true] at h k ⊢
        exact bytesLess_trans a b c h k
      · rw [if_neg e2] at k ⊢
        exact k
    · rw [if_neg e1] at h
      by_cases e2 : y = z
      · subst e2
        rw [if_neg e1]
        exact h
      · rw [if_neg e2] at k
        simp only [decide_eq_true_eq] at h k
        have h3 := UInt8.lt_trans h k
        rw [if_neg (fun e => by rw [e] at h3; exact absurd h3 (UInt8.lt_irrefl _))]
        simpa using h3
theorem lessP_trans : ∀ A B C : List (List UInt8), lessP A B = true → lessP B C = true → lessP A C = true
  | [], [], _, h, _ => by simp [lessP] at h
  | [], _ :: _, [], _, k => by simp [lessP] at k
  | [], _ :: _, _ :: _, _, _ => rfl
  | _ :: _, [], _, h, _ => by simp [lessP] at h
  | _ :: _, _ :: _, [], _, k => by simp [lessP] at k
  | a :: A, b :: B, c :: C, h, k => by
    simp only [lessP] at h k ⊢
    by_cases e1 : a = b
    · subst e1
      by_cases e2 : a = c
      · subst e2
        simp only [if_true] at h k ⊢
        exact lessP_trans A B C h k
      · rw [if_neg e2] at k ⊢
        simp only [if_true] at h
        exact k
    · rw [if_neg e1] at h
      by_cases e2 : b = c
      · subst e2
        rw [if_neg e1]
        exact h
      · rw [if_neg e2] at k
        have h3 := bytesLess_trans a b c h k
        rw [if_neg (fun e => by rw [e] at h3; rw [bytesLess_irrefl] at h3; cases h3)]
        exact h3
theorem lessP_irrefl (A : List (List UInt8)) : lessP A A = false := by
  rcases Bool.eq_false_or_eq_true (lessP A A) with h | h
  · have := lessP_asymm A A h; rw [h] at this; cases this
  · exact h

def lessR (x r : R) : Bool := lessP (cutAt 47 x.p.data.toList) (cutAt 47 r.p.data.toList)

/-- What a record that is fine says: the one before is less; the parent, where there is one, stands before, and is a directory. -/
theorem codeAt_parts {l : List R} {i : Nat} {r : R} (h : codeAt l i r = 0) :
    (∀ x, beforeL l i = some x → lessR x r = true) ∧ (parentL r.p.data.toList ≠ [] → 0 ≤ atL (l.take i) (parO r.p) ∧ ∀ x, l[(atL (l.take i) (parO r.p)).toNat]? = some x → x.k = 3) := by
  unfold codeAt at h
  split at h
  · cases h
  split at h
  · rename_i h1 h2; exact absurd h h2
  split at h
  · cases h
  split at h
  · cases h
  rename_i h4
  refine ⟨fun x hx => ?_, fun hp => ?_⟩
  · rw [hx] at h4
    simpa [lessR] using h4
  · rw [if_neg hp] at h
    split at h
    · cases h
    split at h
    · cases h
    rename_i h5 h6
    refine ⟨by omega, fun x hx => ?_⟩
    rw [hx] at h6
    simpa using h6

theorem layer_next {l : List R} (h : layerOK l = true) {i : Nat} (hi : i + 1 < l.length) : lessR (l[i]'(by omega)) l[i + 1] = true := by
  refine (codeAt_parts (layer_all h hi)).1 _ ?_
  unfold beforeL
  rw [if_neg (by omega)]
  simp [show i < l.length by omega]
theorem layer_less {l : List R} (h : layerOK l = true) : ∀ (n i j : Nat) (hj : j < l.length) (hij : j = i + 1 + n), lessR (l[i]'(by omega)) l[j] = true := by
  intro n
  induction n with
  | zero => intro i j hj hij; subst hij; exact layer_next h hj
  | succ n ih =>
    intro i j hj hij
    subst hij
    have h1 := ih i (i + 1 + n) (by omega) rfl
    have h2 := layer_next h (i := i + 1 + n) (by omega)
    exact lessP_trans _ _ _ h1 h2
theorem layer_lt {l : List R} (h : layerOK l = true) {i j : Nat} (hj : j < l.length) (hij : i < j) : lessR (l[i]'(by omega)) l[j] = true :=
  layer_less h (j - i - 1) i j hj (by omega)
/-- How many parts a path has: one less for its parent. -/
theorem parts_parent {q : ByteArray} (h : pathB q.data.toList = true) (hp : parentL q.data.toList ≠ []) :
    pathB (parO q).data.toList = true ∧ (cutAt 47 (parO q).data.toList).length + 1 = (cutAt 47 q.data.toList).length := by
  rcases parent_cases h with ⟨h1, _⟩ | ⟨h1, h2, _, _, h5⟩
  · exact absurd h1 hp
  · rw [parO_data, h2]
    refine ⟨h1, ?_⟩
    rw [List.length_dropLast]
    have : (cutAt 47 q.data.toList).length ≠ 0 := fun e => cutAt_ne 47 _ (List.eq_nil_of_length_eq_zero e)
    omega
end Go.Proofs.YtcnjiphoahoojaaDoor.Recs

/- Layers as plain lists of records: when a list is a layer; the records of a canonical form; it is a layer. -/
namespace Go.Proofs.YtcnjiphoahoojaaDoor.Recs
open Go.RowKit Paths

/-- Increasing paths. -/
def Sorted (l : List R) : Prop := l.Pairwise fun x r => lessR x r = true
theorem layer_sorted {l : List R} (h : layerOK l = true) : Sorted l := by
  unfold Sorted
  rw [List.pairwise_iff_getElem]
  exact fun i j _ hj hij => layer_lt h hj hij

/-- The parent of each record, where it is no root, is a directory of the list. -/
def Housed (l : List R) : Prop := ∀ r ∈ l, parentL r.p.data.toList ≠ [] → ∃ x ∈ l, x.p = parO r.p ∧ x.k = 3
theorem lessR_irrefl (r : R) : lessR r r = false := lessP_irrefl _
theorem parent_less {q : ByteArray} (h : pathB q.data.toList = true) (hp : parentL q.data.toList ≠ []) : lessP (cutAt 47 (parO q).data.toList) (cutAt 47 q.data.toList) = true := by
  rcases parent_cases h with ⟨h1, _⟩ | ⟨_, h2, _, _, _⟩
  · exact absurd h1 hp
  · have e := cut_parent q.data.toList
    rw [parO_data, h2]
    rw [e]
    simp only [List.dropLast_concat]
    exact lessP_prefix _ _ _

theorem sorted_get {l : List R} (h : Sorted l) {i j : Nat} (hj : j < l.length) (hij : i < j) : lessR (l[i]'(by omega)) l[j] = true :=
  (List.pairwise_iff_getElem.1 h) i j (by omega) hj hij
theorem sorted_once {l : List R} (h : Sorted l) {i j : Nat} (hi : i < l.length) (hj : j < l.length) (he : l[i].p = l[j].p) : i = j := by
  rcases Nat.lt_trichotomy i j with h1 | h1 | h1
  · have := sorted_get h hj h1
    unfold lessR at this; rw [he, lessP_irrefl] at this; cases this
  · exact h1
  · have := sorted_get h hi h1
    unfold lessR at this; rw [he, lessP_irrefl] at this; cases this

/-! ### The canonical form -/
end Go.Proofs.YtcnjiphoahoojaaDoor.Recs

/- Layers as plain lists of records: the canonical form is canonical; what is above a path, as a list; what a layer cuts off. -/
namespace Go.Proofs.YtcnjiphoahoojaaDoor.Recs
open Go.RowKit Paths

theorem sorted_mem_once {l : List R} (h : Sorted l) {x y : R} (hx : x ∈ l) (hy : y ∈ l) (he : x.p = y.p) : x = y := by
  obtain ⟨i, hi, rfl⟩ := List.getElem_of_mem hx
  obtain ⟨j, hj, rfl⟩ := List.getElem_of_mem hy
  have := sorted_once h hi hj he
  subst this
  rfl
/-- The record of a path. -/
def recAt (l : List R) (q : ByteArray) : Option R := l.find? fun r => decide (r.p = q)
theorem recAt_mem {l : List R} {q : ByteArray} {r : R} (h : recAt l q = some r) : r ∈ l ∧ r.p = q := by
  unfold recAt at h
  exact ⟨List.mem_of_find?_eq_some h, by simpa using List.find?_some h⟩
theorem recAt_none {l : List R} {q : ByteArray} (h : recAt l q = none) : ∀ r ∈ l, r.p ≠ q := by
  unfold recAt at h
  intro r hr
  simpa using List.find?_eq_none.1 h r hr
/-- What is above a path: its parent, the parent of that, and so on; n bounds how far up. -/
def upF : Nat → ByteArray → List ByteArray
  | 0, _ => []
  | n + 1, q => if parentL q.data.toList = [] then [] else parO q :: upF n (parO q)
def ups (q : ByteArray) : List ByteArray := upF 4 q
/-- A record stops what is below it from being seen. -/
def stops (r : R) : Bool := decide (r.k ≠ 3) || r.o
def stopsAt (l : List R) (q : ByteArray) : Bool := (recAt l q).any stops
def cutsL (l : List R) (q : ByteArray) : Bool := (ups q).any (stopsAt l)
end Go.Proofs.YtcnjiphoahoojaaDoor.Recs

/- Sorted lists of records are told by their members; what is above a path; a housed list has all that is above its records. -/
namespace Go.Proofs.YtcnjiphoahoojaaDoor.Recs
open Go.RowKit Paths

theorem upF_more : ∀ (n : Nat) (q : ByteArray), pathB q.data.toList = true → (cutAt 47 q.data.toList).length ≤ n → ∀ m, n ≤ m → upF m q = upF n q := by
  intro n
  induction n with
  | zero =>
    intro q _ hl
    exact absurd (List.eq_nil_of_length_eq_zero (show (cutAt 47 q.data.toList).length = 0 by omega)) (cutAt_ne 47 _)
  | succ n ih =>
    intro q hq hl m hm
    obtain ⟨m', rfl⟩ : ∃ m', m = m' + 1 := ⟨m - 1, by omega⟩
    simp only [upF]
    by_cases hp : parentL q.data.toList = []
    · rw [if_pos hp, if_pos hp]
    · obtain ⟨h1, h2⟩ := parts_parent hq hp
      rw [if_neg hp, if_neg hp, ih (parO q) h1 (by omega) m' (by omega)]
theorem ups_step {q : ByteArray} (h : pathB q.data.toList = true) : ups q = if parentL q.data.toList = [] then [] else parO q :: ups (parO q) := by
  have e : ups q = if parentL q.data.toList = [] then [] else parO q :: upF 3 (parO q) := rfl
  by_cases hp : parentL q.data.toList = []
  · rw [e, if_pos hp, if_pos hp]
  · obtain ⟨h1, h2⟩ := parts_parent h hp
    have h3 := (pathB_parts h).1
    have h4 : ups (parO q) = upF 3 (parO q) := upF_more 3 (parO q) h1 (by omega) 4 (by omega)
    rw [e, if_neg hp, if_neg hp, h4]
/-- To show a thing of a path, show it where it holds of its parent. -/
theorem path_ind {P : ByteArray → Prop} (hr : ∀ q : ByteArray, pathB q.data.toList = true → parentL q.data.toList = [] → P q)
    (hs : ∀ q : ByteArray, pathB q.data.toList = true → parentL q.data.toList ≠ [] → pathB (parO q).data.toList = true → P (parO q) → P q) : ∀ q : ByteArray, pathB q.data.toList = true → P q := by
  have hn : ∀ n, ∀ q : ByteArray, pathB q.data.toList = true → (cutAt 47 q.data.toList).length ≤ n → P q := by
    intro n
    induction n with
    | zero =>
      intro q _ hl
      exact absurd (List.eq_nil_of_length_eq_zero (show (cutAt 47 q.data.toList).length = 0 by omega)) (cutAt_ne 47 _)
    | succ n ih =>
      intro q hq hl
      by_cases hp : parentL q.data.toList = []
      · exact hr q hq hp
      · obtain ⟨h1, h2⟩ := parts_parent hq hp
        exact hs q hq hp h1 (ih _ h1 (by omega))
  exact fun q hq => hn _ q hq (Nat.le_refl _)
theorem ups_less {q : ByteArray} (h : pathB q.data.toList = true) : ∀ a ∈ ups q, lessP (cutAt 47 a.data.toList) (cutAt 47 q.data.toList) = true := by
  refine path_ind (P := fun q => ∀ a ∈ ups q, lessP (cutAt 47 a.data.toList) (cutAt 47 q.data.toList) = true) ?_ ?_ q h
  · intro q hq hp a ha
    rw [ups_step hq, if_pos hp] at ha
    cases ha
  · intro q hq hp h1 ih a ha
    rw [ups_step hq, if_neg hp] at ha
    have h2 := parent_less hq hp
    rcases List.mem_cons.1 ha with rfl | ha
    · exact h2
    · exact lessP_trans _ _ _ (ih a ha) h2
end Go.Proofs.YtcnjiphoahoojaaDoor.Recs

/- Applying a layer to a tree, both as plain sorted lists (a node is a record that is not Opaque): what the result holds, in closed form. -/
namespace Go.Proofs.YtcnjiphoahoojaaDoor.Recs
open Go.RowKit Paths

/-- q is above p. -/
def isUp (q p : ByteArray) : Bool := (ups p).any fun a => decide (a = q)
def nodeOf (r : R) : R := { r with o := false }
/-- Without what is below a path, and, if so asked, without its own node. -/
def withoutL (t : List R) (q : ByteArray) (self : Bool) : List R := t.filter fun x => !isUp q x.p && !(self && decide (x.p = q))
/-- A node in its place, in the place of one of its path. -/
def putL (t : List R) (n : R) : List R := t.filter (fun x => lessR x n) ++ n :: t.filter (fun x => lessR n x)
/-- Must what is below a record's path go? -/
def clears (t : List R) (r : R) : Bool := stops r || (recAt t r.p).any (fun n => decide (n.k ≠ 3))
def doR (t : List R) (r : R) : List R :=
  if r.k = 4 then withoutL t r.p true else putL (if clears t r then withoutL t r.p false else t) (nodeOf r)
def applyL (l t : List R) : List R := l.foldl doR t

theorem bytes_cut {a b : ByteArray} (h : cutAt 47 a.data.toList = cutAt 47 b.data.toList) : a = b := by
  have e : a.data.toList = b.data.toList := by rw [← join_cut a.data.toList, h, join_cut]
  apply ByteArray.ext
  exact Array.ext' e
/-- Of two records of different paths one is less. -/
theorem less_or {x n : R} (h : x.p ≠ n.p) : lessR x n = true ∨ lessR n x = true := by
  rcases Bool.eq_false_or_eq_true (lessR x n) with h1 | h1
  · exact .inl h1
  rcases Bool.eq_false_or_eq_true (lessR n x) with h2 | h2
  · exact .inr h2
  exact absurd (bytes_cut (lessP_total _ _ h1 h2)) h
theorem less_ne {x n : R} (h : lessR x n = true) : x.p ≠ n.p := fun e => by
  unfold lessR at h
  rw [e, lessP_irrefl] at h
  cases h
theorem mem_put {t : List R} {n x : R} : x ∈ putL t n ↔ x = n ∨ x ∈ t ∧ x.p ≠ n.p := by
  unfold putL
  rw [List.mem_append, List.mem_cons, List.mem_filter, List.mem_filter]
  constructor
  · rintro (⟨h1, h2⟩ | h | ⟨h1, h2⟩)
    · exact .inr ⟨h1, less_ne h2⟩
    · exact .inl h
    · exact .inr ⟨h1, fun e => less_ne h2 e.symm⟩
  · rintro (h | ⟨h1, h2⟩)
    · exact .inr (.inl h)
    · rcases less_or h2 with h3 | h3
      · exact .inl ⟨h1, h3⟩
      · exact .inr (.inr ⟨h1, h3⟩)
/-- A tree: sorted, housed, its paths are paths. -/
structure IsTree (t : List R) : Prop where
  sorted : Sorted t
  housed : Housed t
  path : ∀ x ∈ t, pathB x.p.data.toList = true

end Go.Proofs.YtcnjiphoahoojaaDoor.Recs

/- Applying layers, plain: the result is a tree; applying again changes nothing; the canonical form has the same effect on every tree. -/
namespace Go.Proofs.YtcnjiphoahoojaaDoor.Recs
open Go.RowKit Paths

/-- What a layer is, for its effect. -/
structure IsLayer (l : List R) : Prop where
  sorted : Sorted l
  housed : Housed l
  path : ∀ x ∈ l, pathB x.p.data.toList = true
end Go.Proofs.YtcnjiphoahoojaaDoor.Recs

/- The combination of two layers, plain: what it holds; it is a layer but for its length; it has the same effect on every tree as applying one after the other. -/
namespace Go.Proofs.YtcnjiphoahoojaaDoor.Recs
open Go.RowKit Paths

/-- The upper record, over the lower one of its path. -/
def overR (x y : R) : R := if y.k = 3 ∧ stops x = true then { y with o := true } else y
/-- Two sorted lists in one: of the lower one what the upper one (u) does not cut off. -/
def twoL (u : List R) : List R → List R → List R
  | [], b => b
  | x :: a, [] => if cutsL u x.p then twoL u a [] else x :: twoL u a []
  | x :: a, y :: b =>
    if lessR x y then (if cutsL u x.p then twoL u a (y :: b) else x :: twoL u a (y :: b))
    else if lessR y x then y :: twoL u (x :: a) b
    else overR x y :: twoL u a b
termination_by a b => a.length + b.length
end Go.Proofs.YtcnjiphoahoojaaDoor.Recs

/- The combination of two layers, plain: its effect on every tree is that of applying one after the other. -/
namespace Go.Proofs.YtcnjiphoahoojaaDoor.Recs
open Go.RowKit Paths

theorem less_path {x y z : R} (h : y.p = z.p) : lessR x y = lessR x z := by unfold lessR; rw [h]
theorem less_path' {x y z : R} (h : x.p = y.p) : lessR x z = lessR y z := by unfold lessR; rw [h]
def two (a b : List R) : List R := twoL b a b
section
variable {a b : List R} (ha : IsLayer a) (hb : IsLayer b)
include ha hb
end
end Go.Proofs.YtcnjiphoahoojaaDoor.Recs

/- The canonical form is told by the effect: two canonical layers that have the same effect on every tree are one; so combining is associative. -/
namespace Go.Proofs.YtcnjiphoahoojaaDoor.Recs
open Go.RowKit Paths

/-- A canonical layer, of whatever length below a great bound. -/
structure Canon (l : List R) : Prop where
  layer : IsLayer l
  canon : canonL l = l
  fine : ∀ x ∈ l, x.fault = 0

section
variable {a b : List R} (ha : Canon a) (hb : Canon b) (hlen : a.length + b.length < 4096) (he : ∀ t, IsTree t → applyL a t = applyL b t)
include ha hb he
include hlen
end
end Go.Proofs.YtcnjiphoahoojaaDoor.Recs

/- Combining layers, plain: the combination is canonical; combining is associative; the combination of a stack has the effect of applying its layers in order, and no other canonical layer has it. -/
namespace Go.Proofs.YtcnjiphoahoojaaDoor.Recs
open Go.RowKit Paths

/-- A layer of valid records. -/
structure Fine (l : List R) : Prop where
  layer : IsLayer l
  fine : ∀ x ∈ l, x.fault = 0
end Go.Proofs.YtcnjiphoahoojaaDoor.Recs

/- Combining many layers in one pass, plain: the canonical form of the winners at all paths is the combination of the stack. A stack is given highest layer first. -/
namespace Go.Proofs.YtcnjiphoahoojaaDoor.Recs
open Go.RowKit Paths

/-- At least one record of a path stops, of the layers down to the one that cuts the path off. -/
def lowStops : List (List R) → ByteArray → Bool
  | [], _ => false
  | l :: s, q => (recAt l q).any stops || (!cutsL l q && lowStops s q)
/-- The record that is seen at a path. -/
def winner : List (List R) → ByteArray → Option R
  | [], _ => none
  | l :: s, q => match recAt l q with
    | some y => some (if y.k = 3 ∧ cutsL l q = false ∧ lowStops s q = true then { y with o := true } else y)
    | none => if cutsL l q then none else winner s q
/-- A list of winners: sorted, with just the winners of the stack. -/
structure Winners (s : List (List R)) (m : List R) : Prop where
  sorted : Sorted m
  mem : ∀ r, r ∈ m ↔ ∃ q, pathB q.data.toList = true ∧ winner s q = some r
section
variable {s : List (List R)} {m : List R} (hs : ∀ l ∈ s, Fine l) (hm : Winners s m)
include hs hm
end
end Go.Proofs.YtcnjiphoahoojaaDoor.Recs
