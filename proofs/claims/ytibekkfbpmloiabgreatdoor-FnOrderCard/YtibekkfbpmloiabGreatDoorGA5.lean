/- Parts of several texts of mine in one file (each begins with its own remark). -/
import Derived.Test.YtibekkfbpmloiabGreatDoorGA1
import Derived.Test.YtibekkfbpmloiabGreatDoorGA2
import Derived.Test.YtibekkfbpmloiabGreatDoorGA3
import Derived.Test.YtibekkfbpmloiabGreatDoorGA4
import Derived.Test.YtibekkfbpmloiabGreatDoorChecked
import Derived.Deep.Slices
import Derived.OpenShut
import Derived.ShutString
import Derived.ChangeArms
import Derived.WideShapes
import Derived.Lib.LaidTab
import Derived.BigQuiet
import Derived.Deep.QuietTactic
import Derived.Deep.RegionHeld3
import Derived.StillTailTactics
import Derived.Deep.Draws
import Derived.Deep.LoopGhost
import Derived.WalkKit
import Derived.WalkSpells
import Derived.WalkSmall
import Derived.Lib.OthersKept
import Derived.Lib.Hide
import Derived.Lib.Strings
import Derived.Lib.Join
/- Layers as plain lists of records: when a list is a layer; the records of a canonical form; it is a layer. -/
namespace Go.Proofs.YtibekkfbpmloiabGreatDoor.Recs
open Go.RowKit Paths

/-- Increasing paths. -/
def Sorted (l : List R) : Prop := l.Pairwise fun x r => lessR x r = true
theorem layer_sorted {l : List R} (h : layerOK l = true) : Sorted l := by
  unfold Sorted
  rw [List.pairwise_iff_getElem]
  exact fun i j _ hj hij => layer_lt h hj hij

/-- The parent of each record, where it is no root, is a directory of the list. -/
def Housed (l : List R) : Prop := ∀ r ∈ l, parentL r.p.data.toList ≠ [] → ∃ x ∈ l, x.p = parO r.p ∧ x.k = 3
theorem layer_housed {l : List R} (h : layerOK l = true) : Housed l := by
  intro r hr hp
  obtain ⟨i, hi, rfl⟩ := List.getElem_of_mem hr
  obtain ⟨k, hk, h1, h2⟩ := layer_parent h hi hp
  exact ⟨_, List.getElem_mem _, h1, h2⟩

theorem lessR_irrefl (r : R) : lessR r r = false := lessP_irrefl _
theorem parent_less {q : ByteArray} (h : pathB q.data.toList = true) (hp : parentL q.data.toList ≠ []) : lessP (cutAt 47 (parO q).data.toList) (cutAt 47 q.data.toList) = true := by
  rcases parent_cases h with ⟨h1, _⟩ | ⟨_, h2, _, _, _⟩
  · exact absurd h1 hp
  · have e := cut_parent q.data.toList
    rw [parO_data, h2]
    rw [e]
    simp only [List.dropLast_concat]
    exact lessP_prefix _ _ _

theorem sorted_get {l : List R} (h : Sorted l) {i j : Nat} (hj : j < l.length) (hij : i < j) : lessR (l[i]'(by omega)) l[j] = true :=
  (List.pairwise_iff_getElem.1 h) i j (by omega) hj hij
theorem sorted_once {l : List R} (h : Sorted l) {i j : Nat} (hi : i < l.length) (hj : j < l.length) (he : l[i].p = l[j].p) : i = j := by
  rcases Nat.lt_trichotomy i j with h1 | h1 | h1
  · have := sorted_get h hj h1
    unfold lessR at this; rw [he, lessP_irrefl] at this; cases this
  · exact h1
  · have := sorted_get h hi h1
    unfold lessR at this; rw [he, lessP_irrefl] at this; cases this

/-- What makes a list a layer. -/
theorem layerOK_of {l : List R} (hl : l.length ≤ 16) (hf : ∀ r ∈ l, r.fault = 0) (hs : Sorted l) (hh : Housed l) : layerOK l = true := by
  have hall : ∀ i (hi : i < l.length), codeAt l i l[i] = 0 := by
    intro i hi
    have hfi := hf _ (List.getElem_mem hi)
    have hpath := (fault_path hfi).1
    have hbef : ∀ x, beforeL l i = some x → lessR x l[i] = true := by
      intro x hx
      unfold beforeL at hx
      split at hx
      · cases hx
      · rename_i h0
        have hlt : i - 1 < l.length := by omega
        rw [List.getElem?_eq_getElem hlt] at hx
        cases hx
        exact sorted_get hs hi (by omega)
    unfold codeAt
    rw [if_neg (by omega), if_neg (by simp [hfi])]
    have e1 : (beforeL l i).any (fun x => decide (x.p = l[i].p)) = false := by
      cases hb : beforeL l i with
      | none => rfl
      | some x =>
        have := hbef x hb
        simp only [Option.any_some, decide_eq_false_iff_not]
        intro e
        unfold lessR at this
        rw [e, lessP_irrefl] at this
        cases this
    have e2 : (beforeL l i).any (fun x => !lessP (cutAt 47 x.p.data.toList) (cutAt 47 l[i].p.data.toList)) = false := by
      cases hb : beforeL l i with
      | none => rfl
      | some x =>
        have := hbef x hb
        unfold lessR at this
        simp [this]
    rw [if_neg (by rw [e1]; decide), if_neg (by rw [e2]; decide)]
    by_cases hp : parentL l[i].p.data.toList = []
    · rw [if_pos hp]
    · rw [if_neg hp]
      obtain ⟨x, hx, hxp, hxk⟩ := hh _ (List.getElem_mem hi) hp
      obtain ⟨k, hk, rfl⟩ := List.getElem_of_mem hx
      have hki : k < i := by
        rcases Nat.lt_trichotomy k i with h1 | h1 | h1
        · exact h1
        · subst h1
          have h2 := parent_less hpath hp
          rw [← hxp, lessP_irrefl] at h2
          cases h2
        · have h2 := parent_less hpath hp
          have h3 := sorted_get hs hk h1
          unfold lessR at h3
          rw [hxp] at h3
          rw [lessP_asymm _ _ h2] at h3
          cases h3
      rcases atL_cases (l.take i) (parO l[i].p) with ⟨_, h2⟩ | ⟨j, hj, h1, h2, _⟩
      · exact absurd hxp (h2 _ (List.mem_take_iff_getElem.2 ⟨k, by omega, rfl⟩))
      · have hji : j < i := by rw [List.length_take] at hj; omega
        have h2' : (l[j]'(by omega)).p = parO l[i].p := by simpa using h2
        have ejk : j = k := sorted_once hs (by omega) hk (h2'.trans hxp.symm)
        subst ejk
        rw [if_neg (by omega), h1]
        simp [show j < l.length by omega, hxk]
  have hfrom : ∀ n i, l.length - i = n → faultFrom l i = (0, 0) := by
    intro n
    induction n with
    | zero => intro i hi; exact faultFrom_end (by omega)
    | succ n ih =>
      intro i hi
      rw [faultFrom_good (by omega) (hall i (by omega))]
      exact ih (i + 1) (by omega)
  unfold layerOK layerFaultL
  rw [hfrom _ 0 rfl]
  rfl

/-! ### The canonical form -/
theorem canonR_path {l : List R} {r x : R} (h : canonR l r = some x) : x.p = r.p ∧ x.k = r.k ∧ x.b = r.b ∧ x.m = r.m ∧ (x.o = true → r.o = true) := by
  unfold canonR at h
  split at h
  · split at h
    · cases h
    · cases h; exact ⟨rfl, rfl, rfl, rfl, fun h => by cases h⟩
  · cases h; exact ⟨rfl, rfl, rfl, rfl, fun h => by simp at h; exact h.1⟩
theorem canonR_dir {l : List R} {r : R} (h : r.k = 3) : ∃ x, canonR l r = some x := by
  unfold canonR
  split
  · rw [if_neg (by omega)]; exact ⟨_, rfl⟩
  · exact ⟨_, rfl⟩
theorem canonR_fault {l : List R} {r x : R} (h : canonR l r = some x) (hr : r.fault = 0) : x.fault = 0 := by
  obtain ⟨h1, h2, h3, h4, h5⟩ := canonR_path h
  unfold R.fault at hr ⊢
  rw [h1, h2, h3, h4]
  cases hx : x.o with
  | true => rw [h5 hx] at hr; exact hr
  | false =>
    cases ho : r.o with
    | false => rw [ho] at hr; exact hr
    | true =>
      rw [ho] at hr
      unfold faultI at hr ⊢
      split at hr
      · cases hr
      split at hr
      · cases hr
      split at hr
      · cases hr
      split at hr
      · cases hr
      split at hr
      · cases hr
      rename_i a1 a2 a3 a4 a5
      rw [if_neg a1, if_neg a2, if_neg a3, if_neg (by simp only [Bool.false_eq_true, false_and, or_false]; omega), if_neg a5]
theorem mem_canon {l : List R} {x : R} : x ∈ canonL l ↔ ∃ r ∈ l, canonR l r = some x := by
  unfold canonL
  rw [List.mem_filterMap]
theorem canon_sorted {l : List R} (h : Sorted l) : Sorted (canonL l) := by
  unfold Sorted canonL
  rw [List.pairwise_filterMap]
  refine List.Pairwise.imp (fun {a b} hab x hx y hy => ?_) h
  unfold lessR at hab ⊢
  rw [(canonR_path hx).1, (canonR_path hy).1]
  exact hab
end Go.Proofs.YtibekkfbpmloiabGreatDoor.Recs

/- Layers as plain lists of records: the canonical form is canonical; what is above a path, as a list; what a layer cuts off. -/
namespace Go.Proofs.YtibekkfbpmloiabGreatDoor.Recs
open Go.RowKit Paths

theorem sorted_mem_once {l : List R} (h : Sorted l) {x y : R} (hx : x ∈ l) (hy : y ∈ l) (he : x.p = y.p) : x = y := by
  obtain ⟨i, hi, rfl⟩ := List.getElem_of_mem hx
  obtain ⟨j, hj, rfl⟩ := List.getElem_of_mem hy
  have := sorted_once h hi hj he
  subst this
  rfl
/-- The record of a path. -/
def recAt (l : List R) (q : ByteArray) : Option R := l.find? fun r => decide (r.p = q)
theorem recAt_mem {l : List R} {q : ByteArray} {r : R} (h : recAt l q = some r) : r ∈ l ∧ r.p = q := by
  unfold recAt at h
  exact ⟨List.mem_of_find?_eq_some h, by simpa using List.find?_some h⟩
theorem recAt_none {l : List R} {q : ByteArray} (h : recAt l q = none) : ∀ r ∈ l, r.p ≠ q := by
  unfold recAt at h
  intro r hr
  simpa using List.find?_eq_none.1 h r hr
theorem recAt_of {l : List R} (h : Sorted l) {r : R} (hr : r ∈ l) : recAt l r.p = some r := by
  cases hc : recAt l r.p with
  | none => exact absurd rfl (recAt_none hc r hr)
  | some x =>
    obtain ⟨h1, h2⟩ := recAt_mem hc
    rw [sorted_mem_once h h1 hr h2]
/-- The place of a path and its record. -/
theorem atL_recAt (l : List R) (q : ByteArray) : (atL l q = -1 ∧ recAt l q = none) ∨ ∃ i : Nat, ∃ h : i < l.length, atL l q = (i : Int) ∧ recAt l q = some l[i] := by
  rcases atL_cases l q with ⟨h1, h2⟩ | ⟨i, hi, h1, h2, h3⟩
  · refine .inl ⟨h1, ?_⟩
    unfold recAt
    rw [List.find?_eq_none]
    intro r hr
    simpa using h2 r hr
  · refine .inr ⟨i, hi, h1, ?_⟩
    unfold recAt
    rw [List.find?_eq_some_iff_getElem]
    exact ⟨by simpa using h2, i, hi, rfl, fun j hj => by simpa using h3 j hj⟩
theorem opaqueAt_eq (l : List R) (q : ByteArray) : opaqueAt l q = (recAt l q).any (fun x => x.o) := by
  unfold opaqueAt
  rcases atL_recAt l q with ⟨h1, h2⟩ | ⟨i, hi, h1, h2⟩
  · rw [h1, h2]; rfl
  · rw [h1, h2]
    simp [hi]

/-- What is above a path: its parent, the parent of that, and so on; n bounds how far up. -/
def upF : Nat → ByteArray → List ByteArray
  | 0, _ => []
  | n + 1, q => if parentL q.data.toList = [] then [] else parO q :: upF n (parO q)
def ups (q : ByteArray) : List ByteArray := upF 4 q
theorem underF_any (l : List R) : ∀ (n : Nat) (q : ByteArray), underF n l q = (upF n q).any (opaqueAt l)
  | 0, _ => rfl
  | n + 1, q => by
    simp only [underF, upF]
    by_cases hp : parentL q.data.toList = []
    · rw [if_pos hp, if_pos hp]; rfl
    · rw [if_neg hp, if_neg hp, underF_any l n, List.any_cons]
theorem underL_any (l : List R) (q : ByteArray) : underL l q = (ups q).any (opaqueAt l) := underF_any l 4 q
/-- A record stops what is below it from being seen. -/
def stops (r : R) : Bool := decide (r.k ≠ 3) || r.o
def stopsAt (l : List R) (q : ByteArray) : Bool := (recAt l q).any stops
def cutsL (l : List R) (q : ByteArray) : Bool := (ups q).any (stopsAt l)
theorem under_cuts {l : List R} {q : ByteArray} (h : underL l q = true) : cutsL l q = true := by
  rw [underL_any, List.any_eq_true] at h
  obtain ⟨a, ha, hb⟩ := h
  unfold cutsL
  rw [List.any_eq_true]
  refine ⟨a, ha, ?_⟩
  rw [opaqueAt_eq] at hb
  unfold stopsAt
  cases hr : recAt l a with
  | none => rw [hr] at hb; cases hb
  | some r => rw [hr] at hb; simp at hb; simp [stops, hb]

theorem canon_recAt {l : List R} (h : Sorted l) (q : ByteArray) : recAt (canonL l) q = (recAt l q).bind (canonR l) := by
  cases hr : recAt l q with
  | none =>
    cases hc : recAt (canonL l) q with
    | none => rfl
    | some x =>
      obtain ⟨h1, h2⟩ := recAt_mem hc
      obtain ⟨r, hm, he⟩ := mem_canon.1 h1
      exact absurd ((canonR_path he).1.symm.trans h2) (recAt_none hr r hm)
  | some r =>
    obtain ⟨h1, h2⟩ := recAt_mem hr
    show _ = canonR l r
    cases he : canonR l r with
    | none =>
      cases hc : recAt (canonL l) q with
      | none => rfl
      | some x =>
        obtain ⟨h3, h4⟩ := recAt_mem hc
        obtain ⟨y, hm, hy⟩ := mem_canon.1 h3
        have e := sorted_mem_once h hm h1 ((canonR_path hy).1.symm.trans (h4.trans h2.symm))
        subst e
        rw [he] at hy
        cases hy
    | some x =>
      have hx := mem_canon.2 ⟨r, h1, he⟩
      have e := recAt_of (canon_sorted h) hx
      rw [(canonR_path he).1, h2] at e
      exact e
theorem canon_opaque_le {l : List R} (h : Sorted l) {q : ByteArray} (ho : opaqueAt (canonL l) q = true) : opaqueAt l q = true := by
  rw [opaqueAt_eq, canon_recAt h] at ho
  rw [opaqueAt_eq]
  cases hr : recAt l q with
  | none => rw [hr] at ho; cases ho
  | some r =>
    rw [hr] at ho
    have ho' : (canonR l r).any (fun x => x.o) = true := ho
    cases he : canonR l r with
    | none => rw [he] at ho'; cases ho'
    | some x =>
      rw [he] at ho'
      simp at ho'
      simpa using (canonR_path he).2.2.2.2 ho'
theorem canon_under_le {l : List R} (h : Sorted l) {q : ByteArray} (ho : underL (canonL l) q = true) : underL l q = true := by
  rw [underL_any, List.any_eq_true] at ho ⊢
  obtain ⟨a, ha, hb⟩ := ho
  exact ⟨a, ha, canon_opaque_le h hb⟩
/-- The canonical form is canonical. -/
theorem canon_idem {l : List R} (h : Sorted l) : canonL (canonL l) = canonL l := by
  have hall : ∀ x ∈ canonL l, canonR (canonL l) x = some x := by
    intro x hx
    obtain ⟨r, hm, he⟩ := mem_canon.1 hx
    have hp := (canonR_path he).1
    have he' := he
    unfold canonR at he'
    by_cases hu : underL l r.p = true
    · rw [if_pos hu] at he'
      split at he'
      · cases he'
      · rename_i hk
        cases he'
        unfold canonR
        split
        · first | rfl | rw [if_neg hk]
        · simp
    · rw [if_neg hu] at he'
      cases he'
      unfold canonR
      rw [if_neg (fun hc => hu (canon_under_le h hc))]
      simp
  have hid : ∀ (c : List R) (f : R → Option R), (∀ x ∈ c, f x = some x) → c.filterMap f = c := by
    intro c f
    induction c with
    | nil => intro _; rfl
    | cons a t ih =>
      intro ha
      rw [List.filterMap_cons, ha a (by simp)]
      simp only
      rw [ih (fun x hx => ha x (by simp [hx]))]
  exact hid _ _ hall
end Go.Proofs.YtibekkfbpmloiabGreatDoor.Recs

/- Sorted lists of records are told by their members; what is above a path; a housed list has all that is above its records. -/
namespace Go.Proofs.YtibekkfbpmloiabGreatDoor.Recs
open Go.RowKit Paths

theorem sorted_ext : ∀ a b : List R, Sorted a → Sorted b → (∀ x, x ∈ a ↔ x ∈ b) → a = b
  | [], [], _, _, _ => rfl
  | [], y :: b, _, _, h => by have := (h y).2 (by simp); cases this
  | x :: a, [], _, _, h => by have := (h x).1 (by simp); cases this
  | x :: a, y :: b, ha, hb, h => by
    unfold Sorted at ha hb
    rw [List.pairwise_cons] at ha hb
    have exy : x = y := by
      rcases List.mem_cons.1 ((h x).1 (by simp)) with e | hx
      · exact e
      rcases List.mem_cons.1 ((h y).2 (by simp)) with e | hy
      · exact e.symm
      have h1 := hb.1 x hx
      have h2 := ha.1 y hy
      unfold lessR at h1 h2
      rw [lessP_asymm _ _ h1] at h2
      cases h2
    subst exy
    rw [sorted_ext a b ha.2 hb.2 fun z => ?_]
    constructor
    · intro hz
      rcases List.mem_cons.1 ((h z).1 (by simp [hz])) with e | hz'
      · subst e
        have := ha.1 z hz
        rw [lessR_irrefl] at this
        cases this
      · exact hz'
    · intro hz
      rcases List.mem_cons.1 ((h z).2 (by simp [hz])) with e | hz'
      · subst e
        have := hb.1 z hz
        rw [lessR_irrefl] at this
        cases this
      · exact hz'

theorem upF_more : ∀ (n : Nat) (q : ByteArray), pathB q.data.toList = true → (cutAt 47 q.data.toList).length ≤ n → ∀ m, n ≤ m → upF m q = upF n q := by
  intro n
  induction n with
  | zero =>
    intro q _ hl
    exact absurd (List.eq_nil_of_length_eq_zero (show (cutAt 47 q.data.toList).length = 0 by omega)) (cutAt_ne 47 _)
  | succ n ih =>
    intro q hq hl m hm
    obtain ⟨m', rfl⟩ : ∃ m', m = m' + 1 := ⟨m - 1, by omega⟩
    simp only [upF]
    by_cases hp : parentL q.data.toList = []
    · rw [if_pos hp, if_pos hp]
    · obtain ⟨h1, h2⟩ := parts_parent hq hp
      rw [if_neg hp, if_neg hp, ih (parO q) h1 (by omega) m' (by omega)]
theorem ups_step {q : ByteArray} (h : pathB q.data.toList = true) : ups q = if parentL q.data.toList = [] then [] else parO q :: ups (parO q) := by
  have e : ups q = if parentL q.data.toList = [] then [] else parO q :: upF 3 (parO q) := rfl
  by_cases hp : parentL q.data.toList = []
  · rw [e, if_pos hp, if_pos hp]
  · obtain ⟨h1, h2⟩ := parts_parent h hp
    have h3 := (pathB_parts h).1
    have h4 : ups (parO q) = upF 3 (parO q) := upF_more 3 (parO q) h1 (by omega) 4 (by omega)
    rw [e, if_neg hp, if_neg hp, h4]
/-- To show a thing of a path, show it where it holds of its parent. -/
theorem path_ind {P : ByteArray → Prop} (hr : ∀ q : ByteArray, pathB q.data.toList = true → parentL q.data.toList = [] → P q)
    (hs : ∀ q : ByteArray, pathB q.data.toList = true → parentL q.data.toList ≠ [] → pathB (parO q).data.toList = true → P (parO q) → P q) : ∀ q : ByteArray, pathB q.data.toList = true → P q := by
  have hn : ∀ n, ∀ q : ByteArray, pathB q.data.toList = true → (cutAt 47 q.data.toList).length ≤ n → P q := by
    intro n
    induction n with
    | zero =>
      intro q _ hl
      exact absurd (List.eq_nil_of_length_eq_zero (show (cutAt 47 q.data.toList).length = 0 by omega)) (cutAt_ne 47 _)
    | succ n ih =>
      intro q hq hl
      by_cases hp : parentL q.data.toList = []
      · exact hr q hq hp
      · obtain ⟨h1, h2⟩ := parts_parent hq hp
        exact hs q hq hp h1 (ih _ h1 (by omega))
  exact fun q hq => hn _ q hq (Nat.le_refl _)
theorem ups_path {q : ByteArray} (h : pathB q.data.toList = true) : ∀ a ∈ ups q, pathB a.data.toList = true := by
  refine path_ind (P := fun q => ∀ a ∈ ups q, pathB a.data.toList = true) ?_ ?_ q h
  · intro q hq hp a ha
    rw [ups_step hq, if_pos hp] at ha
    cases ha
  · intro q hq hp h1 ih a ha
    rw [ups_step hq, if_neg hp] at ha
    rcases List.mem_cons.1 ha with rfl | ha
    · exact h1
    · exact ih a ha
theorem ups_less {q : ByteArray} (h : pathB q.data.toList = true) : ∀ a ∈ ups q, lessP (cutAt 47 a.data.toList) (cutAt 47 q.data.toList) = true := by
  refine path_ind (P := fun q => ∀ a ∈ ups q, lessP (cutAt 47 a.data.toList) (cutAt 47 q.data.toList) = true) ?_ ?_ q h
  · intro q hq hp a ha
    rw [ups_step hq, if_pos hp] at ha
    cases ha
  · intro q hq hp h1 ih a ha
    rw [ups_step hq, if_neg hp] at ha
    have h2 := parent_less hq hp
    rcases List.mem_cons.1 ha with rfl | ha
    · exact h2
    · exact lessP_trans _ _ _ (ih a ha) h2
theorem ups_trans {c : ByteArray} (h : pathB c.data.toList = true) : ∀ a b, b ∈ ups c → a ∈ ups b → a ∈ ups c := by
  refine path_ind (P := fun c => ∀ a b, b ∈ ups c → a ∈ ups b → a ∈ ups c) ?_ ?_ c h
  · intro q hq hp a b hb
    rw [ups_step hq, if_pos hp] at hb
    cases hb
  · intro q hq hp h1 ih a b hb ha
    rw [ups_step hq, if_neg hp] at hb ⊢
    rcases List.mem_cons.1 hb with rfl | hb
    · exact List.mem_cons_of_mem _ ha
    · exact List.mem_cons_of_mem _ (ih a b hb ha)
/-- All that is above a record of a housed list is a directory of it. -/
theorem housed_ups {t : List R} (hh : Housed t) {q : ByteArray} (h : pathB q.data.toList = true) : ∀ x ∈ t, x.p = q → ∀ a ∈ ups q, ∃ n ∈ t, n.p = a ∧ n.k = 3 := by
  refine path_ind (P := fun q => ∀ x ∈ t, x.p = q → ∀ a ∈ ups q, ∃ n ∈ t, n.p = a ∧ n.k = 3) ?_ ?_ q h
  · intro q hq hp x _ _ a ha
    rw [ups_step hq, if_pos hp] at ha
    cases ha
  · intro q hq hp h1 ih x hx hxq a ha
    rw [ups_step hq, if_neg hp] at ha
    subst hxq
    obtain ⟨n, hn, hnp, hnk⟩ := hh x hx hp
    rcases List.mem_cons.1 ha with rfl | ha
    · exact ⟨n, hn, hnp, hnk⟩
    · exact ih n hn hnp a ha
end Go.Proofs.YtibekkfbpmloiabGreatDoor.Recs

/- Applying a layer to a tree, both as plain sorted lists (a node is a record that is not Opaque): what the result holds, in closed form. -/
namespace Go.Proofs.YtibekkfbpmloiabGreatDoor.Recs
open Go.RowKit Paths

/-- q is above p. -/
def isUp (q p : ByteArray) : Bool := (ups p).any fun a => decide (a = q)
theorem isUp_iff {q p : ByteArray} : isUp q p = true ↔ q ∈ ups p := by
  unfold isUp
  rw [List.any_eq_true]
  constructor
  · rintro ⟨a, ha, he⟩
    rw [decide_eq_true_eq] at he
    exact he ▸ ha
  · exact fun h => ⟨q, h, by simp⟩
theorem isUp_no {q p : ByteArray} : isUp q p = false ↔ q ∉ ups p := by
  rw [← isUp_iff]
  simp
def nodeOf (r : R) : R := { r with o := false }
/-- Without what is below a path, and, if so asked, without its own node. -/
def withoutL (t : List R) (q : ByteArray) (self : Bool) : List R := t.filter fun x => !isUp q x.p && !(self && decide (x.p = q))
/-- A node in its place, in the place of one of its path. -/
def putL (t : List R) (n : R) : List R := t.filter (fun x => lessR x n) ++ n :: t.filter (fun x => lessR n x)
/-- Must what is below a record's path go? -/
def clears (t : List R) (r : R) : Bool := stops r || (recAt t r.p).any (fun n => decide (n.k ≠ 3))
def doR (t : List R) (r : R) : List R :=
  if r.k = 4 then withoutL t r.p true else putL (if clears t r then withoutL t r.p false else t) (nodeOf r)
def applyL (l t : List R) : List R := l.foldl doR t

theorem mem_without {t : List R} {q : ByteArray} {self : Bool} {x : R} : x ∈ withoutL t q self ↔ x ∈ t ∧ q ∉ ups x.p ∧ (self = true → x.p ≠ q) := by
  unfold withoutL
  rw [List.mem_filter, Bool.and_eq_true, Bool.not_eq_true', isUp_no]
  cases self <;> simp
theorem without_sorted {t : List R} (h : Sorted t) (q : ByteArray) (self : Bool) : Sorted (withoutL t q self) := List.Pairwise.filter _ h
theorem bytes_cut {a b : ByteArray} (h : cutAt 47 a.data.toList = cutAt 47 b.data.toList) : a = b := by
  have e : a.data.toList = b.data.toList := by rw [← join_cut a.data.toList, h, join_cut]
  apply ByteArray.ext
  exact Array.ext' e
/-- Of two records of different paths one is less. -/
theorem less_or {x n : R} (h : x.p ≠ n.p) : lessR x n = true ∨ lessR n x = true := by
  rcases Bool.eq_false_or_eq_true (lessR x n) with h1 | h1
  · exact .inl h1
  rcases Bool.eq_false_or_eq_true (lessR n x) with h2 | h2
  · exact .inr h2
  exact absurd (bytes_cut (lessP_total _ _ h1 h2)) h
theorem less_ne {x n : R} (h : lessR x n = true) : x.p ≠ n.p := fun e => by
  unfold lessR at h
  rw [e, lessP_irrefl] at h
  cases h
theorem mem_put {t : List R} {n x : R} : x ∈ putL t n ↔ x = n ∨ x ∈ t ∧ x.p ≠ n.p := by
  unfold putL
  rw [List.mem_append, List.mem_cons, List.mem_filter, List.mem_filter]
  constructor
  · rintro (⟨h1, h2⟩ | h | ⟨h1, h2⟩)
    · exact .inr ⟨h1, less_ne h2⟩
    · exact .inl h
    · exact .inr ⟨h1, fun e => less_ne h2 e.symm⟩
  · rintro (h | ⟨h1, h2⟩)
    · exact .inr (.inl h)
    · rcases less_or h2 with h3 | h3
      · exact .inl ⟨h1, h3⟩
      · exact .inr (.inr ⟨h1, h3⟩)
theorem put_sorted {t : List R} (h : Sorted t) (n : R) : Sorted (putL t n) := by
  unfold putL Sorted
  rw [List.pairwise_append]
  refine ⟨List.Pairwise.filter _ h, ?_, ?_⟩
  · rw [List.pairwise_cons]
    exact ⟨fun x hx => (List.mem_filter.1 hx).2, List.Pairwise.filter _ h⟩
  · intro a ha b hb
    have h1 := (List.mem_filter.1 ha).2
    rcases List.mem_cons.1 hb with rfl | hb
    · exact h1
    · exact lessP_trans _ _ _ h1 (List.mem_filter.1 hb).2
theorem do_sorted {t : List R} (h : Sorted t) (r : R) : Sorted (doR t r) := by
  unfold doR
  split
  · exact without_sorted h _ _
  · split
    · exact put_sorted (without_sorted h _ _) _
    · exact put_sorted h _
theorem apply_sorted : ∀ (l : List R) {t : List R}, Sorted t → Sorted (applyL l t)
  | [], _, h => h
  | r :: l, _, h => apply_sorted l (do_sorted h r)
theorem mem_do {t : List R} {r x : R} : x ∈ doR t r ↔ (r.k ≠ 4 ∧ x = nodeOf r) ∨ (x ∈ t ∧ x.p ≠ r.p ∧ ((r.k = 4 ∨ clears t r = true) → r.p ∉ ups x.p)) := by
  unfold doR
  by_cases hk : r.k = 4
  · rw [if_pos hk, mem_without]
    constructor
    · rintro ⟨h1, h2, h3⟩
      exact .inr ⟨h1, h3 rfl, fun _ => h2⟩
    · rintro (⟨h1, _⟩ | ⟨h1, h2, h3⟩)
      · exact absurd hk h1
      · exact ⟨h1, h3 (.inl hk), fun _ => h2⟩
  · rw [if_neg hk, mem_put]
    have ep : (nodeOf r).p = r.p := rfl
    rw [ep]
    by_cases hc : clears t r = true
    · rw [if_pos hc, mem_without]
      constructor
      · rintro (h | ⟨⟨h1, h2, _⟩, h4⟩)
        · exact .inl ⟨hk, h⟩
        · exact .inr ⟨h1, h4, fun _ => h2⟩
      · rintro (⟨_, h⟩ | ⟨h1, h2, h3⟩)
        · exact .inl h
        · exact .inr ⟨⟨h1, h3 (.inr hc), fun h => by cases h⟩, h2⟩
    · rw [if_neg hc]
      constructor
      · rintro (h | ⟨h1, h2⟩)
        · exact .inl ⟨hk, h⟩
        · exact .inr ⟨h1, h2, fun h => by rcases h with h | h <;> contradiction⟩
      · rintro (⟨_, h⟩ | ⟨h1, h2, _⟩)
        · exact .inl h
        · exact .inr ⟨h1, h2⟩

/-- Lists that grow at their end: Sorted. -/
theorem sorted_snoc {l : List R} {r : R} (h : Sorted (l ++ [r])) : Sorted l ∧ ∀ x ∈ l, lessR x r = true := by
  unfold Sorted at h
  rw [List.pairwise_append] at h
  exact ⟨h.1, fun x hx => h.2.2 x hx r (by simp)⟩
theorem recAt_snoc (l : List R) (r : R) (q : ByteArray) : recAt (l ++ [r]) q = (recAt l q).or (if r.p = q then some r else none) := by
  unfold recAt
  rw [List.find?_append]
  congr 1
  by_cases h : r.p = q <;> simp [h]
theorem cuts_snoc {l : List R} {r : R} (h : Sorted (l ++ [r])) (q : ByteArray) : cutsL (l ++ [r]) q = (cutsL l q || (isUp r.p q && stops r)) := by
  obtain ⟨_, hlt⟩ := sorted_snoc h
  have hno : recAt l r.p = none := by
    cases hr : recAt l r.p with
    | none => rfl
    | some x =>
      obtain ⟨h1, h2⟩ := recAt_mem hr
      exact absurd h2 (less_ne (hlt x h1))
  have hat : ∀ a, stopsAt (l ++ [r]) a = (stopsAt l a || (decide (r.p = a) && stops r)) := by
    intro a
    unfold stopsAt
    rw [recAt_snoc]
    by_cases e : r.p = a
    · subst e
      rw [hno]
      simp
    · rw [if_neg e]
      cases recAt l a <;> simp [e]
  unfold cutsL
  rw [Bool.eq_iff_iff]
  simp only [List.any_eq_true, Bool.or_eq_true, Bool.and_eq_true, decide_eq_true_eq, isUp_iff, hat]
  constructor
  · rintro ⟨a, ha, h1 | ⟨rfl, h1⟩⟩
    · exact .inl ⟨a, ha, h1⟩
    · exact .inr ⟨ha, h1⟩
  · rintro (⟨a, ha, h1⟩ | ⟨ha, h1⟩)
    · exact ⟨a, ha, .inl h1⟩
    · exact ⟨r.p, ha, .inr ⟨rfl, h1⟩⟩

/-- A tree: sorted, housed, its paths are paths. -/
structure IsTree (t : List R) : Prop where
  sorted : Sorted t
  housed : Housed t
  path : ∀ x ∈ t, pathB x.p.data.toList = true

/-- WHAT APPLYING LEAVES: the records that are no whiteouts, as nodes; and of the tree what the layer has no record of and does not cut off. -/
theorem mem_apply {t : List R} (ht : IsTree t) (l : List R) : Sorted l → (∀ r ∈ l, pathB r.p.data.toList = true) → ∀ x, x ∈ applyL l t ↔ (∃ r ∈ l, r.k ≠ 4 ∧ x = nodeOf r) ∨ (x ∈ t ∧ recAt l x.p = none ∧ cutsL l x.p = false) := by
  have hrev : ∀ m : List R, Sorted m.reverse → (∀ r ∈ m.reverse, pathB r.p.data.toList = true) → ∀ x, x ∈ applyL m.reverse t ↔ (∃ r ∈ m.reverse, r.k ≠ 4 ∧ x = nodeOf r) ∨ (x ∈ t ∧ recAt m.reverse x.p = none ∧ cutsL m.reverse x.p = false) := by
    intro m
    induction m with
    | nil =>
      intro _ _ x
      have e2 : cutsL [] x.p = false := by
        unfold cutsL
        rw [List.any_eq_false]
        intro a _
        simp [stopsAt, recAt]
      simp [applyL, recAt, e2]
    | cons r m ih =>
      intro hs hpath x
      rw [List.reverse_cons] at hs hpath ⊢
      obtain ⟨hs1, hlt⟩ := sorted_snoc hs
      have ih := ih hs1 (fun y hy => hpath y (by simp at hy ⊢; exact .inl hy))
      have hrp : pathB r.p.data.toList = true := hpath r (by simp)
      have eA : applyL (m.reverse ++ [r]) t = doR (applyL m.reverse t) r := by unfold applyL; rw [List.foldl_append]; rfl
      rw [eA, mem_do, cuts_snoc hs, recAt_snoc]
      have hno : recAt m.reverse r.p = none := by
        cases hr : recAt m.reverse r.p with
        | none => rfl
        | some y =>
          obtain ⟨h1, h2⟩ := recAt_mem hr
          exact absurd h2 (less_ne (hlt y h1))
      -- a record of the elder part is neither at r's path nor below it
      have hold : ∀ y ∈ m.reverse, y.p ≠ r.p ∧ r.p ∉ ups y.p := fun y hy => ⟨less_ne (hlt y hy), fun hu => by
        have h1 := ups_less (hpath y (by simp at hy ⊢; exact .inl hy)) _ hu
        have h2 := hlt y hy
        unfold lessR at h2
        rw [lessP_asymm _ _ h1] at h2
        cases h2⟩
      -- what is in the tree below r's path, not cut off, has a directory there
      have hclear : ∀ y ∈ t, r.p ∈ ups y.p → clears (applyL m.reverse t) r = stops r := by
        intro y hy hu
        obtain ⟨n, hn, hnp, hnk⟩ := housed_ups ht.housed (ht.path y hy) y hy rfl r.p hu
        unfold clears
        cases hr : recAt (applyL m.reverse t) r.p with
        | none => simp
        | some z =>
          obtain ⟨hz, hzp⟩ := recAt_mem hr
          have hzk : z.k = 3 := by
            rcases (ih z).1 hz with ⟨q, hq, _, rfl⟩ | ⟨hzt, _⟩
            · exact absurd hzp (hold q hq).1
            · rw [sorted_mem_once ht.sorted hzt hn (hzp.trans hnp.symm)]; exact hnk
          simp [hzk]
      constructor
      · rintro (⟨h1, h2⟩ | ⟨h1, h2, h3⟩)
        · exact .inl ⟨r, by simp, h1, h2⟩
        · rcases (ih x).1 h1 with ⟨q, hq, hqk, hqx⟩ | ⟨hxt, hx1, hx2⟩
          · exact .inl ⟨q, by simp at hq ⊢; exact .inl hq, hqk, hqx⟩
          · refine .inr ⟨hxt, ?_, ?_⟩
            · rw [hx1, if_neg (fun e => h2 e.symm)]; rfl
            · rw [hx2, Bool.false_or]
              by_cases hu : r.p ∈ ups x.p
              · have hc := hclear x hxt hu
                have hns : stops r = false := by
                  rcases Bool.eq_false_or_eq_true (stops r) with h5 | h5
                  · exact absurd hu (h3 (.inr (hc.trans h5)))
                  · exact h5
                rw [hns, Bool.and_false]
              · rw [isUp_no.2 hu, Bool.false_and]
      · rintro (⟨q, hq, hqk, hqx⟩ | ⟨hxt, hx1, hx2⟩)
        · rcases List.mem_append.1 hq with hq | hq
          · refine .inr ⟨(ih x).2 (.inl ⟨q, hq, hqk, hqx⟩), ?_, fun _ => ?_⟩
            · rw [hqx]; exact (hold q hq).1
            · rw [hqx]; exact (hold q hq).2
          · rw [List.mem_singleton.1 hq] at hqk hqx
            exact .inl ⟨hqk, hqx⟩
        · have hxr : recAt m.reverse x.p = none ∧ ¬ r.p = x.p := by
            cases hr : recAt m.reverse x.p with
            | some z => rw [hr] at hx1; cases hx1
            | none =>
              refine ⟨rfl, fun e => ?_⟩
              rw [hr, if_pos e] at hx1
              cases hx1
          rw [Bool.or_eq_false_iff] at hx2
          refine .inr ⟨(ih x).2 (.inr ⟨hxt, hxr.1, hx2.1⟩), fun e => hxr.2 e.symm, fun hc hu => ?_⟩
          have h5 := hx2.2
          rw [isUp_iff.2 hu, Bool.true_and] at h5
          rcases hc with hc | hc
          · unfold stops at h5
            rw [hc] at h5
            simp at h5
          · rw [hclear x hxt hu, h5] at hc
            cases hc
  intro hs hp
  have := hrev l.reverse (by rwa [List.reverse_reverse]) (by rwa [List.reverse_reverse])
  rwa [List.reverse_reverse] at this
end Go.Proofs.YtibekkfbpmloiabGreatDoor.Recs
