/- Layers as plain lists of records: the canonical form is canonical; what is above a path, as a list; what a layer cuts off. -/
import Derived.Test.YtbgejefmchnhcaaDoorPlainH
namespace Go.Proofs.YtbgejefmchnhcaaDoor.Recs
open Go.RowKit Paths

theorem sorted_mem_once {l : List R} (h : Sorted l) {x y : R} (hx : x ∈ l) (hy : y ∈ l) (he : x.p = y.p) : x = y := by
  obtain ⟨i, hi, rfl⟩ := List.getElem_of_mem hx
  obtain ⟨j, hj, rfl⟩ := List.getElem_of_mem hy
  have := sorted_once h hi hj he
  subst this
  rfl
/-- The record of a path. -/
def recAt (l : List R) (q : ByteArray) : Option R := l.find? fun r => decide (r.p = q)
theorem recAt_mem {l : List R} {q : ByteArray} {r : R} (h : recAt l q = some r) : r ∈ l ∧ r.p = q := by
  unfold recAt at h
  exact ⟨List.mem_of_find?_eq_some h, by simpa using List.find?_some h⟩
theorem recAt_none {l : List R} {q : ByteArray} (h : recAt l q = none) : ∀ r ∈ l, r.p ≠ q := by
  unfold recAt at h
  intro r hr
  simpa using List.find?_eq_none.1 h r hr
theorem recAt_of {l : List R} (h : Sorted l) {r : R} (hr : r ∈ l) : recAt l r.p = some r := by
  cases hc : recAt l r.p with
  | none => exact absurd rfl (recAt_none hc r hr)
  | some x =>
    obtain ⟨h1, h2⟩ := recAt_mem hc
    rw [sorted_mem_once h h1 hr h2]
/-- The place of a path and its record. -/
theorem atL_recAt (l : List R) (q : ByteArray) : (atL l q = -1 ∧ recAt l q = none) ∨ ∃ i : Nat, ∃ h : i < l.length, atL l q = (i : Int) ∧ recAt l q = some l[i] := by
  rcases atL_cases l q with ⟨h1, h2⟩ | ⟨i, hi, h1, h2, h3⟩
  · refine .inl ⟨h1, ?_⟩
    unfold recAt
    rw [List.find?_eq_none]
    intro r hr
    simpa using h2 r hr
  · refine .inr ⟨i, hi, h1, ?_⟩
    unfold recAt
    rw [List.find?_eq_some_iff_getElem]
    exact ⟨by simpa using h2, i, hi, rfl, fun j hj => by simpa using h3 j hj⟩
theorem opaqueAt_eq (l : List R) (q : ByteArray) : opaqueAt l q = (recAt l q).any (fun x => x.o) := by
  unfold opaqueAt
  rcases atL_recAt l q with ⟨h1, h2⟩ | ⟨i, hi, h1, h2⟩
  · rw [h1, h2]; rfl
  · rw [h1, h2]
    simp [hi]

/-- What is above a path: its parent, the parent of that, and so on; n bounds how far up. -/
def upF : Nat → ByteArray → List ByteArray
  | 0, _ => []
  | n + 1, q => if parentL q.data.toList = [] then [] else parO q :: upF n (parO q)
def ups (q : ByteArray) : List ByteArray := upF 4 q
theorem underF_any (l : List R) : ∀ (n : Nat) (q : ByteArray), underF n l q = (upF n q).any (opaqueAt l)
  | 0, _ => rfl
  | n + 1, q => by
    simp only [underF, upF]
    by_cases hp : parentL q.data.toList = []
    · rw [if_pos hp, if_pos hp]; rfl
    · rw [if_neg hp, if_neg hp, underF_any l n, List.any_cons]
theorem underL_any (l : List R) (q : ByteArray) : underL l q = (ups q).any (opaqueAt l) := underF_any l 4 q
/-- A record stops what is below it from being seen. -/
def stops (r : R) : Bool := decide (r.k ≠ 3) || r.o
def stopsAt (l : List R) (q : ByteArray) : Bool := (recAt l q).any stops
def cutsL (l : List R) (q : ByteArray) : Bool := (ups q).any (stopsAt l)
theorem under_cuts {l : List R} {q : ByteArray} (h : underL l q = true) : cutsL l q = true := by
  rw [underL_any, List.any_eq_true] at h
  obtain ⟨a, ha, hb⟩ := h
  unfold cutsL
  rw [List.any_eq_true]
  refine ⟨a, ha, ?_⟩
  rw [opaqueAt_eq] at hb
  unfold stopsAt
  cases hr : recAt l a with
  | none => rw [hr] at hb; cases hb
  | some r => rw [hr] at hb; simp at hb; simp [stops, hb]

theorem canon_recAt {l : List R} (h : Sorted l) (q : ByteArray) : recAt (canonL l) q = (recAt l q).bind (canonR l) := by
  cases hr : recAt l q with
  | none =>
    cases hc : recAt (canonL l) q with
    | none => rfl
    | some x =>
      obtain ⟨h1, h2⟩ := recAt_mem hc
      obtain ⟨r, hm, he⟩ := mem_canon.1 h1
      exact absurd ((canonR_path he).1.symm.trans h2) (recAt_none hr r hm)
  | some r =>
    obtain ⟨h1, h2⟩ := recAt_mem hr
    show _ = canonR l r
    cases he : canonR l r with
    | none =>
      cases hc : recAt (canonL l) q with
      | none => rfl
      | some x =>
        obtain ⟨h3, h4⟩ := recAt_mem hc
        obtain ⟨y, hm, hy⟩ := mem_canon.1 h3
        have e := sorted_mem_once h hm h1 ((canonR_path hy).1.symm.trans (h4.trans h2.symm))
        subst e
        rw [he] at hy
        cases hy
    | some x =>
      have hx := mem_canon.2 ⟨r, h1, he⟩
      have e := recAt_of (canon_sorted h) hx
      rw [(canonR_path he).1, h2] at e
      exact e
theorem canon_opaque_le {l : List R} (h : Sorted l) {q : ByteArray} (ho : opaqueAt (canonL l) q = true) : opaqueAt l q = true := by
  rw [opaqueAt_eq, canon_recAt h] at ho
  rw [opaqueAt_eq]
  cases hr : recAt l q with
  | none => rw [hr] at ho; cases ho
  | some r =>
    rw [hr] at ho
    have ho' : (canonR l r).any (fun x => x.o) = true := ho
    cases he : canonR l r with
    | none => rw [he] at ho'; cases ho'
    | some x =>
      rw [he] at ho'
      simp at ho'
      simpa using (canonR_path he).2.2.2.2 ho'
theorem canon_under_le {l : List R} (h : Sorted l) {q : ByteArray} (ho : underL (canonL l) q = true) : underL l q = true := by
  rw [underL_any, List.any_eq_true] at ho ⊢
  obtain ⟨a, ha, hb⟩ := ho
  exact ⟨a, ha, canon_opaque_le h hb⟩
/-- The canonical form is canonical. -/
theorem canon_idem {l : List R} (h : Sorted l) : canonL (canonL l) = canonL l := by
  have hall : ∀ x ∈ canonL l, canonR (canonL l) x = some x := by
    intro x hx
    obtain ⟨r, hm, he⟩ := mem_canon.1 hx
    have hp := (canonR_path he).1
    have he' := he
    unfold canonR at he'
    by_cases hu : underL l r.p = true
    · rw [if_pos hu] at he'
      split at he'
      · cases he'
      · rename_i hk
        cases he'
        unfold canonR
        split
        · first | rfl | rw [if_neg hk]
        · simp
    · rw [if_neg hu] at he'
      cases he'
      unfold canonR
      rw [if_neg (fun hc => hu (canon_under_le h hc))]
      simp
  have hid : ∀ (c : List R) (f : R → Option R), (∀ x ∈ c, f x = some x) → c.filterMap f = c := by
    intro c f
    induction c with
    | nil => intro _; rfl
    | cons a t ih =>
      intro ha
      rw [List.filterMap_cons, ha a (by simp)]
      simp only
      rw [ih (fun x hx => ha x (by simp [hx]))]
  exact hid _ _ hall
end Go.Proofs.YtbgejefmchnhcaaDoor.Recs
