/- Layers as plain lists of records: the place of a path, the first fault, what lies under an opaque directory, the canonical form. -/
import Derived.Test.YtbgejefmchnhcaaDoorRecSl
import Derived.Test.YtbgejefmchnhcaaDoorPlainD
namespace Go.Proofs.YtbgejefmchnhcaaDoor.Recs
open Go.RowKit Paths

/-- The place of the first record of a path, counted from n on; -1 of none. -/
def atFrom : List R → Nat → ByteArray → Int
  | [], _, _ => -1
  | r :: t, n, q => if r.p = q then (n : Int) else atFrom t (n + 1) q
def atL (l : List R) (q : ByteArray) : Int := atFrom l 0 q
theorem atFrom_step {l : List R} {k : Nat} (h : k < l.length) (q : ByteArray) : atFrom (l.drop k) k q = if l[k].p = q then (k : Int) else atFrom (l.drop (k + 1)) (k + 1) q := by
  rw [List.drop_eq_getElem_cons h]
  rfl
theorem atFrom_end {l : List R} {k : Nat} (h : l.length ≤ k) (q : ByteArray) : atFrom (l.drop k) k q = -1 := by
  rw [List.drop_eq_nil_of_le h]
  rfl
theorem atFrom_cases : ∀ (l : List R) (n : Nat) (q : ByteArray), (atFrom l n q = -1 ∧ ∀ r ∈ l, r.p ≠ q) ∨ ∃ i : Nat, ∃ h : i < l.length, atFrom l n q = ((n + i : Nat) : Int) ∧ l[i].p = q ∧ ∀ j (hj : j < i), l[j].p ≠ q
  | [], _, _ => .inl ⟨rfl, fun r hr => by cases hr⟩
  | r :: t, n, q => by
    by_cases h : r.p = q
    · exact .inr ⟨0, by simp, by simp [atFrom, h], h, fun j hj => by omega⟩
    · have e : atFrom (r :: t) n q = atFrom t (n + 1) q := by simp [atFrom, h]
      rcases atFrom_cases t (n + 1) q with ⟨h1, h2⟩ | ⟨i, hi, h1, h2, h3⟩
      · refine .inl ⟨e.trans h1, fun x hx => ?_⟩
        rcases List.mem_cons.1 hx with rfl | hx
        · exact h
        · exact h2 x hx
      · refine .inr ⟨i + 1, by simpa using hi, by rw [e, h1]; congr 1; omega, by simpa using h2, fun j hj => ?_⟩
        cases j with
        | zero => simpa using h
        | succ j => simpa using h3 j (by omega)
theorem atL_cases (l : List R) (q : ByteArray) : (atL l q = -1 ∧ ∀ r ∈ l, r.p ≠ q) ∨ ∃ i : Nat, ∃ h : i < l.length, atL l q = (i : Int) ∧ l[i].p = q ∧ ∀ j (hj : j < i), l[j].p ≠ q := by
  rcases atFrom_cases l 0 q with h | ⟨i, hi, h1, h2⟩
  · exact .inl h
  · exact .inr ⟨i, hi, by unfold atL; rw [h1]; simp, h2⟩

/-- The path without its last part, as a string. -/
def parO (p : ByteArray) : ByteArray := ⟨(parentL p.data.toList).toArray⟩
theorem parO_data (p : ByteArray) : (parO p).data.toList = parentL p.data.toList := rfl
/-- The record before a place. -/
def beforeL (l : List R) (i : Nat) : Option R := if i = 0 then none else l[i - 1]?
/-- What is wrong with the record r at place i of a layer; 0 of nothing. -/
def codeAt (l : List R) (i : Nat) (r : R) : Int :=
  if i = 16 then 6 else if r.fault ≠ 0 then r.fault
  else if (beforeL l i).any (fun x => x.p = r.p) then 18
  else if (beforeL l i).any (fun x => !lessP (cutAt 47 x.p.data.toList) (cutAt 47 r.p.data.toList)) then 11
  else if parentL r.p.data.toList = [] then 0
  else if atL (l.take i) (parO r.p) < 0 then 12
  else if (l[(atL (l.take i) (parO r.p)).toNat]?).any (fun x => x.k ≠ 3) then 13 else 0
/-- The place of the first invalid record from i on, and its code. -/
def faultFrom (l : List R) (i : Nat) : Int × Int :=
  if h : i < l.length then (if codeAt l i l[i] ≠ 0 then ((i : Int), codeAt l i l[i]) else faultFrom l (i + 1)) else (0, 0)
termination_by l.length - i
def layerFaultL (l : List R) : Int × Int := faultFrom l 0
def layerOK (l : List R) : Bool := (layerFaultL l).2 == 0
theorem faultFrom_bad {l : List R} {i : Nat} (h : i < l.length) (hc : codeAt l i l[i] ≠ 0) : faultFrom l i = ((i : Int), codeAt l i l[i]) := by
  rw [faultFrom, dif_pos h, if_pos hc]
theorem faultFrom_good {l : List R} {i : Nat} (h : i < l.length) (hc : codeAt l i l[i] = 0) : faultFrom l i = faultFrom l (i + 1) := by
  rw [faultFrom, dif_pos h, if_neg (by simp [hc])]
theorem faultFrom_end {l : List R} {i : Nat} (h : l.length ≤ i) : faultFrom l i = (0, 0) := by
  rw [faultFrom, dif_neg (by omega)]
theorem faultFrom_all (l : List R) : ∀ (n i : Nat), l.length - i = n → (faultFrom l i).2 = 0 → ∀ j (h : j < l.length), i ≤ j → codeAt l j l[j] = 0 := by
  intro n
  induction n with
  | zero => intro i hi _ j hj hij; omega
  | succ n ih =>
    intro i hi h0 j hj hij
    have hlt : i < l.length := by omega
    by_cases hc : codeAt l i l[i] = 0
    · rw [faultFrom_good hlt hc] at h0
      rcases Nat.eq_or_lt_of_le hij with rfl | hlt2
      · exact hc
      · exact ih (i + 1) (by omega) h0 j hj hlt2
    · rw [faultFrom_bad hlt hc] at h0
      exact absurd h0 hc
theorem layer_all {l : List R} (h : layerOK l = true) {j : Nat} (hj : j < l.length) : codeAt l j l[j] = 0 :=
  faultFrom_all l _ 0 rfl (by simpa [layerOK, layerFaultL] using h) j hj (Nat.zero_le _)
theorem codeAt_zero {l : List R} {i : Nat} {r : R} (h : codeAt l i r = 0) : i ≠ 16 ∧ r.fault = 0 := by
  unfold codeAt at h
  split at h
  · cases h
  · split at h
    · rename_i h1 h2; exact absurd h h2
    · rename_i h1 h2; exact ⟨h1, by simpa using h2⟩
theorem fault_path {r : R} (h : r.fault = 0) : pathB r.p.data.toList = true ∧ 1 ≤ r.k ∧ r.k ≤ 4 ∧ r.b.size ≤ 20 := by
  unfold R.fault faultI at h
  split at h
  · cases h
  · split at h
    · cases h
    · split at h
      · cases h
      · rename_i h1 h2 h3
        exact ⟨by simpa using h2, by omega, by omega, by omega⟩
/-- A layer has at most 16 records, each of them valid. -/
theorem layer_len {l : List R} (h : layerOK l = true) : l.length ≤ 16 := by
  rcases Nat.lt_or_ge 16 l.length with h1 | h1
  · exact absurd rfl (codeAt_zero (layer_all h h1)).1
  · exact h1
theorem layer_rec {l : List R} (h : layerOK l = true) {r : R} (hr : r ∈ l) : r.fault = 0 := by
  obtain ⟨j, hj, rfl⟩ := List.getElem_of_mem hr
  exact (codeAt_zero (layer_all h hj)).2

/-- The record of a path, if it is there, is Opaque. -/
def opaqueAt (l : List R) (q : ByteArray) : Bool := decide (0 ≤ atL l q) && (l[(atL l q).toNat]?).any (fun x => x.o)
/-- One of those above a path is Opaque; n bounds how far up. -/
def underF : Nat → List R → ByteArray → Bool
  | 0, _, _ => false
  | n + 1, l, q => if parentL q.data.toList = [] then false else opaqueAt l (parO q) || underF n l (parO q)
def underL (l : List R) (q : ByteArray) : Bool := underF 4 l q
/-- What the canonical form makes of a record. -/
def canonR (l : List R) (r : R) : Option R :=
  if underL l r.p then (if r.k = 4 then none else some { r with o := false })
  else some { r with o := r.o && decide ((cutAt 47 r.p.data.toList).length < 4) }
def canonL (l : List R) : List R := l.filterMap (canonR l)
end Go.Proofs.YtbgejefmchnhcaaDoor.Recs
