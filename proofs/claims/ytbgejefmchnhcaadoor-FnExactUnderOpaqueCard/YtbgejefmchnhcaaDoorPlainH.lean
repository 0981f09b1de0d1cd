/- Layers as plain lists of records: when a list is a layer; the records of a canonical form; it is a layer. -/
import Derived.Test.YtbgejefmchnhcaaDoorPlainG
namespace Go.Proofs.YtbgejefmchnhcaaDoor.Recs
open Go.RowKit Paths

/-- Increasing paths. -/
def Sorted (l : List R) : Prop := l.Pairwise fun x r => lessR x r = true
theorem layer_sorted {l : List R} (h : layerOK l = true) : Sorted l := by
  unfold Sorted
  rw [List.pairwise_iff_getElem]
  exact fun i j _ hj hij => layer_lt h hj hij

/-- The parent of each record, where it is no root, is a directory of the list. -/
def Housed (l : List R) : Prop := ∀ r ∈ l, parentL r.p.data.toList ≠ [] → ∃ x ∈ l, x.p = parO r.p ∧ x.k = 3
theorem layer_housed {l : List R} (h : layerOK l = true) : Housed l := by
  intro r hr hp
  obtain ⟨i, hi, rfl⟩ := List.getElem_of_mem hr
  obtain ⟨k, hk, h1, h2⟩ := layer_parent h hi hp
  exact ⟨_, List.getElem_mem _, h1, h2⟩

theorem lessR_irrefl (r : R) : lessR r r = false := lessP_irrefl _
theorem parent_less {q : ByteArray} (h : pathB q.data.toList = true) (hp : parentL q.data.toList ≠ []) : lessP (cutAt 47 (parO q).data.toList) (cutAt 47 q.data.toList) = true := by
  rcases parent_cases h with ⟨h1, _⟩ | ⟨_, h2, _, _, _⟩
  · exact absurd h1 hp
  · have e := cut_parent q.data.toList
    rw [parO_data, h2]
    rw [e]
    simp only [List.dropLast_concat]
    exact lessP_prefix _ _ _

theorem sorted_get {l : List R} (h : Sorted l) {i j : Nat} (hj : j < l.length) (hij : i < j) : lessR (l[i]'(by omega)) l[j] = true :=
  (List.pairwise_iff_getElem.1 h) i j (by omega) hj hij
theorem sorted_once {l : List R} (h : Sorted l) {i j : Nat} (hi : i < l.length) (hj : j < l.length) (he : l[i].p = l[j].p) : i = j := by
  rcases Nat.lt_trichotomy i j with h1 | h1 | h1
  · have := sorted_get h hj h1
    unfold lessR at this; rw [he, lessP_irrefl] at this; cases this
  · exact h1
  · have := sorted_get h hi h1
    unfold lessR at this; rw [he, lessP_irrefl] at this; cases this

/-- What makes a list a layer. -/
theorem layerOK_of {l : List R} (hl : l.length ≤ 16) (hf : ∀ r ∈ l, r.fault = 0) (hs : Sorted l) (hh : Housed l) : layerOK l = true := by
  have hall : ∀ i (hi : i < l.length), codeAt l i l[i] = 0 := by
    intro i hi
    have hfi := hf _ (List.getElem_mem hi)
    have hpath := (fault_path hfi).1
    have hbef : ∀ x, beforeL l i = some x → lessR x l[i] = true := by
      intro x hx
      unfold beforeL at hx
      split at hx
      · cases hx
      · rename_i h0
        have hlt : i - 1 < l.length := by omega
        rw [List.getElem?_eq_getElem hlt] at hx
        cases hx
        exact sorted_get hs hi (by omega)
    unfold codeAt
    rw [if_neg (by omega), if_neg (by simp [hfi])]
    have e1 : (beforeL l i).any (fun x => decide (x.p = l[i].p)) = false := by
      cases hb : beforeL l i with
      | none => rfl
      | some x =>
        have := hbef x hb
        simp only [Option.any_some, decide_eq_false_iff_not]
        intro e
        unfold lessR at this
        rw [e, lessP_irrefl] at this
        cases this
    have e2 : (beforeL l i).any (fun x => !lessP (cutAt 47 x.p.data.toList) (cutAt 47 l[i].p.data.toList)) = false := by
      cases hb : beforeL l i with
      | none => rfl
      | some x =>
        have := hbef x hb
        unfold lessR at this
        simp [this]
    rw [if_neg (by rw [e1]; decide), if_neg (by rw [e2]; decide)]
    by_cases hp : parentL l[i].p.data.toList = []
    · rw [if_pos hp]
    · rw [if_neg hp]
      obtain ⟨x, hx, hxp, hxk⟩ := hh _ (List.getElem_mem hi) hp
      obtain ⟨k, hk, rfl⟩ := List.getElem_of_mem hx
      have hki : k < i := by
        rcases Nat.lt_trichotomy k i with h1 | h1 | h1
        · exact h1
        · subst h1
          have h2 := parent_less hpath hp
          rw [← hxp, lessP_irrefl] at h2
          cases h2
        · have h2 := parent_less hpath hp
          have h3 := sorted_get hs hk h1
          unfold lessR at h3
          rw [hxp] at h3
          rw [lessP_asymm _ _ h2] at h3
          cases h3
      rcases atL_cases (l.take i) (parO l[i].p) with ⟨_, h2⟩ | ⟨j, hj, h1, h2, _⟩
      · exact absurd hxp (h2 _ (List.mem_take_iff_getElem.2 ⟨k, by omega, rfl⟩))
      · have hji : j < i := by rw [List.length_take] at hj; omega
        have h2' : (l[j]'(by omega)).p = parO l[i].p := by simpa using h2
        have ejk : j = k := sorted_once hs (by omega) hk (h2'.trans hxp.symm)
        subst ejk
        rw [if_neg (by omega), h1]
        simp [show j < l.length by omega, hxk]
  have hfrom : ∀ n i, l.length - i = n → faultFrom l i = (0, 0) := by
    intro n
    induction n with
    | zero => intro i hi; exact faultFrom_end (by omega)
    | succ n ih =>
      intro i hi
      rw [faultFrom_good (by omega) (hall i (by omega))]
      exact ih (i + 1) (by omega)
  unfold layerOK layerFaultL
  rw [hfrom _ 0 rfl]
  rfl

/-! ### The canonical form -/
theorem canonR_path {l : List R} {r x : R} (h : canonR l r = some x) : x.p = r.p ∧ x.k = r.k ∧ x.b = r.b ∧ x.m = r.m ∧ (x.o = true → r.o = true) := by
  unfold canonR at h
  split at h
  · split at h
    · cases h
    · cases h; exact ⟨rfl, rfl, rfl, rfl, fun h => by cases h⟩
  · cases h; exact ⟨rfl, rfl, rfl, rfl, fun h => by simp at h; exact h.1⟩
theorem canonR_dir {l : List R} {r : R} (h : r.k = 3) : ∃ x, canonR l r = some x := by
  unfold canonR
  split
  · rw [if_neg (by omega)]; exact ⟨_, rfl⟩
  · exact ⟨_, rfl⟩
theorem canonR_fault {l : List R} {r x : R} (h : canonR l r = some x) (hr : r.fault = 0) : x.fault = 0 := by
  obtain ⟨h1, h2, h3, h4, h5⟩ := canonR_path h
  unfold R.fault at hr ⊢
  rw [h1, h2, h3, h4]
  cases hx : x.o with
  | true => rw [h5 hx] at hr; exact hr
  | false =>
    cases ho : r.o with
    | false => rw [ho] at hr; exact hr
    | true =>
      rw [ho] at hr
      unfold faultI at hr ⊢
      split at hr
      · cases hr
      split at hr
      · cases hr
      split at hr
      · cases hr
      split at hr
      · cases hr
      split at hr
      · cases hr
      rename_i a1 a2 a3 a4 a5
      rw [if_neg a1, if_neg a2, if_neg a3, if_neg (by simp only [Bool.false_eq_true, false_and, or_false]; omega), if_neg a5]
theorem mem_canon {l : List R} {x : R} : x ∈ canonL l ↔ ∃ r ∈ l, canonR l r = some x := by
  unfold canonL
  rw [List.mem_filterMap]
theorem canon_sorted {l : List R} (h : Sorted l) : Sorted (canonL l) := by
  unfold Sorted canonL
  rw [List.pairwise_filterMap]
  refine List.Pairwise.imp (fun {a b} hab x hx y hy => ?_) h
  unfold lessR at hab ⊢
  rw [(canonR_path hx).1, (canonR_path hy).1]
  exact hab
/-- The canonical form of a layer is a layer. -/
theorem canon_layer {l : List R} (h : layerOK l = true) : layerOK (canonL l) = true := by
  refine layerOK_of ?_ ?_ (canon_sorted (layer_sorted h)) ?_
  · have h1 := layer_len h
    have h2 := List.length_filterMap_le (canonR l) l
    unfold canonL
    omega
  · intro x hx
    obtain ⟨r, hr, he⟩ := mem_canon.1 hx
    exact canonR_fault he (layer_rec h hr)
  · intro x hx hp
    obtain ⟨r, hr, he⟩ := mem_canon.1 hx
    have e1 := (canonR_path he).1
    rw [e1] at hp ⊢
    obtain ⟨q, hq, h1, h2⟩ := layer_housed h r hr hp
    obtain ⟨y, hy⟩ := canonR_dir (l := l) h2
    obtain ⟨f1, f2, _⟩ := canonR_path hy
    exact ⟨y, mem_canon.2 ⟨q, hq, hy⟩, f1.trans h1, f2.trans h2⟩
end Go.Proofs.YtbgejefmchnhcaaDoor.Recs
