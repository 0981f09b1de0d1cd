/- Layers as plain lists of records: in a layer the paths increase, so each path is there once; a parent that is no root stands before its record, and is a directory; how far up one can go. -/
import Derived.Test.YtbgejefmchnhcaaDoorPlainF
import Derived.Test.YtbgejefmchnhcaaDoorPlainE
namespace Go.Proofs.YtbgejefmchnhcaaDoor.Recs
open Go.RowKit Paths

theorem bytesLess_trans : ∀ a b c : List UInt8, Op.bytesLess a b = true → Op.bytesLess b c = true → Op.bytesLess a c = true
  | [], [], _, h, _ => by simp [Op.bytesLess] at h
  | [], _ :: _, [], _, k => by simp [Op.bytesLess] at k
  | [], _ :: _, _ :: _, _, _ => by simp [Op.bytesLess]
  | _ :: _, [], _, h, _ => by simp [Op.bytesLess] at h
  | _ :: _, _ :: _, [], _, k => by simp [Op.bytesLess] at k
  | x :: a, y :: b, z :: c, h, k => by
    rw [bytesLess_cons] at h k ⊢
    by_cases e1 : x = y
    · subst e1
      by_cases e2 : x = z
      · subst e2
        simp only [if_true] at h k ⊢
        exact bytesLess_trans a b c h k
      · rw [if_neg e2] at k ⊢
        exact k
    · rw [if_neg e1] at h
      by_cases e2 : y = z
      · subst e2
        rw [if_neg e1]
        exact h
      · rw [if_neg e2] at k
        simp only [decide_eq_true_eq] at h k
        have h3 := UInt8.lt_trans h k
        rw [if_neg (fun e => by rw [e] at h3; exact absurd h3 (UInt8.lt_irrefl _))]
        simpa using h3
theorem lessP_trans : ∀ A B C : List (List UInt8), lessP A B = true → lessP B C = true → lessP A C = true
  | [], [], _, h, _ => by simp [lessP] at h
  | [], _ :: _, [], _, k => by simp [lessP] at k
  | [], _ :: _, _ :: _, _, _ => rfl
  | _ :: _, [], _, h, _ => by simp [lessP] at h
  | _ :: _, _ :: _, [], _, k => by simp [lessP] at k
  | a :: A, b :: B, c :: C, h, k => by
    simp only [lessP] at h k ⊢
    by_cases e1 : a = b
    · subst e1
      by_cases e2 : a = c
      · subst e2
        simp only [if_true] at h k ⊢
        exact lessP_trans A B C h k
      · rw [if_neg e2] at k ⊢
        simp only [if_true] at h
        exact k
    · rw [if_neg e1] at h
      by_cases e2 : b = c
      · subst e2
        rw [if_neg e1]
        exact h
      · rw [if_neg e2] at k
        have h3 := bytesLess_trans a b c h k
        rw [if_neg (fun e => by rw [e] at h3; rw [bytesLess_irrefl] at h3; cases h3)]
        exact h3
theorem lessP_irrefl (A : List (List UInt8)) : lessP A A = false := by
  rcases Bool.eq_false_or_eq_true (lessP A A) with h | h
  · have := lessP_asymm A A h; rw [h] at this; cases this
  · exact h

def lessR (x r : R) : Bool := lessP (cutAt 47 x.p.data.toList) (cutAt 47 r.p.data.toList)

/-- What a record that is fine says: the one before is less; the parent, where there is one, stands before, and is a directory. -/
theorem codeAt_parts {l : List R} {i : Nat} {r : R} (h : codeAt l i r = 0) :
    (∀ x, beforeL l i = some x → lessR x r = true) ∧ (parentL r.p.data.toList ≠ [] → 0 ≤ atL (l.take i) (parO r.p) ∧ ∀ x, l[(atL (l.take i) (parO r.p)).toNat]? = some x → x.k = 3) := by
  unfold codeAt at h
  split at h
  · cases h
  split at h
  · rename_i h1 h2; exact absurd h h2
  split at h
  · cases h
  split at h
  · cases h
  rename_i h4
  refine ⟨fun x hx => ?_, fun hp => ?_⟩
  · rw [hx] at h4
    simpa [lessR] using h4
  · rw [if_neg hp] at h
    split at h
    · cases h
    split at h
    · cases h
    rename_i h5 h6
    refine ⟨by omega, fun x hx => ?_⟩
    rw [hx] at h6
    simpa using h6

theorem layer_next {l : List R} (h : layerOK l = true) {i : Nat} (hi : i + 1 < l.length) : lessR (l[i]'(by omega)) l[i + 1] = true := by
  refine (codeAt_parts (layer_all h hi)).1 _ ?_
  unfold beforeL
  rw [if_neg (by omega)]
  simp [show i < l.length by omega]
theorem layer_less {l : List R} (h : layerOK l = true) : ∀ (n i j : Nat) (hj : j < l.length) (hij : j = i + 1 + n), lessR (l[i]'(by omega)) l[j] = true := by
  intro n
  induction n with
  | zero => intro i j hj hij; subst hij; exact layer_next h hj
  | succ n ih =>
    intro i j hj hij
    subst hij
    have h1 := ih i (i + 1 + n) (by omega) rfl
    have h2 := layer_next h (i := i + 1 + n) (by omega)
    exact lessP_trans _ _ _ h1 h2
theorem layer_lt {l : List R} (h : layerOK l = true) {i j : Nat} (hj : j < l.length) (hij : i < j) : lessR (l[i]'(by omega)) l[j] = true :=
  layer_less h (j - i - 1) i j hj (by omega)
/-- In a layer a path is there once. -/
theorem layer_once {l : List R} (h : layerOK l = true) {i j : Nat} (hi : i < l.length) (hj : j < l.length) (he : l[i].p = l[j].p) : i = j := by
  rcases Nat.lt_trichotomy i j with h1 | h1 | h1
  · have := layer_lt h hj h1
    unfold lessR at this
    rw [he, lessP_irrefl] at this
    cases this
  · exact h1
  · have := layer_lt h hi h1
    unfold lessR at this
    rw [he, lessP_irrefl] at this
    cases this
theorem atL_here {l : List R} (h : layerOK l = true) {i : Nat} (hi : i < l.length) : atL l l[i].p = (i : Int) := by
  rcases atL_cases l l[i].p with ⟨_, h2⟩ | ⟨j, hj, h1, h2, _⟩
  · exact absurd rfl (h2 _ (List.getElem_mem hi))
  · rw [h1, layer_once h hj hi h2]
/-- The parent of a record of a layer, where it is no root, stands before it and is a directory. -/
theorem layer_parent {l : List R} (h : layerOK l = true) {i : Nat} (hi : i < l.length) (hp : parentL l[i].p.data.toList ≠ []) :
    ∃ k, ∃ hk : k < i, (l[k]'(by omega)).p = parO l[i].p ∧ (l[k]'(by omega)).k = 3 := by
  obtain ⟨h1, h2⟩ := (codeAt_parts (layer_all h hi)).2 hp
  rcases atL_cases (l.take i) (parO l[i].p) with ⟨h3, _⟩ | ⟨k, hk, h3, h4, _⟩
  · omega
  · have hki : k < i := by rw [List.length_take] at hk; omega
    refine ⟨k, hki, by simpa using h4, h2 _ ?_⟩
    rw [h3]
    simp [show k < l.length by omega]

/-- How many parts a path has: one less for its parent. -/
theorem parts_parent {q : ByteArray} (h : pathB q.data.toList = true) (hp : parentL q.data.toList ≠ []) :
    pathB (parO q).data.toList = true ∧ (cutAt 47 (parO q).data.toList).length + 1 = (cutAt 47 q.data.toList).length := by
  rcases parent_cases h with ⟨h1, _⟩ | ⟨h1, h2, _, _, h5⟩
  · exact absurd h1 hp
  · rw [parO_data, h2]
    refine ⟨h1, ?_⟩
    rw [List.length_dropLast]
    have : (cutAt 47 q.data.toList).length ≠ 0 := fun e => cutAt_ne 47 _ (List.eq_nil_of_length_eq_zero e)
    omega
/-- Any bound that reaches the parts serves. -/
theorem underF_more (l : List R) : ∀ (n : Nat) (q : ByteArray), pathB q.data.toList = true → (cutAt 47 q.data.toList).length ≤ n → ∀ m, n ≤ m → underF m l q = underF n l q := by
  intro n
  induction n with
  | zero =>
    intro q _ hl
    exact absurd (List.eq_nil_of_length_eq_zero (show (cutAt 47 q.data.toList).length = 0 by omega)) (cutAt_ne 47 _)
  | succ n ih =>
    intro q hq hl m hm
    obtain ⟨m', rfl⟩ : ∃ m', m = m' + 1 := ⟨m - 1, by omega⟩
    simp only [underF]
    by_cases hp : parentL q.data.toList = []
    · rw [if_pos hp, if_pos hp]
    · obtain ⟨h1, h2⟩ := parts_parent hq hp
      rw [if_neg hp, if_neg hp, ih (parO q) h1 (by omega) m' (by omega)]
theorem underL_step (l : List R) {q : ByteArray} (h : pathB q.data.toList = true) : underL l q = if parentL q.data.toList = [] then false else opaqueAt l (parO q) || underL l (parO q) := by
  have e : underL l q = if parentL q.data.toList = [] then false else opaqueAt l (parO q) || underF 3 l (parO q) := rfl
  by_cases hp : parentL q.data.toList = []
  · rw [e, if_pos hp, if_pos hp]
  · obtain ⟨h1, h2⟩ := parts_parent h hp
    have h3 := (pathB_parts h).1
    have h4 : underL l (parO q) = underF 3 l (parO q) := underF_more l 3 (parO q) h1 (by omega) 4 (by omega)
    rw [e, if_neg hp, if_neg hp, h4]
end Go.Proofs.YtbgejefmchnhcaaDoor.Recs
