/- Sorted lists of records are told by their members; what is above a path; a housed list has all that is above its records. -/
import Derived.Test.YtbgejefmchnhcaaDoorPlainI
namespace Go.Proofs.YtbgejefmchnhcaaDoor.Recs
open Go.RowKit Paths

theorem sorted_ext : ∀ a b : List R, Sorted a → Sorted b → (∀ x, x ∈ a ↔ x ∈ b) → a = b
  | [], [], _, _, _ => rfl
  | [], y :: b, _, _, h => by have := (h y).2 (by simp); cases this
  | x :: a, [], _, _, h => by have := (h x).1 (by simp); cases this
  | x :: a, y :: b, ha, hb, h => by
    unfold Sorted at ha hb
    rw [List.pairwise_cons] at ha hb
    have exy : x = y := by
      rcases List.mem_cons.1 ((h x).1 (by simp)) with e | hx
      · exact e
      rcases List.mem_cons.1 ((h y).2 (by simp)) with e | hy
      · exact e.symm
      have h1 := hb.1 x hx
      have h2 := ha.1 y hy
      unfold lessR at h1 h2
      rw [lessP_asymm _ _ h1] at h2
      cases h2
    subst exy
    rw [sorted_ext a b ha.2 hb.2 fun z => ?_]
    constructor
    · intro hz
      rcases List.mem_cons.1 ((h z).1 (by simp [hz])) with e | hz'
      · subst e
        have := ha.1 z hz
        rw [lessR_irrefl] at this
        cases this
      · exact hz'
    · intro hz
      rcases List.mem_cons.1 ((h z).2 (by simp [hz])) with e | hz'
      · subst e
        have := hb.1 z hz
        rw [lessR_irrefl] at this
        cases this
      · exact hz'

theorem upF_more : ∀ (n : Nat) (q : ByteArray), pathB q.data.toList = true → (cutAt 47 q.data.toList).length ≤ n → ∀ m, n ≤ m → upF m q = upF n q := by
  intro n
  induction n with
  | zero =>
    intro q _ hl
    exact absurd (List.eq_nil_of_length_eq_zero (show (cutAt 47 q.data.toList).length = 0 by omega)) (cutAt_ne 47 _)
  | succ n ih =>
    intro q hq hl m hm
    obtain ⟨m', rfl⟩ : ∃ m', m = m' + 1 := ⟨m - 1, by omega⟩
    simp only [upF]
    by_cases hp : parentL q.data.toList = []
    · rw [if_pos hp, if_pos hp]
    · obtain ⟨h1, h2⟩ := parts_parent hq hp
      rw [if_neg hp, if_neg hp, ih (parO q) h1 (by omega) m' (by omega)]
theorem ups_step {q : ByteArray} (h : pathB q.data.toList = true) : ups q = if parentL q.data.toList = [] then [] else parO q :: ups (parO q) := by
  have e : ups q = if parentL q.data.toList = [] then [] else parO q :: upF 3 (parO q) := rfl
  by_cases hp : parentL q.data.toList = []
  · rw [e, if_pos hp, if_pos hp]
  · obtain ⟨h1, h2⟩ := parts_parent h hp
    have h3 := (pathB_parts h).1
    have h4 : ups (parO q) = upF 3 (parO q) := upF_more 3 (parO q) h1 (by omega) 4 (by omega)
    rw [e, if_neg hp, if_neg hp, h4]
/-- To show a thing of a path, show it where it holds of its parent. -/
theorem path_ind {P : ByteArray → Prop} (hr : ∀ q : ByteArray, pathB q.data.toList = true → parentL q.data.toList = [] → P q)
    (hs : ∀ q : ByteArray, pathB q.data.toList = true → parentL q.data.toList ≠ [] → pathB (parO q).data.toList = true → P (parO q) → P q) : ∀ q : ByteArray, pathB q.data.toList = true → P q := by
  have hn : ∀ n, ∀ q : ByteArray, pathB q.data.toList = true → (cutAt 47 q.data.toList).length ≤ n → P q := by
    intro n
    induction n with
    | zero =>
      intro q _ hl
      exact absurd (List.eq_nil_of_length_eq_zero (show (cutAt 47 q.data.toList).length = 0 by omega)) (cutAt_ne 47 _)
    | succ n ih =>
      intro q hq hl
      by_cases hp : parentL q.data.toList = []
      · exact hr q hq hp
      · obtain ⟨h1, h2⟩ := parts_parent hq hp
        exact hs q hq hp h1 (ih _ h1 (by omega))
  exact fun q hq => hn _ q hq (Nat.le_refl _)
theorem ups_path {q : ByteArray} (h : pathB q.data.toList = true) : ∀ a ∈ ups q, pathB a.data.toList = true := by
  refine path_ind (P := fun q => ∀ a ∈ ups q, pathB a.data.toList = true) ?_ ?_ q h
  · intro q hq hp a ha
    rw [ups_step hq, if_pos hp] at ha
    cases ha
  · intro q hq hp h1 ih a ha
    rw [ups_step hq, if_neg hp] at ha
    rcases List.mem_cons.1 ha with rfl | ha
    · exact h1
    · exact ih a ha
theorem ups_less {q : ByteArray} (h : pathB q.data.toList = true) : ∀ a ∈ ups q, lessP (cutAt 47 a.data.toList) (cutAt 47 q.data.toList) = true := by
  refine path_ind (P := fun q => ∀ a ∈ ups q, lessP (cutAt 47 a.data.toList) (cutAt 47 q.data.toList) = true) ?_ ?_ q h
  · intro q hq hp a ha
    rw [ups_step hq, if_pos hp] at ha
    cases ha
  · intro q hq hp h1 ih a ha
    rw [ups_step hq, if_neg hp] at ha
    have h2 := parent_less hq hp
    rcases List.mem_cons.1 ha with rfl | ha
    · exact h2
    · exact lessP_trans _ _ _ (ih a ha) h2
theorem ups_trans {c : ByteArray} (h : pathB c.data.toList = true) : ∀ a b, b ∈ ups c → a ∈ ups b → a ∈ ups c := by
  refine path_ind (P := fun c => ∀ a b, b ∈ ups c → a ∈ ups b → a ∈ ups c) ?_ ?_ c h
  · intro q hq hp a b hb
    rw [ups_step hq, if_pos hp] at hb
    cases hb
  · intro q hq hp h1 ih a b hb ha
    rw [ups_step hq, if_neg hp] at hb ⊢
    rcases List.mem_cons.1 hb with rfl | hb
    · exact List.mem_cons_of_mem _ ha
    · exact List.mem_cons_of_mem _ (ih a b hb ha)
/-- Of two above one path, one is above the other, or they are one. -/
theorem ups_chain {c : ByteArray} (h : pathB c.data.toList = true) : ∀ a b, a ∈ ups c → b ∈ ups c → a = b ∨ a ∈ ups b ∨ b ∈ ups a := by
  refine path_ind (P := fun c => ∀ a b, a ∈ ups c → b ∈ ups c → a = b ∨ a ∈ ups b ∨ b ∈ ups a) ?_ ?_ c h
  · intro q hq hp a b hb
    rw [ups_step hq, if_pos hp] at hb
    cases hb
  · intro q hq hp h1 ih a b ha hb
    rw [ups_step hq, if_neg hp] at ha hb
    rcases List.mem_cons.1 ha with rfl | ha
    · rcases List.mem_cons.1 hb with rfl | hb
      · exact .inl rfl
      · exact .inr (.inr hb)
    · rcases List.mem_cons.1 hb with rfl | hb
      · exact .inr (.inl ha)
      · exact ih a b ha hb

/-- All that is above a record of a housed list is a directory of it. -/
theorem housed_ups {t : List R} (hh : Housed t) {q : ByteArray} (h : pathB q.data.toList = true) : ∀ x ∈ t, x.p = q → ∀ a ∈ ups q, ∃ n ∈ t, n.p = a ∧ n.k = 3 := by
  refine path_ind (P := fun q => ∀ x ∈ t, x.p = q → ∀ a ∈ ups q, ∃ n ∈ t, n.p = a ∧ n.k = 3) ?_ ?_ q h
  · intro q hq hp x _ _ a ha
    rw [ups_step hq, if_pos hp] at ha
    cases ha
  · intro q hq hp h1 ih x hx hxq a ha
    rw [ups_step hq, if_neg hp] at ha
    subst hxq
    obtain ⟨n, hn, hnp, hnk⟩ := hh x hx hp
    rcases List.mem_cons.1 ha with rfl | ha
    · exact ⟨n, hn, hnp, hnk⟩
    · exact ih n hn hnp a ha
end Go.Proofs.YtbgejefmchnhcaaDoor.Recs
