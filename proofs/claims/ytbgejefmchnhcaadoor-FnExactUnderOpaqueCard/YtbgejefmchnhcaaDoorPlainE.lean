/- Plain facts on paths: a path is its parent and one part; the order of paths is strict and total; what is below a path follows it at once. -/
import Derived.Test.YtbgejefmchnhcaaDoorPlainD
namespace Go.Proofs.YtbgejefmchnhcaaDoor

theorem bytesLess_cons (c d : UInt8) (a b : List UInt8) : Op.bytesLess (c :: a) (d :: b) = if c = d then Op.bytesLess a b else decide (c < d) := by
  simp only [Op.bytesLess]
  by_cases h : c = d
  · subst h; simp
  · simp [h]
theorem bytesLess_asymm : ∀ a b : List UInt8, Op.bytesLess a b = true → Op.bytesLess b a = false
  | [], [], h => by simp [Op.bytesLess] at h
  | [], _ :: _, _ => by simp [Op.bytesLess]
  | _ :: _, [], h => by simp [Op.bytesLess] at h
  | c :: a, d :: b, h => by
    rw [bytesLess_cons] at h ⊢
    by_cases e : c = d
    · subst e
      simp only [if_true] at h ⊢
      exact bytesLess_asymm a b h
    · rw [if_neg e] at h
      rw [if_neg (fun x => e x.symm)]
      simp at h ⊢
      exact UInt8.le_of_lt h
theorem bytesLess_total : ∀ a b : List UInt8, Op.bytesLess a b = false → Op.bytesLess b a = false → a = b
  | [], [], _, _ => rfl
  | [], _ :: _, h, _ => by simp [Op.bytesLess] at h
  | _ :: _, [], _, h => by simp [Op.bytesLess] at h
  | c :: a, d :: b, h, k => by
    rw [bytesLess_cons] at h k
    by_cases e : c = d
    · subst e
      simp only [if_true] at h k
      rw [bytesLess_total a b h k]
    · rw [if_neg e] at h
      rw [if_neg (fun x => e x.symm)] at k
      simp at h k
      exact absurd (UInt8.le_antisymm k h) e

theorem lessP_asymm : ∀ A B : List (List UInt8), lessP A B = true → lessP B A = false
  | [], [], h => by simp [lessP] at h
  | [], _ :: _, _ => rfl
  | _ :: _, [], h => by simp [lessP] at h
  | a :: A, b :: B, h => by
    simp only [lessP] at h ⊢
    by_cases e : a = b
    · subst e
      simp only [if_true] at h ⊢
      exact lessP_asymm A B h
    · rw [if_neg e] at h
      rw [if_neg (fun x => e x.symm)]
      exact bytesLess_asymm a b h
theorem lessP_total : ∀ A B : List (List UInt8), lessP A B = false → lessP B A = false → A = B
  | [], [], _, _ => rfl
  | [], _ :: _, h, _ => by simp [lessP] at h
  | _ :: _, [], _, h => by simp [lessP] at h
  | a :: A, b :: B, h, k => by
    simp only [lessP] at h k
    by_cases e : a = b
    · subst e
      simp only [if_true] at h k
      rw [lessP_total A B h k]
    · rw [if_neg e] at h
      rw [if_neg (fun x => e x.symm)] at k
      exact absurd (bytesLess_total a b h k) e
theorem lessP_prefix : ∀ (A : List (List UInt8)) (c : List UInt8) (C : List (List UInt8)), lessP A (A ++ c :: C) = true
  | [], _, _ => rfl
  | a :: A, c, C => by
    simp only [List.cons_append, lessP, if_true]
    exact lessP_prefix A c C
theorem lessP_between : ∀ (B A C : List (List UInt8)), lessP B A = true → lessP A (B ++ C) = true → belowP A B = true
  | [], [], _, h, _ => by simp [lessP] at h
  | [], _ :: _, _, _, _ => by simp [belowP]
  | _ :: _, [], _, h, _ => by simp [lessP] at h
  | b :: B, a :: A, C, h, k => by
    simp only [List.cons_append, lessP] at h k
    by_cases e : b = a
    · subst e
      simp only [if_true] at h k
      have := lessP_between B A C h k
      simp [belowP] at this ⊢
      exact this
    · rw [if_neg e] at h
      rw [if_neg (fun x => e x.symm)] at k
      rw [bytesLess_asymm b a h] at k
      cases k
theorem belowP_split {A B : List (List UInt8)} (h : belowP A B = true) : ∃ C, A = B ++ C := by
  unfold belowP at h
  simp only [Bool.and_eq_true, beq_iff_eq] at h
  exact ⟨A.drop B.length, by conv => lhs; rw [← List.take_append_drop B.length A, h.2]⟩

/-! ### A path is its parent and one part -/
theorem cut_parent (l : List UInt8) : cutAt 47 l = (cutAt 47 l).dropLast ++ [(cutAt 47 l).getLast (cutAt_ne 47 l)] := (List.dropLast_concat_getLast (cutAt_ne 47 l)).symm
theorem last_part {l : List UInt8} (h : pathB l = true) : partB ((cutAt 47 l).getLast (cutAt_ne 47 l)) = true :=
  List.all_eq_true.1 (pathB_parts h).2 _ (List.getLast_mem _)
theorem clean_of_all {L : List (List UInt8)} (h : L.all partB = true) (hn : L ≠ []) : cutAt 47 (Lib.join L [47]) = L := by
  induction L with
  | nil => exact absurd rfl hn
  | cons a r ih =>
    simp only [List.all_cons, Bool.and_eq_true] at h
    cases r with
    | nil => rw [Lib.join_one, cut_last h.1]
    | cons b t =>
      rw [join_two, cutAt_append, cut_last h.1, ih h.2 (by simp)]
      rfl
/-- What the parent of a path is: the root, or a path of one part less. -/
theorem parent_cases {l : List UInt8} (h : pathB l = true) :
    (parentL l = [] ∧ cutAt 47 l = [l] ∧ partB l = true) ∨
    (pathB (parentL l) = true ∧ cutAt 47 (parentL l) = (cutAt 47 l).dropLast ∧ parentL l ≠ [] ∧ l = parentL l ++ 47 :: (cutAt 47 l).getLast (cutAt_ne 47 l) ∧ (cutAt 47 l).dropLast ≠ []) := by
  obtain ⟨h4, ha⟩ := pathB_parts h
  have e := cut_parent l
  by_cases hd : (cutAt 47 l).dropLast = []
  · left
    rw [hd] at e
    have e2 := join_cut l
    rw [e, List.nil_append, Lib.join_one] at e2
    have hl := last_part h
    refine ⟨by unfold parentL; rw [hd]; rfl, ?_, by rw [e2] at hl; exact hl⟩
    rw [e, List.nil_append, e2]
  · right
    have hall : (cutAt 47 l).dropLast.all partB = true := by
      rw [List.all_eq_true] at ha ⊢
      exact fun x hx => ha x ((List.dropLast_sublist _).subset hx)
    have hc := clean_of_all hall hd
    have hp : pathB (parentL l) = true := by
      unfold pathB parentL
      rw [hc, hall, decide_eq_true (by rw [List.length_dropLast]; omega)]
      rfl
    refine ⟨hp, hc, pathB_ne hp, ?_, hd⟩
    have e2 := join_cut l
    rw [e, join_snoc _ hd] at e2
    exact e2.symm

end Go.Proofs.YtbgejefmchnhcaaDoor
