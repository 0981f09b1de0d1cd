/- Plain facts on lists of bytes: a list cut at a sign, step by step. -/
import Derived.Test.YtbgejefmchnhcaaDoorPlainB
namespace Go.Proofs.YtbgejefmchnhcaaDoor

/-- From place f up to k no byte is c. -/
def Gap (l : List UInt8) (c : UInt8) (f k : Nat) : Prop := ∀ d ∈ (l.drop f).take (k - f), d ≠ c
theorem Gap.refl (l : List UInt8) (c : UInt8) (f : Nat) : Gap l c f f := by unfold Gap; simp

theorem gap_snoc (s : ByteArray) {f k : Nat} (hf : f ≤ k) (hk : k < s.size) : (s.data.toList.drop f).take (k + 1 - f) = (s.data.toList.drop f).take (k - f) ++ [s[k]] := by
  have hl : k < s.data.toList.length := by rw [← Lib.size_eq]; exact hk
  rw [show k + 1 - f = (k - f) + 1 by omega, List.take_succ_eq_append_getElem (by rw [List.length_drop]; omega)]
  congr 2
  rw [List.getElem_drop]
  simp only [show f + (k - f) = k by omega]
  rfl
theorem Gap.next {s : ByteArray} {c : UInt8} {f k : Nat} (h : Gap s.data.toList c f k) (hf : f ≤ k) (hk : k < s.size) (hne : s[k] ≠ c) : Gap s.data.toList c f (k + 1) := by
  unfold Gap
  rw [gap_snoc s hf hk]
  intro d hd
  rcases List.mem_append.1 hd with hd | hd
  · exact h d hd
  · simp at hd; subst hd; exact hne
theorem Gap.cut {s : ByteArray} {c : UInt8} {f k : Nat} (h : Gap s.data.toList c f k) (hf : f ≤ k) (hk : k < s.size) (he : s[k] = c) :
    cutAt c (s.data.toList.drop f) = (s.data.toList.drop f).take (k - f) :: cutAt c (s.data.toList.drop (k + 1)) := by
  have e : s.data.toList.drop f = (s.data.toList.drop f).take (k - f) ++ c :: s.data.toList.drop (k + 1) := by
    conv => lhs; rw [← List.take_append_drop (k - f) (s.data.toList.drop f)]
    rw [List.drop_drop, show f + (k - f) = k by omega, drop_cons s k hk, he]
  have := cutAt_at (s.data.toList.drop (k + 1)) h
  rw [← e] at this
  exact this
theorem Gap.last {s : ByteArray} {c : UInt8} {f k : Nat} (h : Gap s.data.toList c f k) (hk : ¬ k < s.size) : cutAt c (s.data.toList.drop f) = [s.data.toList.drop f] := by
  apply cutAt_clean
  unfold Gap at h
  rw [List.take_of_length_le (by rw [List.length_drop, ← Lib.size_eq]; omega)] at h
  exact h

theorem cutAt_sum (x : UInt8) (l : List UInt8) : ((cutAt x l).map List.length).sum + (cutAt x l).length = l.length + 1 := by
  induction l with
  | nil => rfl
  | cons c r ih =>
    simp only [cutAt]
    split
    · simp; omega
    · split
      · rename_i h; exact absurd h (cutAt_ne x r)
      · rename_i h; rw [h] at ih; simp at ih ⊢; omega
theorem sum_le {L : List (List UInt8)} (h : L.all partB = true) : (L.map List.length).sum ≤ 8 * L.length := by
  induction L with
  | nil => simp
  | cons a r ih =>
    simp only [List.all_cons, Bool.and_eq_true] at h
    have := partB_len h.1
    have := ih h.2
    simp
    omega
/-- A path has at most 35 bytes. -/
theorem pathB_len {l : List UInt8} (h : pathB l = true) : l.length ≤ 35 := by
  unfold pathB at h
  simp only [Bool.and_eq_true, decide_eq_true_eq] at h
  have := cutAt_sum 47 l
  have := sum_le h.2
  omega
theorem pathB_long {s : ByteArray} (h : 36 < s.size) : pathB s.data.toList = false := by
  rw [Bool.eq_false_iff]
  intro hp
  have := pathB_len hp
  rw [← Lib.size_eq] at this
  omega
theorem pathB_ne {l : List UInt8} (h : pathB l = true) : l ≠ [] := by
  rintro rfl
  revert h
  decide

end Go.Proofs.YtbgejefmchnhcaaDoor
