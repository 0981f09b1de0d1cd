/- What FnPaths needs of the contracts: facts on the strings that it draws. -/
import Derived.Test.YtpklkajpohkhkaaDraw3
import Derived.Test.YtpklkajpohkhkaaPlainE
namespace Go.Proofs.Ytpklkajpohkhkaa.Draw
open Go.RowKit
open Paths

theorem pathDrawn_s (w : World) (A : Option Addr) (n cap : Nat) (hB : Byts w w.heap.size A n) (hn : n ≤ cap) :
    Calls Try.prog 12 #[.slice A n cap] w fun e w' => ∃ s : ByteArray, pathB s.data.toList = true ∧ e = .returned (.string s) ∧ Below w.heap.size w w' := by
  refine (pathDrawn_any w A n cap hB hn).mono ?_
  rintro e w' ⟨l, hl, rfl, hb⟩
  exact ⟨⟨l.toArray⟩, by simpa using hl, rfl, hb⟩
theorem anyPathDrawn_s (w : World) (A : Option Addr) (n cap : Nat) (hB : Byts w w.heap.size A n) (hn : n ≤ cap) :
    Calls Try.prog 25 #[.slice A n cap] w fun e w' => ∃ s : ByteArray, s.size ≤ 100 ∧ e = .returned (.string s) ∧ Below w.heap.size w w' := by
  refine (anyPathDrawn_any w A n cap hB hn).mono ?_
  rintro e w' ⟨l, hl, rfl, hb⟩
  exact ⟨⟨l.toArray⟩, by show l.toArray.size ≤ 100; simpa using hl, rfl, hb⟩

theorem parts_len4 (l : List UInt8) : (partsOf l).length ≤ 4 := by
  rcases Bool.eq_false_or_eq_true (pathB l) with h | h
  · rw [partsOf_yes h]
    exact (pathB_parts h).1
  · rw [partsOf_no h]; simp
theorem path_size {s : ByteArray} (h : pathB s.data.toList = true) : 1 ≤ s.size ∧ s.size ≤ 35 := by
  have h1 := pathB_len h
  have h2 := pathB_ne h
  rw [← Lib.size_eq] at h1
  refine ⟨?_, h1⟩
  rcases Nat.eq_zero_or_pos s.size with h0 | h0
  · rw [pathB_empty h0] at h; cases h
  · exact h0
theorem path_ask {s : ByteArray} (h : pathB s.data.toList = true) : askC s = 0 := askC_yes (by have := path_size h; omega) h

def parB (s : ByteArray) : ByteArray := ⟨(parS s).toArray⟩
def lastB (s : ByteArray) : ByteArray := ⟨((cutAt 47 s.data.toList).getLast (cutAt_ne 47 _)).toArray⟩
theorem parB_data (s : ByteArray) : (parB s).data.toList = parS s := rfl
theorem parB_path {s : ByteArray} (h : pathB s.data.toList = true) : (parB s).data.toList = parentL s.data.toList := by
  rw [parB_data]; unfold parS; rw [h]; rfl
theorem lastB_data (s : ByteArray) : (lastB s).data.toList = (cutAt 47 s.data.toList).getLast (cutAt_ne 47 _) := rfl
theorem parB_size {s : ByteArray} (h : pathB s.data.toList = true) : (parB s).size ≤ 35 := by
  have := path_size h
  rw [Lib.size_eq, parB_path h]
  have := join_dropLast_len s.data.toList
  rw [← Lib.size_eq] at this
  unfold parentL
  omega
theorem size_zero {s : ByteArray} (h : s.data.toList = []) : s.size = 0 := by rw [Lib.size_eq, h]; rfl
theorem size_ne {s : ByteArray} (h : s.data.toList ≠ []) : s.size ≠ 0 := by
  intro e
  rw [Lib.size_eq] at e
  exact h (List.eq_nil_of_length_eq_zero e)
theorem partB_size {s : ByteArray} (h : partB s.data.toList = true) : s.size ≤ 8 := by rw [Lib.size_eq]; exact (partB_len h).2

/-- A path is its parent and its last part, joined. -/
theorem join_back {s : ByteArray} (h : pathB s.data.toList = true) : joinCode (parB s) (lastB s) = 0 ∧ joinRes (parB s) (lastB s) = s.data.toList := by
  have hp := parB_path h
  have hl : partB (lastB s).data.toList = true := last_part h
  have hps := parB_size h
  have hls := partB_size hl
  rcases parent_cases h with ⟨h1, h2, h3⟩ | ⟨h1, h2, h3, h4, h5⟩
  · have hz : (parB s).size = 0 := size_zero (by rw [hp, h1])
    have hw : joinWay (parB s) (lastB s) = 3 := by
      unfold joinWay
      rw [if_neg (by omega), if_neg (by simp [hz, hl]), if_pos hz]
    have e : (lastB s).data.toList = s.data.toList := by
      rw [lastB_data]
      have e2 : cutAt 47 s.data.toList = [s.data.toList] := h2
      simp [e2]
    unfold joinCode joinRes
    rw [hw]
    exact ⟨rfl, e⟩
  · have hz : (parB s).size ≠ 0 := size_ne (by rw [hp]; exact h3)
    have hl4 : (cutAt 47 (parB s).data.toList).length ≠ 4 := by
      rw [hp, h2, List.length_dropLast]
      have := (pathB_parts h).1
      omega
    have hw : joinWay (parB s) (lastB s) = 4 := by
      unfold joinWay
      rw [if_neg (by omega), if_neg (by rw [hp, h1, hl]; simp), if_neg hz, if_neg hl4]
    unfold joinCode joinRes
    rw [hw]
    refine ⟨rfl, ?_⟩
    show (parB s).data.toList ++ 47 :: (lastB s).data.toList = s.data.toList
    rw [hp, lastB_data]
    exact h4.symm
theorem below_parent {s : ByteArray} (h : pathB s.data.toList = true) : isBelowB s (parB s) = true := by
  have hp := parB_path h
  rcases parent_cases h with ⟨h1, h2, h3⟩ | ⟨h1, h2, h3, h4, h5⟩
  · rw [below_root (size_zero (by rw [hp, h1])), h]
  · rw [below_two (size_ne (by rw [hp]; exact h3)) h (by rw [hp]; exact h1), ← below_cut, hp, h2]
    unfold belowP
    have hd := List.dropLast_prefix (cutAt 47 s.data.toList)
    have hpos := cutAt_pos 47 s.data.toList
    rw [decide_eq_true (by rw [List.length_dropLast]; omega), Bool.true_and, beq_iff_eq]
    exact (List.prefix_iff_eq_take.1 hd).symm
theorem below_self {s : ByteArray} (h : pathB s.data.toList = true) : isBelowB s s = false := by
  rw [below_two (by have := path_size h; omega) h h, ← below_cut]
  unfold belowP
  simp
theorem below_up {s : ByteArray} (h : pathB s.data.toList = true) : isBelowB (parB s) s = false := by
  have hp := parB_path h
  rcases parent_cases h with ⟨h1, h2, h3⟩ | ⟨h1, h2, h3, h4, h5⟩
  · exact below_none (pathB_empty (size_zero (by rw [hp, h1])))
  · rw [below_two (by have := path_size h; omega) (by rw [hp]; exact h1) h, ← below_cut, hp, h2]
    unfold belowP
    rw [decide_eq_false (by rw [List.length_dropLast]; omega)]
    rfl
theorem less_parent {s : ByteArray} (h : pathB s.data.toList = true) (hz : (parB s).size ≠ 0) : lessB (parB s) s = true := by
  have hp := parB_path h
  rcases parent_cases h with ⟨h1, h2, h3⟩ | ⟨h1, h2, h3, h4, h5⟩
  · exact absurd (size_zero (by rw [hp, h1])) hz
  · rw [lessB_yes (by rw [hp]; exact h1) h, hp, h2]
    have e := cut_parent s.data.toList
    conv => lhs; rw [e]
    rw [List.dropLast_concat]
    exact lessP_prefix _ _ []
theorem less_asymm {s t : ByteArray} (hs : pathB s.data.toList = true) (ht : pathB t.data.toList = true) (h : lessB s t = true) : lessB t s = false := by
  rw [lessB_yes hs ht] at h
  rw [lessB_yes ht hs]
  exact lessP_asymm _ _ h
theorem less_total {s t : ByteArray} (hs : pathB s.data.toList = true) (ht : pathB t.data.toList = true) (h : lessB s t = false) (k : lessB t s = false) : s = t := by
  rw [lessB_yes hs ht] at h
  rw [lessB_yes ht hs] at k
  have e := lessP_total _ _ h k
  have e2 := congrArg (fun L => Lib.join L [47]) e
  simp only [join_cut] at e2
  cases s; cases t
  simp at e2
  rw [e2]
theorem less_between {a b x : ByteArray} (ha : pathB a.data.toList = true) (hb : pathB b.data.toList = true) (hx : pathB x.data.toList = true) (h : isBelowB x b = true) (k : lessB b a = true) (m : lessB a x = true) : isBelowB a b = true := by
  have hz : b.size ≠ 0 := by have := path_size hb; omega
  rw [below_two hz hx hb, ← below_cut] at h
  rw [lessB_yes hb ha] at k
  rw [lessB_yes ha hx] at m
  rw [below_two hz ha hb, ← below_cut]
  obtain ⟨C, e⟩ := belowP_split h
  rw [e] at m
  exact lessP_between _ _ C k m

end Go.Proofs.Ytpklkajpohkhkaa.Draw
