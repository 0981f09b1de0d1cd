/- Paths: IsBelow, of the program and of its model. -/
import Derived.Test.YtbgejefmchnhcaaDoorPaths7
namespace Go.Proofs.YtbgejefmchnhcaaDoor.Paths
open Go.RowKit

theorem mk_inj {A B : List (List UInt8)} (h : (A.map fun l => (⟨l.toArray⟩ : ByteArray)) = B.map fun l => (⟨l.toArray⟩ : ByteArray)) : A = B := by
  have := congrArg (List.map (·.data.toList)) h
  simpa [Function.comp_def] using this

theorem slicesEqual_any (v1 v2 : Value) (A B : List (List UInt8)) (w : World) (h1 : Strs w v1 A) (h2 : Strs w v2 B) (hl : A.length ≤ 1000) (hl2 : B.length ≤ 1000) : Calls Tryd.prog 76 #[v1, v2] w fun e w' => e = .returned (.bool (decide (A = B))) ∧ ∃ n, w' = w.drewN n := by
  obtain ⟨a1, c1, rfl, hc1, h1⟩ := h1
  obtain ⟨a2, c2, rfl, hc2, h2⟩ := h2
  by_cases hne : A.length = B.length
  case neg =>
    refine (Tryd.slices_Equal_string_lens a1 a2 _ c1 _ c2 w hne).mono ?_
    rintro e w' ⟨rfl, rfl⟩
    exact ⟨ret_bool (by simp; intro e; exact hne (by rw [e])), 0, rfl⟩
  by_cases h0 : A.length = 0
  · have hB : B = [] := List.eq_nil_of_length_eq_zero (by omega)
    have hA : A = [] := List.eq_nil_of_length_eq_zero h0
    subst hA hB
    refine (Tryd.slices_Equal_string_empty a1 a2 c1 _ c2 w (by simp)).mono ?_
    rintro e w' ⟨rfl, rfl⟩
    exact ⟨rfl, 0, rfl⟩
  obtain ⟨b1, o1, rfl, hb1, hcell1⟩ := h1 (by omega)
  obtain ⟨b2, o2, rfl, hb2, hcell2⟩ := h2 (by omega)
  refine (Tryd.slices_Equal_string b1 o1 _ c1 b2 o2 _ c2 (A.map fun l => (⟨l.toArray⟩ : ByteArray)) (B.map fun l => (⟨l.toArray⟩ : ByteArray)) w (by simp) (by simp) (by omega) (by omega) ?_ ?_).mono ?_
  · intro j hj
    rw [List.length_map] at hj
    rw [hcell1 j A[j] (by simp [hj])]
    simp [strV, List.getD, hj]
  · intro j hj
    rw [List.length_map] at hj
    rw [hcell2 j B[j] (by simp [hj])]
    simp [strV, List.getD, hj]
  · rintro e w' ⟨rfl, n, rfl⟩
    refine ⟨ret_bool ?_, n, rfl⟩
    rw [List.take_of_length_le (by simp), List.take_of_length_le (by simp)]
    by_cases h : A = B
    · rw [h]; simp
    · rw [decide_eq_false h, decide_eq_false (fun e => h (mk_inj e))]

def isBelowB (s t : ByteArray) : Bool := pathB s.data.toList && (decide (t.size = 0) || (pathB t.data.toList && belowL s.data.toList t.data.toList))
theorem below_root {s t : ByteArray} (h : t.size = 0) : isBelowB s t = pathB s.data.toList := by unfold isBelowB; rw [decide_eq_true h]; simp
theorem below_bad {s t : ByteArray} (h : t.size ≠ 0) (k : pathB t.data.toList = false) : isBelowB s t = false := by unfold isBelowB; rw [decide_eq_false h, k]; simp
theorem below_none {s t : ByteArray} (k : pathB s.data.toList = false) : isBelowB s t = false := by unfold isBelowB; rw [k]; rfl
theorem below_two {s t : ByteArray} (h : t.size ≠ 0) (k : pathB s.data.toList = true) (m : pathB t.data.toList = true) : isBelowB s t = belowL s.data.toList t.data.toList := by
  unfold isBelowB
  rw [k, decide_eq_false h, m]
  rfl

set_option maxHeartbeats 1000000 in
theorem isBelow_impl (s t : ByteArray) (w : World) (hs : s.size ≤ maxLen) (ht : t.size ≤ maxLen) : Calls Tryd.prog 66 #[.string s, .string t] w fun e w' => e = .returned (.bool (isBelowB s t)) ∧ Below w.heap.size w w' := by
  have hq := fun (w : World) (a : Option Addr) (n c n' c' : Nat) => Lib.run_eql_slice_nil (P := Tryd.prog) w 81 9 a n c n' c' Tryd.underlying81
  by_cases h0 : t.size = 0
  · have he := isEmpty_true h0
    have hT := pathB_empty h0
    have HR := Lib.hid (below_root (s := s) h0)
    clear h0
    go_enter Tryd.func66, Tryd.ntmps66
    go_wp2_with fail
    refine (splitPath_any s _ hs).mono ?_
    rintro e w1 ⟨v1, rfl, hp1⟩
    go_wp2_with fail
    refine (splitPath_any t _ ht).mono ?_
    rintro e w2 ⟨v2, rfl, hb2, ho2, hn2, _⟩
    obtain rfl := hn2 hT
    obtain ⟨A1, cap1, rfl, hA1⟩ := split_nil hp1
    obtain ⟨hb1, ho1, _, _⟩ := hp1
    have hb12 := hb1.trans (hb2.mono hb1.size)
    rcases Bool.eq_false_or_eq_true (pathB s.data.toList) with h1 | h1
    · rw [partsOf_yes h1] at *
      have l1 := cutAt_pos 47 s.data.toList
      have l4 := (pathB_parts h1).1
      have hd : decide ((0 : Int) < ((cutAt 47 s.data.toList).length : Int)) = true := by simp; omega
      obtain ⟨g, cap, e, hcap, _, hg, _⟩ := own_slice ho1 (by omega)
      cases e
      have st := Lib.hid ((Strs.own (own_below ho1 hb2)).take (k := 0) (by omega))
      simp only [List.take_zero] at st
      have st2 : Hid (Strs w2 (.slice none 0 0) []) := ⟨none, 0, rfl, by simp, fun h => by simp at h⟩
      clear ho1 ho2 hn2
      generalize cutAt 47 s.data.toList = L at *
      go_wp2_with fail
      refine (slicesEqual_any _ _ [] [] _ st.out st2.out (by simp) (by simp)).mono ?_
      rintro e w3 ⟨rfl, n, rfl⟩
      go_wp2_with fail
      go_ret
      exact ⟨ret_bool (by rw [HR.out, h1]), below_drewN hb12 _⟩
    · rw [partsOf_no h1] at *
      clear ho1 ho2 hn2
      go_wp2_with fail
      go_ret
      exact ⟨ret_bool (by rw [HR.out, h1]), hb12⟩
  · have he := isEmpty_false (by omega : 0 < t.size)
    have H0 := Lib.hid h0
    clear h0
    go_enter Tryd.func66, Tryd.ntmps66
    go_wp2_with fail
    refine (splitPath_any s _ hs).mono ?_
    rintro e w1 ⟨v1, rfl, hp1⟩
    go_wp2_with fail
    refine (splitPath_any t _ ht).mono ?_
    rintro e w2 ⟨v2, rfl, hp2⟩
    obtain ⟨A1, cap1, rfl, hA1⟩ := split_nil hp1
    obtain ⟨A2, cap2, rfl, hA2⟩ := split_nil hp2
    obtain ⟨hb1, ho1, _, _⟩ := hp1
    obtain ⟨hb2, ho2, _, _⟩ := hp2
    have hb12 := hb1.trans (hb2.mono hb1.size)
    rcases Bool.eq_false_or_eq_true (pathB t.data.toList) with h2 | h2
    case inr =>
      have HL := Lib.hid (below_bad (s := s) H0.out h2)
      rw [h2] at hA2
      clear ho1 ho2
      go_wp2_with fail
      go_ret
      exact ⟨ret_bool HL.out.symm, hb12⟩
    rw [h2] at hA2
    rcases Bool.eq_false_or_eq_true (pathB s.data.toList) with h1 | h1
    case inr =>
      have HL := Lib.hid (below_none (t := t) h1)
      rw [partsOf_no h1] at *
      have hd : decide (((partsOf t.data.toList).length : Int) < 0) = false := by simp
      clear ho1 ho2
      go_wp2_with fail
      go_ret
      exact ⟨ret_bool HL.out.symm, hb12⟩
    have HL := Lib.hid ((below_two H0.out h1 h2).trans (below_cut _ _).symm)
    rw [partsOf_yes h1] at *
    rw [partsOf_yes h2] at *
    have l1 := (pathB_parts h1).1
    have l2 := (pathB_parts h2).1
    have l0 := cutAt_pos 47 s.data.toList
    generalize hX : cutAt 47 s.data.toList = X at *
    generalize hY : cutAt 47 t.data.toList = Y at *
    have HX := Lib.hid hX
    have HY := Lib.hid hY
    clear hX hY
    obtain ⟨g, cap, e, hcap, _, hg, _⟩ := own_slice ho1 (by omega)
    cases e
    by_cases hlt : Y.length < X.length
    · have st := Lib.hid ((Strs.own (own_below ho1 hb2)).take (k := Y.length) (by omega))
      have st2 := Lib.hid (Strs.own ho2)
      have HF : Hid (belowP X Y = decide (X.take Y.length = Y)) := by
        show _ = _
        unfold belowP
        rw [decide_eq_true hlt, Bool.true_and, Bool.eq_iff_iff]
        simp
      clear ho1 ho2
      go_wp2_with fail
      refine (slicesEqual_any _ _ _ _ _ st.out st2.out (by simp; omega) (by omega)).mono ?_
      rintro e w3 ⟨rfl, n, rfl⟩
      go_wp2_with fail
      go_ret
      exact ⟨ret_bool (by rw [HL.out, HF.out]), below_drewN hb12 _⟩
    · have HF : Hid (belowP X Y = false) := by
        show _ = _
        unfold belowP
        rw [decide_eq_false hlt]
        rfl
      clear ho1 ho2
      go_wp2_with fail
      go_ret
      exact ⟨ret_bool (by rw [HL.out, HF.out]), hb12⟩

theorem below_hit {s t : ByteArray} (hlt : t.size < s.size) (h : (s.extract 0 t.size).toList = t.toList) : ((s[t.size].toNat : Int) == 47) = belowL s.data.toList t.data.toList := by
  rw [Lib.toList_data, Lib.toList_data, extract_take] at h
  unfold belowL
  rw [← Lib.size_eq, ← Lib.size_eq, decide_eq_true hlt, h, drop_cons s t.size hlt, Bool.eq_iff_iff]
  simp only [beq_self_eq_true, Bool.and_self, Bool.true_and, List.head?_cons, beq_iff_eq, Option.some.injEq]
  constructor
  · intro e
    exact UInt8.toNat_inj.1 (by show _ = 47; omega)
  · intro e
    rw [e]
    rfl
theorem below_miss {s t : ByteArray} (h : ¬ (s.extract 0 t.size).toList = t.toList) : false = belowL s.data.toList t.data.toList := by
  rw [Lib.toList_data, Lib.toList_data, extract_take] at h
  unfold belowL
  rw [← Lib.size_eq t, beq_false_of_ne h]
  simp
end Go.Proofs.YtbgejefmchnhcaaDoor.Paths
