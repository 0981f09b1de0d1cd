/- Parts of several texts of mine in one file (each begins with its own remark). -/
import Derived.Test.YtibekkfbpmloiabGreatDoorCA1
import Derived.Test.YtibekkfbpmloiabGreatDoorCA2
import Derived.Test.YtibekkfbpmloiabGreatDoorCA3
import Derived.Test.YtibekkfbpmloiabGreatDoorCA4
import Derived.Test.YtibekkfbpmloiabGreatDoorCA5
import Derived.Test.YtibekkfbpmloiabGreatDoorCA6
import Derived.Test.YtibekkfbpmloiabGreatDoorShelf
import Derived.Test.YtibekkfbpmloiabGreatDoorChecked
import Derived.WalkLawsBesides
import Derived.BigQuiet
import Derived.Laws.BytesArg
import Derived.Deep.QuietTactic
import Derived.Deep.RegionHeld3
import Derived.Deep.Draws
import Derived.Deep.LoopGhost
import Derived.WalkKit
import Derived.WalkSpells
import Derived.WalkSmall
import Derived.Lib.OthersKept
import Derived.Lib.Hide
import Derived.Lib.Strings
import Derived.Lib.Join
import Derived.Maps.RangeWalk
import Derived.Maps.Ext
import Derived.Lib.SlMapFilter
import Derived.StillTailTactics
import Derived.Laws.OwnMore
import Derived.BigRegion
import Derived.Deep.Slices
import Derived.OpenShut
import Derived.ShutString
import Derived.ChangeArms
import Derived.WideShapes
import Derived.Lib.LaidTab
/- Paths: PathLess and IsBelow, of the program and of its model. -/
namespace Go.Proofs.YtibekkfbpmloiabGreatDoor.Paths
open Go.RowKit

def cmpS (x y : List UInt8) : Int := if Op.bytesLess x y then -1 else if x = y then 0 else 1

theorem isNaN_any (x : List UInt8) (w : World) : Calls Tryz.prog 206 #[.string ⟨x.toArray⟩] w fun e w' => e = .returned (.bool false) ∧ w = w' := by
  go_enter Tryz.func206, Tryz.ntmps206
  go_wp2
  go_ret
  exact ⟨rfl, rfl⟩

theorem compare_any (x y : List UInt8) (w : World) : Calls Tryz.prog 165 #[.string ⟨x.toArray⟩, .string ⟨y.toArray⟩] w fun e w' => e = .returned (.int .i64 (cmpS x y)) ∧ w = w' := by
  rcases Bool.eq_false_or_eq_true (Op.bytesLess x y) with h | h
  · have HC : Hid (cmpS x y = -1) := by show _ = _; unfold cmpS; rw [h]; rfl
    go_enter Tryz.func165, Tryz.ntmps165
    go_wp2_with (first | (go_at_call 206; refine (isNaN_any _ _).mono ?_; rintro e w' ⟨rfl, rfl⟩))
    go_ret
    exact ⟨ret_int HC.out.symm, rfl⟩
  · rcases Bool.eq_false_or_eq_true (x == y) with he | he
    · have HC : Hid (cmpS x y = 0) := by show _ = _; unfold cmpS; simp [h]; simpa using he
      go_enter Tryz.func165, Tryz.ntmps165
      go_wp2_with (first | (go_at_call 206; refine (isNaN_any _ _).mono ?_; rintro e w' ⟨rfl, rfl⟩))
      go_ret
      exact ⟨ret_int HC.out.symm, rfl⟩
    · have HC : Hid (cmpS x y = 1) := by show _ = _; unfold cmpS; simp [h]; simpa using he
      go_enter Tryz.func165, Tryz.ntmps165
      go_wp2_with (first | (go_at_call 206; refine (isNaN_any _ _).mono ?_; rintro e w' ⟨rfl, rfl⟩))
      go_ret
      exact ⟨ret_int HC.out.symm, rfl⟩

theorem cmp_step {A B : List (List UInt8)} {k : Nat} (ha : k < A.length) (hb : k < B.length) (h : cmpS A[k] B[k] = 0) : cmpP (A.drop k) (B.drop k) = cmpP (A.drop (k + 1)) (B.drop (k + 1)) := by
  rw [cmpP_drop ha hb]
  unfold cmpS at h
  split at h
  · cases h
  · rename_i hn
    split at h
    · rename_i he
      rw [if_neg hn, if_pos he]
    · cases h
theorem cmp_stop {A B : List (List UInt8)} {k : Nat} (ha : k < A.length) (hb : k < B.length) (h : cmpS A[k] B[k] ≠ 0) : cmpP (A.drop k) (B.drop k) = cmpS A[k] B[k] := by
  rw [cmpP_drop ha hb]
  unfold cmpS at h ⊢
  split
  · rfl
  · rename_i hn
    split
    · rename_i he
      rw [if_neg hn, if_pos he] at h
      exact absurd rfl h
    · rfl

set_option maxHeartbeats 400000 in
theorem slicesCompare_any (v1 v2 : Value) (A B : List (List UInt8)) (w : World) (h1 : Strs w v1 A) (h2 : Strs w v2 B) (hl : A.length ≤ 1000) (hl2 : B.length ≤ 1000) : Calls Tryz.prog 101 #[v1, v2] w fun e w' => e = .returned (.int .i64 (cmpP A B)) ∧ w = w' := by
  obtain ⟨a1, c1, rfl, hc1, h1⟩ := h1
  obtain ⟨a2, c2, rfl, hc2, h2⟩ := h2
  have H1 := Lib.hid h1
  have H2 := Lib.hid h2
  clear h1 h2
  go_enter Tryz.func101, Tryz.ntmps101
  go_wp2
  go_loop [11] (fun i => ∃ k : Nat, k ≤ A.length ∧ k ≤ B.length ∧ i = .int .i64 k ∧ Hid (cmpP A B = cmpP (A.drop k) (B.drop k))) (fun i => A.length - (intOf i).toNat)
  case atStart => exact ⟨0, by omega, by omega, rfl, rfl⟩
  case round =>
    obtain ⟨k, hk, hkb, rfl, HK⟩ := hrel
    by_cases hlt : k < A.length
    · obtain ⟨b1, o1, rfl, hb1, hcell1⟩ := H1.out (by omega)
      have hk1 := hcell1 k A[k] (by simp [hlt])
      unfold strV at hk1
      clear hcell1 H1
      have hi1 : (k : Int) < (A.length : Int) := by omega
      have hi0 : (0 : Int) ≤ (k : Int) := by omega
      by_cases hlt2 : k < B.length
      · obtain ⟨b2, o2, rfl, hb2, hcell2⟩ := H2.out (by omega)
        have hk2 := hcell2 k B[k] (by simp [hlt2])
        unfold strV at hk2
        clear hcell2 H2
        have hi2 : (k : Int) < (B.length : Int) := by omega
        by_cases h0 : cmpS A[k] B[k] = 0
        · have HS := Lib.hid (cmp_step hlt hlt2 h0)
          go_wp2_with (first | (go_at_call 165; refine (compare_any _ _ _).mono ?_; rintro e w' ⟨rfl, rfl⟩))
          exact ⟨⟨k + 1, by omega, by omega, by go_num, by show _ = _; rw [HK.out, HS.out]⟩, by simp [intOf]; omega⟩
        · have HS := Lib.hid (cmp_stop hlt hlt2 h0)
          have hne : (cmpS A[k] B[k] != 0) = true := by simpa using h0
          clear h0
          go_wp2_with (first | (go_at_call 165; refine (compare_any _ _ _).mono ?_; rintro e w' ⟨rfl, rfl⟩))
          go_ret
          exact ⟨ret_int (by rw [HK.out, HS.out]), rfl⟩
      · have HS := Lib.hid (cmpP_nilR (B := B) hlt (by omega))
        go_wp2
        go_ret
        exact ⟨ret_int (by rw [HK.out, HS.out]), rfl⟩
    · have HS := Lib.hid (cmpP_nilL (A := A) (B := B) (k := k) (by omega) hkb)
      by_cases hAB : A.length < B.length
      · rw [if_pos hAB] at HS
        go_wp2
        go_ret
        exact ⟨ret_int (by rw [HK.out, HS.out]), rfl⟩
      · rw [if_neg hAB] at HS
        go_wp2
        go_ret
        exact ⟨ret_int (by rw [HK.out, HS.out]), rfl⟩

set_option maxHeartbeats 800000 in
theorem l01Less_any (s t : ByteArray) (w : World) (hs : s.size ≤ 65536) (ht : t.size ≤ 65536) : Calls Tryz.prog 76 #[.string s, .string t] w fun e w' => e = .returned (.bool (lessP (cutAt 47 s.data.toList) (cutAt 47 t.data.toList))) ∧ Below w.heap.size w w' := by
  go_enter Tryz.func76, Tryz.ntmps76
  go_wp2_with fail
  refine (l00Cut_any s 47 47 rfl _ (by omega)).mono ?_
  rintro e w1 ⟨v1, rfl, hb1, ho1⟩
  go_wp2_with fail
  refine (l00Cut_any t 47 47 rfl _ (by omega)).mono ?_
  rintro e w2 ⟨v2, rfl, hb2, ho2⟩
  have s1 := Strs.own (own_below ho1 hb2)
  have s2 := Strs.own ho2
  have hl1 := cutAt_length_le 47 s.data.toList
  have hl2 := cutAt_length_le 47 t.data.toList
  rw [← Lib.size_eq] at hl1 hl2
  have hb12 := hb1.trans (hb2.mono hb1.size)
  clear ho1 ho2 hb1 hb2
  generalize hA0 : cutAt 47 s.data.toList = A at *
  generalize hB0 : cutAt 47 t.data.toList = B at *
  have HAB : Hid (lessP (cutAt 47 s.data.toList) (cutAt 47 t.data.toList) = lessP A B) := by show _ = _; rw [hA0, hB0]
  clear hA0 hB0
  obtain ⟨a1, c1, rfl, hc1, h1⟩ := s1
  obtain ⟨a2, c2, rfl, hc2, h2⟩ := s2
  have H1 := Lib.hid h1
  have H2 := Lib.hid h2
  clear h1 h2
  go_wp2
  go_loopw [7] (fun i wr => ∃ k n : Nat, k ≤ A.length ∧ k ≤ B.length ∧ i = .int .i64 k ∧ wr = w2.drewN n ∧ Hid (lessP A B = lessP (A.drop k) (B.drop k))) (fun i _ => A.length - (intOf i).toNat)
  case atStart => exact ⟨0, 0, by omega, by omega, rfl, rfl, rfl⟩
  case round =>
    obtain ⟨k, n, hk, hkb, rfl, rfl, HK⟩ := hrel
    by_cases hlt : k < A.length ∧ k < B.length
    · obtain ⟨hlt1, hlt2⟩ := hlt
      obtain ⟨b1, o1, rfl, hb1, hcell1⟩ := H1.out (by omega)
      obtain ⟨b2, o2, rfl, hb2, hcell2⟩ := H2.out (by omega)
      have hk1 := hcell1 k A[k] (by simp [hlt1])
      have hk2 := hcell2 k B[k] (by simp [hlt2])
      unfold strV at hk1 hk2
      clear hcell1 hcell2 H1 H2
      have hi1 : (k : Int) < (A.length : Int) := by omega
      have hi2 : (k : Int) < (B.length : Int) := by omega
      have hi0 : (0 : Int) ≤ (k : Int) := by omega
      have HD := Lib.hid (lessP_drop hlt1 hlt2)
      rcases Bool.eq_false_or_eq_true (A[k] == B[k]) with he | he
      · have HS : Hid (lessP A B = lessP (A.drop (k + 1)) (B.drop (k + 1))) := by show _ = _; rw [HK.out, HD.out, if_pos (by simpa using he)]
        go_wp2
        go_quiet (fail)
        go_wp2
        exact ⟨⟨k + 1, _, by omega, by omega, by go_num, rfl, HS⟩, by simp [intOf]; omega⟩
      · have HS : Hid (lessP A B = Op.bytesLess A[k] B[k]) := by show _ = _; rw [HK.out, HD.out, if_neg (by simpa using he)]
        go_wp2
        go_quiet (fail)
        go_wp2
        go_quiet (fail)
        go_wp2
        go_ret
        exact ⟨ret_bool (by rw [HAB.out, HS.out]), by exact ⟨hb12.os, hb12.tape, hb12.output, hb12.size, hb12.block⟩⟩
    · have HS := Lib.hid (lessP_end hlt hk hkb)
      by_cases hA : k < A.length
      · have hB : ¬ k < B.length := by omega
        go_wp2
        go_ret
        exact ⟨ret_bool (by rw [HAB.out, HK.out, HS.out]), by exact ⟨hb12.os, hb12.tape, hb12.output, hb12.size, hb12.block⟩⟩
      · go_wp2
        go_ret
        exact ⟨ret_bool (by rw [HAB.out, HK.out, HS.out]), by exact ⟨hb12.os, hb12.tape, hb12.output, hb12.size, hb12.block⟩⟩

def lessB (s t : ByteArray) : Bool := pathB s.data.toList && pathB t.data.toList && lessP (cutAt 47 s.data.toList) (cutAt 47 t.data.toList)
theorem lessB_no1 {s t : ByteArray} (h : pathB s.data.toList = false) : lessB s t = false := by unfold lessB; rw [h]; rfl
theorem lessB_no2 {s t : ByteArray} (h : pathB t.data.toList = false) : lessB s t = false := by unfold lessB; rw [h]; simp
theorem lessB_yes {s t : ByteArray} (h : pathB s.data.toList = true) (k : pathB t.data.toList = true) : lessB s t = lessP (cutAt 47 s.data.toList) (cutAt 47 t.data.toList) := by unfold lessB; rw [h, k]; rfl

set_option maxHeartbeats 800000 in
theorem pathLess_impl (s t : ByteArray) (w : World) (hs : s.size ≤ maxLen) (ht : t.size ≤ maxLen) : Calls Tryz.prog 44 #[.string s, .string t] w fun e w' => e = .returned (.bool (lessB s t)) ∧ Below w.heap.size w w' := by
  have hq := fun (w : World) (a : Option Addr) (n c n' c' : Nat) => run_neq_slice_nil_any (P := Tryz.prog) w 32 9 a n c n' c' Tryz.underlying32
  go_enter Tryz.func44, Tryz.ntmps44
  go_wp2_with fail
  refine (splitPath_any s _ hs).mono ?_
  rintro e w1 ⟨v1, rfl, hp1⟩
  go_wp2_with fail
  refine (splitPath_any t _ ht).mono ?_
  rintro e w2 ⟨v2, rfl, hp2⟩
  obtain ⟨A1, cap1, rfl, hA1⟩ := split_nil hp1
  obtain ⟨A2, cap2, rfl, hA2⟩ := split_nil hp2
  obtain ⟨hb1, ho1, _, _⟩ := hp1
  obtain ⟨hb2, ho2, _, _⟩ := hp2
  have hb12 := hb1.trans (hb2.mono hb1.size)
  rcases Bool.eq_false_or_eq_true (pathB s.data.toList) with h1 | h1
  case inr =>
    have HL := Lib.hid (lessB_no1 (t := t) h1)
    rw [h1] at hA1
    clear ho1 ho2
    go_wp2_with fail
    go_ret
    exact ⟨ret_bool HL.out.symm, hb12⟩
  rcases Bool.eq_false_or_eq_true (pathB t.data.toList) with h2 | h2
  case inr =>
    have HL := Lib.hid (lessB_no2 (s := s) h2)
    rw [h1] at hA1
    rw [h2] at hA2
    clear ho1 ho2
    go_wp2_with fail
    go_ret
    exact ⟨ret_bool HL.out.symm, hb12⟩
  have HL := Lib.hid (lessB_yes h1 h2)
  rw [h1] at hA1
  rw [h2] at hA2
  have l1 := (pathB_parts h1).1
  have l2 := (pathB_parts h2).1
  have s1 := Lib.hid (Strs.own (own_below ho1 hb2))
  have s2 := Lib.hid (Strs.own ho2)
  rw [partsOf_yes h1] at *
  rw [partsOf_yes h2] at *
  clear ho1 ho2
  go_wp2_with fail
  refine (slicesCompare_any _ _ _ _ _ s1.out s2.out (by omega) (by omega)).mono ?_
  rintro e w3 ⟨rfl, rfl⟩
  go_wp2_with fail
  go_ret
  exact ⟨ret_bool (by rw [HL.out]; exact less_cmp _ _), hb12⟩

end Go.Proofs.YtibekkfbpmloiabGreatDoor.Paths

/- Paths: IsBelow, of the program and of its model. -/
namespace Go.Proofs.YtibekkfbpmloiabGreatDoor.Paths
open Go.RowKit

theorem mk_inj {A B : List (List UInt8)} (h : (A.map fun l => (⟨l.toArray⟩ : ByteArray)) = B.map fun l => (⟨l.toArray⟩ : ByteArray)) : A = B := by
  have := congrArg (List.map (·.data.toList)) h
  simpa [Function.comp_def] using this

theorem slicesEqual_any (v1 v2 : Value) (A B : List (List UInt8)) (w : World) (h1 : Strs w v1 A) (h2 : Strs w v2 B) (hl : A.length ≤ 1000) (hl2 : B.length ≤ 1000) : Calls Tryz.prog 172 #[v1, v2] w fun e w' => e = .returned (.bool (decide (A = B))) ∧ ∃ n, w' = w.drewN n := by
  obtain ⟨a1, c1, rfl, hc1, h1⟩ := h1
  obtain ⟨a2, c2, rfl, hc2, h2⟩ := h2
  by_cases hne : A.length = B.length
  case neg =>
    refine (Tryz.slices_Equal_string_lens a1 a2 _ c1 _ c2 w hne).mono ?_
    rintro e w' ⟨rfl, rfl⟩
    exact ⟨ret_bool (by simp; intro e; exact hne (by rw [e])), 0, rfl⟩
  by_cases h0 : A.length = 0
  · have hB : B = [] := List.eq_nil_of_length_eq_zero (by omega)
    have hA : A = [] := List.eq_nil_of_length_eq_zero h0
    subst hA hB
    refine (Tryz.slices_Equal_string_empty a1 a2 c1 _ c2 w (by simp)).mono ?_
    rintro e w' ⟨rfl, rfl⟩
    exact ⟨rfl, 0, rfl⟩
  obtain ⟨b1, o1, rfl, hb1, hcell1⟩ := h1 (by omega)
  obtain ⟨b2, o2, rfl, hb2, hcell2⟩ := h2 (by omega)
  refine (Tryz.slices_Equal_string b1 o1 _ c1 b2 o2 _ c2 (A.map fun l => (⟨l.toArray⟩ : ByteArray)) (B.map fun l => (⟨l.toArray⟩ : ByteArray)) w (by simp) (by simp) (by omega) (by omega) ?_ ?_).mono ?_
  · intro j hj
    rw [List.length_map] at hj
    rw [hcell1 j A[j] (by simp [hj])]
    simp [strV, List.getD, hj]
  · intro j hj
    rw [List.length_map] at hj
    rw [hcell2 j B[j] (by simp [hj])]
    simp [strV, List.getD, hj]
  · rintro e w' ⟨rfl, n, rfl⟩
    refine ⟨ret_bool ?_, n, rfl⟩
    rw [List.take_of_length_le (by simp), List.take_of_length_le (by simp)]
    by_cases h : A = B
    · rw [h]; simp
    · rw [decide_eq_false h, decide_eq_false (fun e => h (mk_inj e))]

def isBelowB (s t : ByteArray) : Bool := pathB s.data.toList && (decide (t.size = 0) || (pathB t.data.toList && belowL s.data.toList t.data.toList))
theorem below_root {s t : ByteArray} (h : t.size = 0) : isBelowB s t = pathB s.data.toList := by unfold isBelowB; rw [decide_eq_true h]; simp
theorem below_bad {s t : ByteArray} (h : t.size ≠ 0) (k : pathB t.data.toList = false) : isBelowB s t = false := by unfold isBelowB; rw [decide_eq_false h, k]; simp
theorem below_none {s t : ByteArray} (k : pathB s.data.toList = false) : isBelowB s t = false := by unfold isBelowB; rw [k]; rfl
theorem below_two {s t : ByteArray} (h : t.size ≠ 0) (k : pathB s.data.toList = true) (m : pathB t.data.toList = true) : isBelowB s t = belowL s.data.toList t.data.toList := by
  unfold isBelowB
  rw [k, decide_eq_false h, m]
  rfl

set_option maxHeartbeats 1000000 in
theorem isBelow_impl (s t : ByteArray) (w : World) (hs : s.size ≤ maxLen) (ht : t.size ≤ maxLen) : Calls Tryz.prog 110 #[.string s, .string t] w fun e w' => e = .returned (.bool (isBelowB s t)) ∧ Below w.heap.size w w' := by
  have hq := fun (w : World) (a : Option Addr) (n c n' c' : Nat) => Lib.run_eql_slice_nil (P := Tryz.prog) w 32 9 a n c n' c' Tryz.underlying32
  by_cases h0 : t.size = 0
  · have he := isEmpty_true h0
    have hT := pathB_empty h0
    have HR := Lib.hid (below_root (s := s) h0)
    clear h0
    go_enter Tryz.func110, Tryz.ntmps110
    go_wp2_with fail
    refine (splitPath_any s _ hs).mono ?_
    rintro e w1 ⟨v1, rfl, hp1⟩
    go_wp2_with fail
    refine (splitPath_any t _ ht).mono ?_
    rintro e w2 ⟨v2, rfl, hb2, ho2, hn2, _⟩
    obtain rfl := hn2 hT
    obtain ⟨A1, cap1, rfl, hA1⟩ := split_nil hp1
    obtain ⟨hb1, ho1, _, _⟩ := hp1
    have hb12 := hb1.trans (hb2.mono hb1.size)
    rcases Bool.eq_false_or_eq_true (pathB s.data.toList) with h1 | h1
    · rw [partsOf_yes h1] at *
      have l1 := cutAt_pos 47 s.data.toList
      have l4 := (pathB_parts h1).1
      have hd : decide ((0 : Int) < ((cutAt 47 s.data.toList).length : Int)) = true := by simp; omega
      obtain ⟨g, cap, e, hcap, _, hg, _⟩ := own_slice ho1 (by omega)
      cases e
      have st := Lib.hid ((Strs.own (own_below ho1 hb2)).take (k := 0) (by omega))
      simp only [List.take_zero] at st
      have st2 : Hid (Strs w2 (.slice none 0 0) []) := ⟨none, 0, rfl, by simp, fun h => by simp at h⟩
      clear ho1 ho2 hn2
      generalize cutAt 47 s.data.toList = L at *
      go_wp2_with fail
      refine (slicesEqual_any _ _ [] [] _ st.out st2.out (by simp) (by simp)).mono ?_
      rintro e w3 ⟨rfl, n, rfl⟩
      go_wp2_with fail
      go_ret
      exact ⟨ret_bool (by rw [HR.out, h1]), below_drewN hb12 _⟩
    · rw [partsOf_no h1] at *
      clear ho1 ho2 hn2
      go_wp2_with fail
      go_ret
      exact ⟨ret_bool (by rw [HR.out, h1]), hb12⟩
  · have he := isEmpty_false (by omega : 0 < t.size)
    have H0 := Lib.hid h0
    clear h0
    go_enter Tryz.func110, Tryz.ntmps110
    go_wp2_with fail
    refine (splitPath_any s _ hs).mono ?_
    rintro e w1 ⟨v1, rfl, hp1⟩
    go_wp2_with fail
    refine (splitPath_any t _ ht).mono ?_
    rintro e w2 ⟨v2, rfl, hp2⟩
    obtain ⟨A1, cap1, rfl, hA1⟩ := split_nil hp1
    obtain ⟨A2, cap2, rfl, hA2⟩ := split_nil hp2
    obtain ⟨hb1, ho1, _, _⟩ := hp1
    obtain ⟨hb2, ho2, _, _⟩ := hp2
    have hb12 := hb1.trans (hb2.mono hb1.size)
    rcases Bool.eq_false_or_eq_true (pathB t.data.toList) with h2 | h2
    case inr =>
      have HL := Lib.hid (below_bad (s := s) H0.out h2)
      rw [h2] at hA2
      clear ho1 ho2
      go_wp2_with fail
      go_ret
      exact ⟨ret_bool HL.out.symm, hb12⟩
    rw [h2] at hA2
    rcases Bool.eq_false_or_eq_true (pathB s.data.toList) with h1 | h1
    case inr =>
      have HL := Lib.hid (below_none (t := t) h1)
      rw [partsOf_no h1] at *
      have hd : decide (((partsOf t.data.toList).length : Int) < 0) = false := by simp
      clear ho1 ho2
      go_wp2_with fail
      go_ret
      exact ⟨ret_bool HL.out.symm, hb12⟩
    have HL := Lib.hid ((below_two H0.out h1 h2).trans (below_cut _ _).symm)
    rw [partsOf_yes h1] at *
    rw [partsOf_yes h2] at *
    have l1 := (pathB_parts h1).1
    have l2 := (pathB_parts h2).1
    have l0 := cutAt_pos 47 s.data.toList
    generalize hX : cutAt 47 s.data.toList = X at *
    generalize hY : cutAt 47 t.data.toList = Y at *
    have HX := Lib.hid hX
    have HY := Lib.hid hY
    clear hX hY
    obtain ⟨g, cap, e, hcap, _, hg, _⟩ := own_slice ho1 (by omega)
    cases e
    by_cases hlt : Y.length < X.length
    · have st := Lib.hid ((Strs.own (own_below ho1 hb2)).take (k := Y.length) (by omega))
      have st2 := Lib.hid (Strs.own ho2)
      have HF : Hid (belowP X Y = decide (X.take Y.length = Y)) := by
        show _ = _
        unfold belowP
        rw [decide_eq_true hlt, Bool.true_and, Bool.eq_iff_iff]
        simp
      clear ho1 ho2
      go_wp2_with fail
      refine (slicesEqual_any _ _ _ _ _ st.out st2.out (by simp; omega) (by omega)).mono ?_
      rintro e w3 ⟨rfl, n, rfl⟩
      go_wp2_with fail
      go_ret
      exact ⟨ret_bool (by rw [HL.out, HF.out]), below_drewN hb12 _⟩
    · have HF : Hid (belowP X Y = false) := by
        show _ = _
        unfold belowP
        rw [decide_eq_false hlt]
        rfl
      clear ho1 ho2
      go_wp2_with fail
      go_ret
      exact ⟨ret_bool (by rw [HL.out, HF.out]), hb12⟩

theorem below_hit {s t : ByteArray} (hlt : t.size < s.size) (h : (s.extract 0 t.size).toList = t.toList) : ((s[t.size].toNat : Int) == 47) = belowL s.data.toList t.data.toList := by
  rw [Lib.toList_data, Lib.toList_data, extract_take] at h
  unfold belowL
  rw [← Lib.size_eq, ← Lib.size_eq, decide_eq_true hlt, h, drop_cons s t.size hlt, Bool.eq_iff_iff]
  simp only [beq_self_eq_true, Bool.and_self, Bool.true_and, List.head?_cons, beq_iff_eq, Option.some.injEq]
  constructor
  · intro e
    exact UInt8.toNat_inj.1 (by show _ = 47; omega)
  · intro e
    rw [e]
    rfl
theorem below_miss {s t : ByteArray} (h : ¬ (s.extract 0 t.size).toList = t.toList) : false = belowL s.data.toList t.data.toList := by
  rw [Lib.toList_data, Lib.toList_data, extract_take] at h
  unfold belowL
  rw [← Lib.size_eq t, beq_false_of_ne h]
  simp
theorem l01Below_two (s t : ByteArray) (w : World) (h : 0 < t.size) (_hs : s.size ≤ 65536) (_ht : t.size ≤ 65536) : Calls Tryz.prog 180 #[.string s, .string t] w fun e w' => e = .returned (.bool (belowL s.data.toList t.data.toList)) ∧ w = w' := by
  have he := isEmpty_false h
  by_cases hlt : t.size < s.size
  · have hi0 : (0 : Int) ≤ (t.size : Int) := by omega
    have hi1 : (t.size : Int) < (s.size : Int) := by omega
    go_enter Tryz.func180, Tryz.ntmps180
    go_wp2
    · have h3 : (s.extract 0 t.size).toList = t.toList := by assumption
      go_ret
      exact ⟨ret_bool (below_hit hlt h3), rfl⟩
    · have h3 : ¬ (s.extract 0 t.size).toList = t.toList := by assumption
      go_ret
      exact ⟨ret_bool (below_miss h3), rfl⟩
  · have HF : Hid (belowL s.data.toList t.data.toList = false) := by
      show _ = _
      unfold belowL
      rw [← Lib.size_eq, ← Lib.size_eq, decide_eq_false hlt]
      rfl
    go_enter Tryz.func180, Tryz.ntmps180
    go_wp2
    go_ret
    exact ⟨ret_bool HF.out.symm, rfl⟩

end Go.Proofs.YtibekkfbpmloiabGreatDoor.Paths

/- A tree as a map of paths: what the map in memory holds, and what a store, a deletion and a sweep make of it. -/
namespace Go.Proofs.YtibekkfbpmloiabGreatDoor.Recs
set_option maxRecDepth 100000
open Go.RowKit Paths Go.ChangeMaps

theorem bytes_eq {a b : ByteArray} (h : a.data.toList = b.data.toList) : a = b := by
  cases a; cases b
  simp only [Array.toList_inj] at h
  rw [h]

/-- How a node reads as an element of a map. -/
def nodD (r : R) : DataW Unit := .agg [.lit (.int .i64 r.k), .lit (.string r.p.data.toList), .lit (.string r.b.data.toList), .lit (.int .i64 r.m)]
def readN : Value → Option (DataW Unit × List MemPlace)
  | .agg cs => match cs.toList with
    | [.int .i64 k, .string p, .string b, .int .i64 m] => some (nodD ⟨k, m, p, b, false⟩, [])
    | _ => none
  | _ => none
theorem readN_nod (r : R) : readN r.nod = some (nodD r, []) := rfl
theorem readN_inv {v : Value} {y : DataW Unit × List MemPlace} (h : readN v = some y) : ∃ r : R, r.o = false ∧ v = r.nod ∧ y = (nodD r, []) := by
  unfold readN at h
  split at h
  · rename_i cs
    split at h
    · rename_i k p b m e
      cases h
      refine ⟨⟨k, m, p, b, false⟩, rfl, ?_, rfl⟩
      unfold R.nod
      rw [← Array.toArray_toList (xs := cs), e]
    · cases h
  · cases h
theorem nodD_inj {r s : R} (hr : r.o = false) (hs : s.o = false) (h : nodD r = nodD s) : r = s := by
  obtain ⟨k, m, p, b, o⟩ := r
  obtain ⟨k', m', p', b', o'⟩ := s
  simp only at hr hs
  simp only [nodD, DataW.agg.injEq, List.cons.injEq, DataW.lit.injEq, Lit.int.injEq, Lit.string.injEq, true_and, and_true] at h
  obtain ⟨h1, h2, h3, h4⟩ := h
  rw [h1, h4, bytes_eq h2, bytes_eq h3, hr, hs]

def kd (r : R) : Lit × DataW Unit := (.string r.p.data.toList, nodD r)
/-- Block b is a map whose elements are the nodes t, each under its path. -/
def MapT (w : World) (b n : Nat) (t : List R) : Prop :=
  (∃ es, w.ownsMap Tryz.prog 9 readN b n (.map es) ∧ ∀ p, p ∈ es ↔ ∃ x ∈ t, p = kd x) ∧ ∀ x ∈ t, x.o = false
theorem keyed : Maps.Keyed Tryz.prog 9 := Maps.string_keyed Tryz.underlying9
theorem MapT.made (w : World) : MapT (w.alloc (.map #[] 0)) w.heap.size 0 [] :=
  ⟨⟨[], World.ownsMap_made w _ _ _, fun p => by simp⟩, fun x hx => by cases hx⟩
theorem MapT.congr {w : World} {b n : Nat} {t t' : List R} (h : MapT w b n t) (he : ∀ x, x ∈ t' ↔ x ∈ t) : MapT w b n t' := by
  obtain ⟨⟨es, h1, h2⟩, h3⟩ := h
  exact ⟨⟨es, h1, fun p => (h2 p).trans ⟨fun ⟨x, hx, e⟩ => ⟨x, (he x).2 hx, e⟩, fun ⟨x, hx, e⟩ => ⟨x, (he x).1 hx, e⟩⟩⟩, fun x hx => h3 x ((he x).1 hx)⟩
theorem MapT.kept {w w' : World} {b n : Nat} {t : List R} {row : Option Nat} (h : MapT w b n t) (hg : w.grownBy w' row) (hne : some b ≠ row) : MapT w' b n t := by
  obtain ⟨⟨es, h1, h2⟩, h3⟩ := h
  exact ⟨⟨es, h1.kept hg hne, h2⟩, h3⟩
theorem MapT.mono {w : World} {b n n' : Nat} {t : List R} (h : MapT w b n t) (hn : n ≤ n') : MapT w b n' t := by
  obtain ⟨⟨es, h1, h2⟩, h3⟩ := h
  exact ⟨⟨es, h1.mono hn, h2⟩, h3⟩
theorem MapT.lt {w : World} {b n : Nat} {t : List R} (h : MapT w b n t) : b < w.heap.size := by
  obtain ⟨⟨es, h1, h2⟩, h3⟩ := h
  exact h1.lt
theorem below_grown {w w' : World} (h : Below w.heap.size w w') : w.grownBy w' none := ⟨h.os, h.tape, h.output, h.size, fun k hk _ => h.block k hk⟩
theorem MapT.below {w w' : World} {b n : Nat} {t : List R} (h : MapT w b n t) (hb : Below w.heap.size w w') : MapT w' b n t := h.kept (below_grown hb) (by simp)

theorem same_str {l m : List UInt8} : (Lit.string l).sameKey (.string m) = true ↔ l = m :=
  ⟨fun h => by have := WideAt.sameKey_eq h; cases this; rfl, fun h => by rw [h]; exact WideAt.sameKey_self trivial⟩
theorem kd_key {x : R} {q : ByteArray} : (kd x).1.sameKey (.string q.data.toList) = decide (x.p = q) := by
  rw [Bool.eq_iff_iff, kd, same_str, decide_eq_true_iff]
  exact ⟨bytes_eq, fun e => by rw [e]⟩
theorem MapT.put {w' : World} {b n : Nat} {es : List (Lit × DataW Unit)} {t : List R} (r : R) (hes : ∀ p, p ∈ es ↔ ∃ x ∈ t, p = kd x) (ht : ∀ x ∈ t, x.o = false) (hr : r.o = false)
    (ho : w'.ownsMap Tryz.prog 9 readN b n ((DataW.map es).put (.string r.p.data.toList) (nodD r))) : MapT w' b n (r :: t.filter fun x => decide (x.p ≠ r.p)) := by
  refine ⟨⟨_, ho, fun p => ?_⟩, fun x hx => ?_⟩
  · show p ∈ putKey _ _ es ↔ _
    unfold putKey
    rw [mem_insert_iff, List.mem_filter, hes]
    constructor
    · rintro (rfl | ⟨⟨x, hx, rfl⟩, hn⟩)
      · exact ⟨r, List.mem_cons_self, rfl⟩
      · refine ⟨x, List.mem_cons_of_mem _ (List.mem_filter.2 ⟨hx, ?_⟩), rfl⟩
        rw [notKey, kd_key] at hn
        simpa using hn
    · rintro ⟨x, hx, rfl⟩
      rcases List.mem_cons.1 hx with rfl | hx
      · exact .inl rfl
      · obtain ⟨h1, h2⟩ := List.mem_filter.1 hx
        refine .inr ⟨⟨x, h1, rfl⟩, ?_⟩
        rw [notKey, kd_key]
        simpa using h2
  · rcases List.mem_cons.1 hx with rfl | hx
    · exact hr
    · exact ht x (List.mem_filter.1 hx).1
theorem MapT.del {w' : World} {b n : Nat} {es : List (Lit × DataW Unit)} {t : List R} {q : ByteArray} (hes : ∀ p, p ∈ es ↔ ∃ x ∈ t, p = kd x) (ht : ∀ x ∈ t, x.o = false)
    (ho : w'.ownsMap Tryz.prog 9 readN b n ((DataW.map es).del (.string q.data.toList))) : MapT w' b n (t.filter fun x => decide (x.p ≠ q)) := by
  refine ⟨⟨_, ho, fun p => ?_⟩, fun x hx => ht x (List.mem_filter.1 hx).1⟩
  show p ∈ delKey _ es ↔ _
  unfold delKey
  rw [List.mem_filter, hes]
  constructor
  · rintro ⟨⟨x, hx, rfl⟩, hn⟩
    refine ⟨x, List.mem_filter.2 ⟨hx, ?_⟩, rfl⟩
    rw [notKey, kd_key] at hn
    simpa using hn
  · rintro ⟨x, hx, rfl⟩
    obtain ⟨h1, h2⟩ := List.mem_filter.1 hx
    refine ⟨⟨x, h1, rfl⟩, ?_⟩
    rw [notKey, kd_key]
    simpa using h2
/-- What a sweep asks of an entry. -/
def belowK (q : ByteArray) (kl : Lit) (_ : DataW Unit) : Bool := match kl with
  | .string l => isBelowB ⟨l.toArray⟩ q
  | _ => false
theorem belowK_kd (q : ByteArray) (x : R) : belowK q (kd x).1 (kd x).2 = isBelowB x.p q := rfl
theorem MapT.sweep {w' : World} {b n : Nat} {es : List (Lit × DataW Unit)} {t : List R} {q : ByteArray} (hes : ∀ p, p ∈ es ↔ ∃ x ∈ t, p = kd x) (ht : ∀ x ∈ t, x.o = false)
    (ho : w'.ownsMap Tryz.prog 9 readN b n (Lib.deleteFuncD (belowK q) (.map es))) : MapT w' b n (t.filter fun x => !isBelowB x.p q) := by
  refine ⟨⟨_, ho, fun p => ?_⟩, fun x hx => ht x (List.mem_filter.1 hx).1⟩
  rw [List.mem_filter, hes]
  constructor
  · rintro ⟨⟨x, hx, rfl⟩, hn⟩
    rw [belowK_kd] at hn
    exact ⟨x, List.mem_filter.2 ⟨hx, hn⟩, rfl⟩
  · rintro ⟨x, hx, rfl⟩
    obtain ⟨h1, h2⟩ := List.mem_filter.1 hx
    exact ⟨⟨x, h1, rfl⟩, by rw [belowK_kd]; exact h2⟩
end Go.Proofs.YtibekkfbpmloiabGreatDoor.Recs

/- Trees as plain lists of nodes (records of which Opaque is false): the model's check, record by record, and what it says at once. -/
namespace Go.Proofs.YtibekkfbpmloiabGreatDoor.Recs
open Go.RowKit Paths

/-- What a tree is. -/
structure Tree (t : List R) : Prop where
  len : t.length ≤ 24
  kind : ∀ r ∈ t, r.k ≠ 4
  fault : ∀ r ∈ t, r.fault = 0
  sorted : Sorted t
  housed : Housed t
theorem Tree.is {t : List R} (h : Tree t) : IsTree t := ⟨h.sorted, h.housed, fun x hx => (fault_path (h.fault x hx)).1⟩
end Go.Proofs.YtibekkfbpmloiabGreatDoor.Recs

/- What is above a path, by its parts: the paths of which the parts are the first parts of it. -/
namespace Go.Proofs.YtibekkfbpmloiabGreatDoor.Recs
open Go.RowKit Paths

theorem up_below {p : ByteArray} (h : pathB p.data.toList = true) (q : ByteArray) : q ∈ ups p ↔ belowP (cutAt 47 p.data.toList) (cutAt 47 q.data.toList) = true := by
  have hq : 0 < (cutAt 47 q.data.toList).length := by
    rcases Nat.eq_zero_or_pos (cutAt 47 q.data.toList).length with h0 | h0
    · exact absurd (List.eq_nil_of_length_eq_zero h0) (cutAt_ne 47 _)
    · exact h0
  refine path_ind (P := fun p => q ∈ ups p ↔ belowP (cutAt 47 p.data.toList) (cutAt 47 q.data.toList) = true) ?_ ?_ p h
  · intro p hp hn
    rw [ups_step hp, if_pos hn]
    rcases parent_cases hp with ⟨_, h2, _⟩ | ⟨_, _, h3, _⟩
    · rw [h2]
      unfold belowP
      constructor
      · intro hm; cases hm
      · intro hm
        simp only [Bool.and_eq_true, decide_eq_true_eq, List.length_singleton] at hm
        omega
    · exact absurd hn h3
  · intro p hp hn h1 ih
    rw [ups_step hp, if_neg hn]
    rcases parent_cases hp with ⟨h2, _⟩ | ⟨_, h2, _, _, _⟩
    · exact absurd h2 hn
    · have e := cut_parent p.data.toList
      rw [← h2] at e
      have ih' := ih
      rw [parO_data] at ih'
      generalize hA : cutAt 47 (parentL p.data.toList) = A at e ih'
      generalize hB : cutAt 47 q.data.toList = B at ih' hq ⊢
      rw [e]
      rw [List.mem_cons, ih']
      unfold belowP
      simp only [Bool.and_eq_true, decide_eq_true_eq, beq_iff_eq, List.length_append, List.length_singleton]
      constructor
      · rintro (rfl | ⟨h3, h4⟩)
        · rw [parO_data, hA] at hB
          subst hB
          exact ⟨by omega, by simp⟩
        · refine ⟨by omega, ?_⟩
          rw [List.take_append_of_le_length (by omega)]
          exact h4
      · rintro ⟨h3, h4⟩
        rcases Nat.lt_or_ge B.length A.length with h5 | h5
        · rw [List.take_append_of_le_length (by omega)] at h4
          exact .inr ⟨h5, h4⟩
        · left
          have h6 : B.length = A.length := by omega
          rw [h6, List.take_left'  rfl] at h4
          apply bytes_cut
          rw [parO_data, hA, hB, h4]
/-- The same by the strings' own function. -/
theorem isUp_below {p q : ByteArray} (h : pathB p.data.toList = true) : isUp q p = belowL p.data.toList q.data.toList := by
  rw [Bool.eq_iff_iff, isUp_iff, up_below h, below_cut]
end Go.Proofs.YtibekkfbpmloiabGreatDoor.Recs

/- Resolving a path in a tree, part by part, and what comes out at once. -/
namespace Go.Proofs.YtibekkfbpmloiabGreatDoor.Recs
open Go.RowKit Paths

/-- The first i + 1 parts of a path. -/
def pre (q : ByteArray) (i : Nat) : ByteArray := ⟨(Lib.join ((cutAt 47 q.data.toList).take (i + 1)) [47]).toArray⟩
theorem dir_up {t : List R} (ht : IsTree t) {q : ByteArray} {r : R} (hr : recAt t q = some r) {a : ByteArray} (ha : a ∈ ups q) : ∃ x, recAt t a = some x ∧ x.k = 3 := by
  obtain ⟨hm, rfl⟩ := recAt_mem hr
  obtain ⟨n, hn, rfl, hk⟩ := housed_ups ht.housed (ht.path r hm) r hm rfl a ha
  exact ⟨n, recAt_of ht.sorted hn, hk⟩
end Go.Proofs.YtibekkfbpmloiabGreatDoor.Recs
