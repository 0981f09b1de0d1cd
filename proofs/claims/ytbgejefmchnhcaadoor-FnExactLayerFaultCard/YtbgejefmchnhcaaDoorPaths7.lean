/- Paths: PathLess and IsBelow, of the program and of its model. -/
import Derived.Test.YtbgejefmchnhcaaDoorPaths6
import Derived.WalkLawsBesides
namespace Go.Proofs.YtbgejefmchnhcaaDoor.Paths
open Go.RowKit

def cmpS (x y : List UInt8) : Int := if Op.bytesLess x y then -1 else if x = y then 0 else 1

theorem isNaN_any (x : List UInt8) (w : World) : Calls Tryd.prog 90 #[.string ⟨x.toArray⟩] w fun e w' => e = .returned (.bool false) ∧ w = w' := by
  go_enter Tryd.func90, Tryd.ntmps90
  go_wp2
  go_ret
  exact ⟨rfl, rfl⟩

theorem compare_any (x y : List UInt8) (w : World) : Calls Tryd.prog 86 #[.string ⟨x.toArray⟩, .string ⟨y.toArray⟩] w fun e w' => e = .returned (.int .i64 (cmpS x y)) ∧ w = w' := by
  rcases Bool.eq_false_or_eq_true (Op.bytesLess x y) with h | h
  · have HC : Hid (cmpS x y = -1) := by show _ = _; unfold cmpS; rw [h]; rfl
    go_enter Tryd.func86, Tryd.ntmps86
    go_wp2_with (first | (go_at_call 90; refine (isNaN_any _ _).mono ?_; rintro e w' ⟨rfl, rfl⟩))
    go_ret
    exact ⟨ret_int HC.out.symm, rfl⟩
  · rcases Bool.eq_false_or_eq_true (x == y) with he | he
    · have HC : Hid (cmpS x y = 0) := by show _ = _; unfold cmpS; simp [h]; simpa using he
      go_enter Tryd.func86, Tryd.ntmps86
      go_wp2_with (first | (go_at_call 90; refine (isNaN_any _ _).mono ?_; rintro e w' ⟨rfl, rfl⟩))
      go_ret
      exact ⟨ret_int HC.out.symm, rfl⟩
    · have HC : Hid (cmpS x y = 1) := by show _ = _; unfold cmpS; simp [h]; simpa using he
      go_enter Tryd.func86, Tryd.ntmps86
      go_wp2_with (first | (go_at_call 90; refine (isNaN_any _ _).mono ?_; rintro e w' ⟨rfl, rfl⟩))
      go_ret
      exact ⟨ret_int HC.out.symm, rfl⟩

theorem cmp_step {A B : List (List UInt8)} {k : Nat} (ha : k < A.length) (hb : k < B.length) (h : cmpS A[k] B[k] = 0) : cmpP (A.drop k) (B.drop k) = cmpP (A.drop (k + 1)) (B.drop (k + 1)) := by
  rw [cmpP_drop ha hb]
  unfold cmpS at h
  split at h
  · cases h
  · rename_i hn
    split at h
    · rename_i he
      rw [if_neg hn, if_pos he]
    · cases h
theorem cmp_stop {A B : List (List UInt8)} {k : Nat} (ha : k < A.length) (hb : k < B.length) (h : cmpS A[k] B[k] ≠ 0) : cmpP (A.drop k) (B.drop k) = cmpS A[k] B[k] := by
  rw [cmpP_drop ha hb]
  unfold cmpS at h ⊢
  split
  · rfl
  · rename_i hn
    split
    · rename_i he
      rw [if_neg hn, if_pos he] at h
      exact absurd rfl h
    · rfl

set_option maxHeartbeats 400000 in
theorem slicesCompare_any (v1 v2 : Value) (A B : List (List UInt8)) (w : World) (h1 : Strs w v1 A) (h2 : Strs w v2 B) (hl : A.length ≤ 1000) (hl2 : B.length ≤ 1000) : Calls Tryd.prog 83 #[v1, v2] w fun e w' => e = .returned (.int .i64 (cmpP A B)) ∧ w = w' := by
  obtain ⟨a1, c1, rfl, hc1, h1⟩ := h1
  obtain ⟨a2, c2, rfl, hc2, h2⟩ := h2
  have H1 := Lib.hid h1
  have H2 := Lib.hid h2
  clear h1 h2
  go_enter Tryd.func83, Tryd.ntmps83
  go_wp2
  go_loop [11] (fun i => ∃ k : Nat, k ≤ A.length ∧ k ≤ B.length ∧ i = .int .i64 k ∧ Hid (cmpP A B = cmpP (A.drop k) (B.drop k))) (fun i => A.length - (intOf i).toNat)
  case atStart => exact ⟨0, by omega, by omega, rfl, rfl⟩
  case round =>
    obtain ⟨k, hk, hkb, rfl, HK⟩ := hrel
    by_cases hlt : k < A.length
    · obtain ⟨b1, o1, rfl, hb1, hcell1⟩ := H1.out (by omega)
      have hk1 := hcell1 k A[k] (by simp [hlt])
      unfold strV at hk1
      clear hcell1 H1
      have hi1 : (k : Int) < (A.length : Int) := by omega
      have hi0 : (0 : Int) ≤ (k : Int) := by omega
      by_cases hlt2 : k < B.length
      · obtain ⟨b2, o2, rfl, hb2, hcell2⟩ := H2.out (by omega)
        have hk2 := hcell2 k B[k] (by simp [hlt2])
        unfold strV at hk2
        clear hcell2 H2
        have hi2 : (k : Int) < (B.length : Int) := by omega
        by_cases h0 : cmpS A[k] B[k] = 0
        · have HS := Lib.hid (cmp_step hlt hlt2 h0)
          go_wp2_with (first | (go_at_call 86; refine (compare_any _ _ _).mono ?_; rintro e w' ⟨rfl, rfl⟩))
          exact ⟨⟨k + 1, by omega, by omega, by go_num, by show _ = _; rw [HK.out, HS.out]⟩, by simp [intOf]; omega⟩
        · have HS := Lib.hid (cmp_stop hlt hlt2 h0)
          have hne : (cmpS A[k] B[k] != 0) = true := by simpa using h0
          clear h0
          go_wp2_with (first | (go_at_call 86; refine (compare_any _ _ _).mono ?_; rintro e w' ⟨rfl, rfl⟩))
          go_ret
          exact ⟨ret_int (by rw [HK.out, HS.out]), rfl⟩
      · have HS := Lib.hid (cmpP_nilR (B := B) hlt (by omega))
        go_wp2
        go_ret
        exact ⟨ret_int (by rw [HK.out, HS.out]), rfl⟩
    · have HS := Lib.hid (cmpP_nilL (A := A) (B := B) (k := k) (by omega) hkb)
      by_cases hAB : A.length < B.length
      · rw [if_pos hAB] at HS
        go_wp2
        go_ret
        exact ⟨ret_int (by rw [HK.out, HS.out]), rfl⟩
      · rw [if_neg hAB] at HS
        go_wp2
        go_ret
        exact ⟨ret_int (by rw [HK.out, HS.out]), rfl⟩

set_option maxHeartbeats 800000 in
theorem l01Less_any (s t : ByteArray) (w : World) (hs : s.size ≤ 65536) (ht : t.size ≤ 65536) : Calls Tryd.prog 50 #[.string s, .string t] w fun e w' => e = .returned (.bool (lessP (cutAt 47 s.data.toList) (cutAt 47 t.data.toList))) ∧ Below w.heap.size w w' := by
  go_enter Tryd.func50, Tryd.ntmps50
  go_wp2_with fail
  refine (l00Cut_any s 47 47 rfl _ (by omega)).mono ?_
  rintro e w1 ⟨v1, rfl, hb1, ho1⟩
  go_wp2_with fail
  refine (l00Cut_any t 47 47 rfl _ (by omega)).mono ?_
  rintro e w2 ⟨v2, rfl, hb2, ho2⟩
  have s1 := Strs.own (own_below ho1 hb2)
  have s2 := Strs.own ho2
  have hl1 := cutAt_length_le 47 s.data.toList
  have hl2 := cutAt_length_le 47 t.data.toList
  rw [← Lib.size_eq] at hl1 hl2
  have hb12 := hb1.trans (hb2.mono hb1.size)
  clear ho1 ho2 hb1 hb2
  generalize hA0 : cutAt 47 s.data.toList = A at *
  generalize hB0 : cutAt 47 t.data.toList = B at *
  have HAB : Hid (lessP (cutAt 47 s.data.toList) (cutAt 47 t.data.toList) = lessP A B) := by show _ = _; rw [hA0, hB0]
  clear hA0 hB0
  obtain ⟨a1, c1, rfl, hc1, h1⟩ := s1
  obtain ⟨a2, c2, rfl, hc2, h2⟩ := s2
  have H1 := Lib.hid h1
  have H2 := Lib.hid h2
  clear h1 h2
  go_wp2
  go_loopw [7] (fun i wr => ∃ k n : Nat, k ≤ A.length ∧ k ≤ B.length ∧ i = .int .i64 k ∧ wr = w2.drewN n ∧ Hid (lessP A B = lessP (A.drop k) (B.drop k))) (fun i _ => A.length - (intOf i).toNat)
  case atStart => exact ⟨0, 0, by omega, by omega, rfl, rfl, rfl⟩
  case round =>
    obtain ⟨k, n, hk, hkb, rfl, rfl, HK⟩ := hrel
    by_cases hlt : k < A.length ∧ k < B.length
    · obtain ⟨hlt1, hlt2⟩ := hlt
      obtain ⟨b1, o1, rfl, hb1, hcell1⟩ := H1.out (by omega)
      obtain ⟨b2, o2, rfl, hb2, hcell2⟩ := H2.out (by omega)
      have hk1 := hcell1 k A[k] (by simp [hlt1])
      have hk2 := hcell2 k B[k] (by simp [hlt2])
      unfold strV at hk1 hk2
      clear hcell1 hcell2 H1 H2
      have hi1 : (k : Int) < (A.length : Int) := by omega
      have hi2 : (k : Int) < (B.length : Int) := by omega
      have hi0 : (0 : Int) ≤ (k : Int) := by omega
      have HD := Lib.hid (lessP_drop hlt1 hlt2)
      rcases Bool.eq_false_or_eq_true (A[k] == B[k]) with he | he
      · have HS : Hid (lessP A B = lessP (A.drop (k + 1)) (B.drop (k + 1))) := by show _ = _; rw [HK.out, HD.out, if_pos (by simpa using he)]
        go_wp2
        go_quiet (fail)
        go_wp2
        exact ⟨⟨k + 1, _, by omega, by omega, by go_num, rfl, HS⟩, by simp [intOf]; omega⟩
      · have HS : Hid (lessP A B = Op.bytesLess A[k] B[k]) := by show _ = _; rw [HK.out, HD.out, if_neg (by simpa using he)]
        go_wp2
        go_quiet (fail)
        go_wp2
        go_quiet (fail)
        go_wp2
        go_ret
        exact ⟨ret_bool (by rw [HAB.out, HS.out]), by exact ⟨hb12.os, hb12.tape, hb12.output, hb12.size, hb12.block⟩⟩
    · have HS := Lib.hid (lessP_end hlt hk hkb)
      by_cases hA : k < A.length
      · have hB : ¬ k < B.length := by omega
        go_wp2
        go_ret
        exact ⟨ret_bool (by rw [HAB.out, HK.out, HS.out]), by exact ⟨hb12.os, hb12.tape, hb12.output, hb12.size, hb12.block⟩⟩
      · go_wp2
        go_ret
        exact ⟨ret_bool (by rw [HAB.out, HK.out, HS.out]), by exact ⟨hb12.os, hb12.tape, hb12.output, hb12.size, hb12.block⟩⟩

def lessB (s t : ByteArray) : Bool := pathB s.data.toList && pathB t.data.toList && lessP (cutAt 47 s.data.toList) (cutAt 47 t.data.toList)
theorem lessB_no1 {s t : ByteArray} (h : pathB s.data.toList = false) : lessB s t = false := by unfold lessB; rw [h]; rfl
theorem lessB_no2 {s t : ByteArray} (h : pathB t.data.toList = false) : lessB s t = false := by unfold lessB; rw [h]; simp
theorem lessB_yes {s t : ByteArray} (h : pathB s.data.toList = true) (k : pathB t.data.toList = true) : lessB s t = lessP (cutAt 47 s.data.toList) (cutAt 47 t.data.toList) := by unfold lessB; rw [h, k]; rfl

set_option maxHeartbeats 800000 in
theorem pathLess_impl (s t : ByteArray) (w : World) (hs : s.size ≤ maxLen) (ht : t.size ≤ maxLen) : Calls Tryd.prog 78 #[.string s, .string t] w fun e w' => e = .returned (.bool (lessB s t)) ∧ Below w.heap.size w w' := by
  have hq := fun (w : World) (a : Option Addr) (n c n' c' : Nat) => run_neq_slice_nil_any (P := Tryd.prog) w 81 9 a n c n' c' Tryd.underlying81
  go_enter Tryd.func78, Tryd.ntmps78
  go_wp2_with fail
  refine (splitPath_any s _ hs).mono ?_
  rintro e w1 ⟨v1, rfl, hp1⟩
  go_wp2_with fail
  refine (splitPath_any t _ ht).mono ?_
  rintro e w2 ⟨v2, rfl, hp2⟩
  obtain ⟨A1, cap1, rfl, hA1⟩ := split_nil hp1
  obtain ⟨A2, cap2, rfl, hA2⟩ := split_nil hp2
  obtain ⟨hb1, ho1, _, _⟩ := hp1
  obtain ⟨hb2, ho2, _, _⟩ := hp2
  have hb12 := hb1.trans (hb2.mono hb1.size)
  rcases Bool.eq_false_or_eq_true (pathB s.data.toList) with h1 | h1
  case inr =>
    have HL := Lib.hid (lessB_no1 (t := t) h1)
    rw [h1] at hA1
    clear ho1 ho2
    go_wp2_with fail
    go_ret
    exact ⟨ret_bool HL.out.symm, hb12⟩
  rcases Bool.eq_false_or_eq_true (pathB t.data.toList) with h2 | h2
  case inr =>
    have HL := Lib.hid (lessB_no2 (s := s) h2)
    rw [h1] at hA1
    rw [h2] at hA2
    clear ho1 ho2
    go_wp2_with fail
    go_ret
    exact ⟨ret_bool HL.out.symm, hb12⟩
  have HL := Lib.hid (lessB_yes h1 h2)
  rw [h1] at hA1
  rw [h2] at hA2
  have l1 := (pathB_parts h1).1
  have l2 := (pathB_parts h2).1
  have s1 := Lib.hid (Strs.own (own_below ho1 hb2))
  have s2 := Lib.hid (Strs.own ho2)
  rw [partsOf_yes h1] at *
  rw [partsOf_yes h2] at *
  clear ho1 ho2
  go_wp2_with fail
  refine (slicesCompare_any _ _ _ _ _ s1.out s2.out (by omega) (by omega)).mono ?_
  rintro e w3 ⟨rfl, rfl⟩
  go_wp2_with fail
  go_ret
  exact ⟨ret_bool (by rw [HL.out]; exact less_cmp _ _), hb12⟩

end Go.Proofs.YtbgejefmchnhcaaDoor.Paths
