/- Parts of several texts of mine in one file (each begins with its own remark). -/
import Derived.Test.YtibekkfbpmloiabGreatDoorGA1
import Derived.Test.YtibekkfbpmloiabGreatDoorGA11
import Derived.Test.YtibekkfbpmloiabGreatDoorGA2
import Derived.Test.YtibekkfbpmloiabGreatDoorGA3
import Derived.Test.YtibekkfbpmloiabGreatDoorGA4
import Derived.Test.YtibekkfbpmloiabGreatDoorGA8
import Derived.Test.YtibekkfbpmloiabGreatDoorGA9
import Derived.Test.YtibekkfbpmloiabGreatDoorShelf
import Derived.Test.YtibekkfbpmloiabGreatDoorChecked
import Derived.WalkLawsBesides
import Derived.BigQuiet
import Derived.Laws.BytesArg
import Derived.Deep.QuietTactic
import Derived.Deep.RegionHeld3
import Derived.Deep.Draws
import Derived.Deep.LoopGhost
import Derived.WalkKit
import Derived.WalkSpells
import Derived.WalkSmall
import Derived.Lib.OthersKept
import Derived.Lib.Hide
import Derived.Lib.Strings
import Derived.Lib.Join
import Derived.StillTailTactics
import Derived.Laws.OwnMore
import Derived.BigRegion
import Derived.Deep.Slices
import Derived.OpenShut
import Derived.ShutString
import Derived.ChangeArms
import Derived.WideShapes
import Derived.Lib.LaidTab
/- Paths: PathLess and IsBelow, of the program and of its model. -/
namespace Go.Proofs.YtibekkfbpmloiabGreatDoor.Paths
open Go.RowKit

def cmpS (x y : List UInt8) : Int := if Op.bytesLess x y then -1 else if x = y then 0 else 1

theorem isNaN_any (x : List UInt8) (w : World) : Calls Tryz.prog 206 #[.string ⟨x.toArray⟩] w fun e w' => e = .returned (.bool false) ∧ w = w' := by
  go_enter Tryz.func206, Tryz.ntmps206
  go_wp2
  go_ret
  exact ⟨rfl, rfl⟩

theorem compare_any (x y : List UInt8) (w : World) : Calls Tryz.prog 165 #[.string ⟨x.toArray⟩, .string ⟨y.toArray⟩] w fun e w' => e = .returned (.int .i64 (cmpS x y)) ∧ w = w' := by
  rcases Bool.eq_false_or_eq_true (Op.bytesLess x y) with h | h
  · have HC : Hid (cmpS x y = -1) := by show _ = _; unfold cmpS; rw [h]; rfl
    go_enter Tryz.func165, Tryz.ntmps165
    go_wp2_with (first | (go_at_call 206; refine (isNaN_any _ _).mono ?_; rintro e w' ⟨rfl, rfl⟩))
    go_ret
    exact ⟨ret_int HC.out.symm, rfl⟩
  · rcases Bool.eq_false_or_eq_true (x == y) with he | he
    · have HC : Hid (cmpS x y = 0) := by show _ = _; unfold cmpS; simp [h]; simpa using he
      go_enter Tryz.func165, Tryz.ntmps165
      go_wp2_with (first | (go_at_call 206; refine (isNaN_any _ _).mono ?_; rintro e w' ⟨rfl, rfl⟩))
      go_ret
      exact ⟨ret_int HC.out.symm, rfl⟩
    · have HC : Hid (cmpS x y = 1) := by show _ = _; unfold cmpS; simp [h]; simpa using he
      go_enter Tryz.func165, Tryz.ntmps165
      go_wp2_with (first | (go_at_call 206; refine (isNaN_any _ _).mono ?_; rintro e w' ⟨rfl, rfl⟩))
      go_ret
      exact ⟨ret_int HC.out.symm, rfl⟩

theorem cmp_step {A B : List (List UInt8)} {k : Nat} (ha : k < A.length) (hb : k < B.length) (h : cmpS A[k] B[k] = 0) : cmpP (A.drop k) (B.drop k) = cmpP (A.drop (k + 1)) (B.drop (k + 1)) := by
  rw [cmpP_drop ha hb]
  unfold cmpS at h
  split at h
  · cases h
  · rename_i hn
    split at h
    · rename_i he
      rw [if_neg hn, if_pos he]
    · cases h
theorem cmp_stop {A B : List (List UInt8)} {k : Nat} (ha : k < A.length) (hb : k < B.length) (h : cmpS A[k] B[k] ≠ 0) : cmpP (A.drop k) (B.drop k) = cmpS A[k] B[k] := by
  rw [cmpP_drop ha hb]
  unfold cmpS at h ⊢
  split
  · rfl
  · rename_i hn
    split
    · rename_i he
      rw [if_neg hn, if_pos he] at h
      exact absurd rfl h
    · rfl

set_option maxHeartbeats 400000 in
theorem slicesCompare_any (v1 v2 : Value) (A B : List (List UInt8)) (w : World) (h1 : Strs w v1 A) (h2 : Strs w v2 B) (hl : A.length ≤ 1000) (hl2 : B.length ≤ 1000) : Calls Tryz.prog 101 #[v1, v2] w fun e w' => e = .returned (.int .i64 (cmpP A B)) ∧ w = w' := by
  obtain ⟨a1, c1, rfl, hc1, h1⟩ := h1
  obtain ⟨a2, c2, rfl, hc2, h2⟩ := h2
  have H1 := Lib.hid h1
  have H2 := Lib.hid h2
  clear h1 h2
  go_enter Tryz.func101, Tryz.ntmps101
  go_wp2
  go_loop [11] (fun i => ∃ k : Nat, k ≤ A.length ∧ k ≤ B.length ∧ i = .int .i64 k ∧ Hid (cmpP A B = cmpP (A.drop k) (B.drop k))) (fun i => A.length - (intOf i).toNat)
  case atStart => exact ⟨0, by omega, by omega, rfl, rfl⟩
  case round =>
    obtain ⟨k, hk, hkb, rfl, HK⟩ := hrel
    by_cases hlt : k < A.length
    · obtain ⟨b1, o1, rfl, hb1, hcell1⟩ := H1.out (by omega)
      have hk1 := hcell1 k A[k] (by simp [hlt])
      unfold strV at hk1
      clear hcell1 H1
      have hi1 : (k : Int) < (A.length : Int) := by omega
      have hi0 : (0 : Int) ≤ (k : Int) := by omega
      by_cases hlt2 : k < B.length
      · obtain ⟨b2, o2, rfl, hb2, hcell2⟩ := H2.out (by omega)
        have hk2 := hcell2 k B[k] (by simp [hlt2])
        unfold strV at hk2
        clear hcell2 H2
        have hi2 : (k : Int) < (B.length : Int) := by omega
        by_cases h0 : cmpS A[k] B[k] = 0
        · have HS := Lib.hid (cmp_step hlt hlt2 h0)
          go_wp2_with (first | (go_at_call 165; refine (compare_any _ _ _).mono ?_; rintro e w' ⟨rfl, rfl⟩))
          exact ⟨⟨k + 1, by omega, by omega, by go_num, by show _ = _; rw [HK.out, HS.out]⟩, by simp [intOf]; omega⟩
        · have HS := Lib.hid (cmp_stop hlt hlt2 h0)
          have hne : (cmpS A[k] B[k] != 0) = true := by simpa using h0
          clear h0
          go_wp2_with (first | (go_at_call 165; refine (compare_any _ _ _).mono ?_; rintro e w' ⟨rfl, rfl⟩))
          go_ret
          exact ⟨ret_int (by rw [HK.out, HS.out]), rfl⟩
      · have HS := Lib.hid (cmpP_nilR (B := B) hlt (by omega))
        go_wp2
        go_ret
        exact ⟨ret_int (by rw [HK.out, HS.out]), rfl⟩
    · have HS := Lib.hid (cmpP_nilL (A := A) (B := B) (k := k) (by omega) hkb)
      by_cases hAB : A.length < B.length
      · rw [if_pos hAB] at HS
        go_wp2
        go_ret
        exact ⟨ret_int (by rw [HK.out, HS.out]), rfl⟩
      · rw [if_neg hAB] at HS
        go_wp2
        go_ret
        exact ⟨ret_int (by rw [HK.out, HS.out]), rfl⟩

set_option maxHeartbeats 800000 in
theorem l01Less_any (s t : ByteArray) (w : World) (hs : s.size ≤ 65536) (ht : t.size ≤ 65536) : Calls Tryz.prog 76 #[.string s, .string t] w fun e w' => e = .returned (.bool (lessP (cutAt 47 s.data.toList) (cutAt 47 t.data.toList))) ∧ Below w.heap.size w w' := by
  go_enter Tryz.func76, Tryz.ntmps76
  go_wp2_with fail
  refine (l00Cut_any s 47 47 rfl _ (by omega)).mono ?_
  rintro e w1 ⟨v1, rfl, hb1, ho1⟩
  go_wp2_with fail
  refine (l00Cut_any t 47 47 rfl _ (by omega)).mono ?_
  rintro e w2 ⟨v2, rfl, hb2, ho2⟩
  have s1 := Strs.own (own_below ho1 hb2)
  have s2 := Strs.own ho2
  have hl1 := cutAt_length_le 47 s.data.toList
  have hl2 := cutAt_length_le 47 t.data.toList
  rw [← Lib.size_eq] at hl1 hl2
  have hb12 := hb1.trans (hb2.mono hb1.size)
  clear ho1 ho2 hb1 hb2
  generalize hA0 : cutAt 47 s.data.toList = A at *
  generalize hB0 : cutAt 47 t.data.toList = B at *
  have HAB : Hid (lessP (cutAt 47 s.data.toList) (cutAt 47 t.data.toList) = lessP A B) := by show _ = _; rw [hA0, hB0]
  clear hA0 hB0
  obtain ⟨a1, c1, rfl, hc1, h1⟩ := s1
  obtain ⟨a2, c2, rfl, hc2, h2⟩ := s2
  have H1 := Lib.hid h1
  have H2 := Lib.hid h2
  clear h1 h2
  go_wp2
  go_loopw [7] (fun i wr => ∃ k n : Nat, k ≤ A.length ∧ k ≤ B.length ∧ i = .int .i64 k ∧ wr = w2.drewN n ∧ Hid (lessP A B = lessP (A.drop k) (B.drop k))) (fun i _ => A.length - (intOf i).toNat)
  case atStart => exact ⟨0, 0, by omega, by omega, rfl, rfl, rfl⟩
  case round =>
    obtain ⟨k, n, hk, hkb, rfl, rfl, HK⟩ := hrel
    by_cases hlt : k < A.length ∧ k < B.length
    · obtain ⟨hlt1, hlt2⟩ := hlt
      obtain ⟨b1, o1, rfl, hb1, hcell1⟩ := H1.out (by omega)
      obtain ⟨b2, o2, rfl, hb2, hcell2⟩ := H2.out (by omega)
      have hk1 := hcell1 k A[k] (by simp [hlt1])
      have hk2 := hcell2 k B[k] (by simp [hlt2])
      unfold strV at hk1 hk2
      clear hcell1 hcell2 H1 H2
      have hi1 : (k : Int) < (A.length : Int) := by omega
      have hi2 : (k : Int) < (B.length : Int) := by omega
      have hi0 : (0 : Int) ≤ (k : Int) := by omega
      have HD := Lib.hid (lessP_drop hlt1 hlt2)
      rcases Bool.eq_false_or_eq_true (A[k] == B[k]) with he | he
      · have HS : Hid (lessP A B = lessP (A.drop (k + 1)) (B.drop (k + 1))) := by show _ = _; rw [HK.out, HD.out, if_pos (by simpa using he)]
        go_wp2
        go_quiet (fail)
        go_wp2
        exact ⟨⟨k + 1, _, by omega, by omega, by go_num, rfl, HS⟩, by simp [intOf]; omega⟩
      · have HS : Hid (lessP A B = Op.bytesLess A[k] B[k]) := by show _ = _; rw [HK.out, HD.out, if_neg (by simpa using he)]
        go_wp2
        go_quiet (fail)
        go_wp2
        go_quiet (fail)
        go_wp2
        go_ret
        exact ⟨ret_bool (by rw [HAB.out, HS.out]), by exact ⟨hb12.os, hb12.tape, hb12.output, hb12.size, hb12.block⟩⟩
    · have HS := Lib.hid (lessP_end hlt hk hkb)
      by_cases hA : k < A.length
      · have hB : ¬ k < B.length := by omega
        go_wp2
        go_ret
        exact ⟨ret_bool (by rw [HAB.out, HK.out, HS.out]), by exact ⟨hb12.os, hb12.tape, hb12.output, hb12.size, hb12.block⟩⟩
      · go_wp2
        go_ret
        exact ⟨ret_bool (by rw [HAB.out, HK.out, HS.out]), by exact ⟨hb12.os, hb12.tape, hb12.output, hb12.size, hb12.block⟩⟩

def lessB (s t : ByteArray) : Bool := pathB s.data.toList && pathB t.data.toList && lessP (cutAt 47 s.data.toList) (cutAt 47 t.data.toList)
theorem lessB_no1 {s t : ByteArray} (h : pathB s.data.toList = false) : lessB s t = false := by unfold lessB; rw [h]; rfl
theorem lessB_no2 {s t : ByteArray} (h : pathB t.data.toList = false) : lessB s t = false := by unfold lessB; rw [h]; simp
theorem lessB_yes {s t : ByteArray} (h : pathB s.data.toList = true) (k : pathB t.data.toList = true) : lessB s t = lessP (cutAt 47 s.data.toList) (cutAt 47 t.data.toList) := by unfold lessB; rw [h, k]; rfl

set_option maxHeartbeats 800000 in
theorem pathLess_impl (s t : ByteArray) (w : World) (hs : s.size ≤ maxLen) (ht : t.size ≤ maxLen) : Calls Tryz.prog 44 #[.string s, .string t] w fun e w' => e = .returned (.bool (lessB s t)) ∧ Below w.heap.size w w' := by
  have hq := fun (w : World) (a : Option Addr) (n c n' c' : Nat) => run_neq_slice_nil_any (P := Tryz.prog) w 32 9 a n c n' c' Tryz.underlying32
  go_enter Tryz.func44, Tryz.ntmps44
  go_wp2_with fail
  refine (splitPath_any s _ hs).mono ?_
  rintro e w1 ⟨v1, rfl, hp1⟩
  go_wp2_with fail
  refine (splitPath_any t _ ht).mono ?_
  rintro e w2 ⟨v2, rfl, hp2⟩
  obtain ⟨A1, cap1, rfl, hA1⟩ := split_nil hp1
  obtain ⟨A2, cap2, rfl, hA2⟩ := split_nil hp2
  obtain ⟨hb1, ho1, _, _⟩ := hp1
  obtain ⟨hb2, ho2, _, _⟩ := hp2
  have hb12 := hb1.trans (hb2.mono hb1.size)
  rcases Bool.eq_false_or_eq_true (pathB s.data.toList) with h1 | h1
  case inr =>
    have HL := Lib.hid (lessB_no1 (t := t) h1)
    rw [h1] at hA1
    clear ho1 ho2
    go_wp2_with fail
    go_ret
    exact ⟨ret_bool HL.out.symm, hb12⟩
  rcases Bool.eq_false_or_eq_true (pathB t.data.toList) with h2 | h2
  case inr =>
    have HL := Lib.hid (lessB_no2 (s := s) h2)
    rw [h1] at hA1
    rw [h2] at hA2
    clear ho1 ho2
    go_wp2_with fail
    go_ret
    exact ⟨ret_bool HL.out.symm, hb12⟩
  have HL := Lib.hid (lessB_yes h1 h2)
  rw [h1] at hA1
  rw [h2] at hA2
  have l1 := (pathB_parts h1).1
  have l2 := (pathB_parts h2).1
  have s1 := Lib.hid (Strs.own (own_below ho1 hb2))
  have s2 := Lib.hid (Strs.own ho2)
  rw [partsOf_yes h1] at *
  rw [partsOf_yes h2] at *
  clear ho1 ho2
  go_wp2_with fail
  refine (slicesCompare_any _ _ _ _ _ s1.out s2.out (by omega) (by omega)).mono ?_
  rintro e w3 ⟨rfl, rfl⟩
  go_wp2_with fail
  go_ret
  exact ⟨ret_bool (by rw [HL.out]; exact less_cmp _ _), hb12⟩

end Go.Proofs.YtibekkfbpmloiabGreatDoor.Paths

/- Layers: the first fault of one, of the model. -/
namespace Go.Proofs.YtibekkfbpmloiabGreatDoor.Recs
set_option maxRecDepth 100000
open Go.RowKit Paths

theorem beforeL_pos {l : List R} {k : Nat} (h : k + 1 < l.length) : beforeL l (k + 1) = some (l[k]'(by omega)) := by
  unfold beforeL
  rw [if_neg (by omega), Nat.add_sub_cancel, List.getElem?_eq_getElem]
theorem code_many {l : List R} {r : R} : codeAt l 16 r = 6 := rfl
theorem code_rec {l : List R} {i : Nat} {r : R} (h : i ≠ 16) (hf : r.fault ≠ 0) : codeAt l i r = r.fault := by
  unfold codeAt; rw [if_neg h, if_pos hf]
theorem code_same {l : List R} {i : Nat} {r : R} (h : i ≠ 16) (hf : r.fault = 0) (hs : (beforeL l i).any (fun x => x.p = r.p) = true) : codeAt l i r = 18 := by
  unfold codeAt; rw [if_neg h, if_neg (by simp [hf]), if_pos hs]
theorem code_order {l : List R} {i : Nat} {r : R} (h : i ≠ 16) (hf : r.fault = 0) (hs : (beforeL l i).any (fun x => x.p = r.p) = false)
    (ho : (beforeL l i).any (fun x => !lessP (cutAt 47 x.p.data.toList) (cutAt 47 r.p.data.toList)) = true) : codeAt l i r = 11 := by
  unfold codeAt; rw [if_neg h, if_neg (by simp [hf]), if_neg (by simp [hs]), if_pos ho]
/-- What is left once the record's order is fine. -/
def codeUp (l : List R) (i : Nat) (r : R) : Int :=
  if parentL r.p.data.toList = [] then 0 else if atL (l.take i) (parO r.p) < 0 then 12
  else if (l[(atL (l.take i) (parO r.p)).toNat]?).any (fun x => x.k ≠ 3) then 13 else 0
theorem code_up {l : List R} {i : Nat} {r : R} (h : i ≠ 16) (hf : r.fault = 0) (hs : (beforeL l i).any (fun x => x.p = r.p) = false)
    (ho : (beforeL l i).any (fun x => !lessP (cutAt 47 x.p.data.toList) (cutAt 47 r.p.data.toList)) = false) : codeAt l i r = codeUp l i r := by
  unfold codeAt; rw [if_neg h, if_neg (by simp [hf]), if_neg (by simp [hs]), if_neg (by simp [ho])]; rfl
theorem codeUp_root {l : List R} {i : Nat} {r : R} (h : parentL r.p.data.toList = []) : codeUp l i r = 0 := if_pos h
theorem codeUp_orphan {l : List R} {i : Nat} {r : R} (h : parentL r.p.data.toList ≠ []) (ha : atL (l.take i) (parO r.p) < 0) : codeUp l i r = 12 := by
  unfold codeUp; rw [if_neg h, if_pos ha]
theorem codeUp_in {l : List R} {i j : Nat} {r : R} (h : parentL r.p.data.toList ≠ []) (hj : j < l.length) (ha : atL (l.take i) (parO r.p) = (j : Int)) : codeUp l i r = if l[j].k ≠ 3 then 13 else 0 := by
  unfold codeUp; rw [if_neg h, if_neg (by omega), ha, Int.toNat_natCast, List.getElem?_eq_getElem hj]; simp
theorem RecSl.take {w : World} {A : Option Addr} {cap : Nat} {l : List R} {k : Nat} (h : RecSl w (.slice A l.length cap) l) (hk : k ≤ l.length) : RecSl w (.slice A k cap) (l.take k) := by
  obtain ⟨A', cap', e, hc, h⟩ := h
  cases e
  refine ⟨A, cap, by rw [List.length_take, Nat.min_eq_left hk], by rw [List.length_take]; omega, fun hn => ?_⟩
  rw [List.length_take] at hn
  obtain ⟨b, off, e, hb, hcell⟩ := h (by omega)
  refine ⟨b, off, e, hb, fun j p hj => hcell j p ?_⟩
  rw [List.getElem?_take] at hj
  split at hj
  · exact hj
  · cases hj
theorem path_short {p : ByteArray} (h : pathB p.data.toList = true) : p.size ≤ 65536 := by
  rcases Nat.lt_or_ge 65536 p.size with h1 | h1
  · rw [pathB_long (by omega)] at h; cases h
  · exact h1

theorem below_drewN {B : Nat} {a w : World} (h : Below B a w) (q : Nat) : Below B a (w.drewN q) := ⟨h.os, h.tape, h.output, h.size, h.block⟩
theorem all_next {l : List R} {k : Nat} (h : ∀ j (h : j < l.length), j < k → codeAt l j l[j] = 0) (hk : k < l.length) (hc : codeAt l k l[k] = 0) : Hid (∀ j (h : j < l.length), j < k + 1 → codeAt l j l[j] = 0) := by
  intro j hj hlt
  rcases Nat.lt_or_ge j k with h1 | h1
  · exact h j hj h1
  · obtain rfl : j = k := by omega
    exact hc
theorem ret_pair {x : Int × Int} {a b : Int} (h : x = (a, b)) : Ending.returned (.tuple #[.int .i64 a, .int .i64 b]) = .returned (.tuple #[.int .i64 x.1, .int .i64 x.2]) := by rw [h]

set_option maxHeartbeats 1600000 in
theorem l03Fault_any (v : Value) (l : List R) (w : World) (h : RecSl w v l) (hl : l.length ≤ 1048576) :
    Calls Tryz.prog 123 #[v] w fun e w' => e = .returned (.tuple #[.int .i64 (layerFaultL l).1, .int .i64 (layerFaultL l).2]) ∧ Below w.heap.size w w' := by
  have hsl := h
  obtain ⟨A, cap, rfl, hcap, h⟩ := h
  have HSl := Lib.hid hsl
  have H := Lib.hid h
  clear h hsl
  go_enter Tryz.func123, Tryz.ntmps123
  go_wp2
  go_loopw [4] (fun i wr => ∃ k : Nat, k ≤ l.length ∧ i = .int .i64 k ∧ Hid (layerFaultL l = faultFrom l k) ∧ Hid (∀ j (h : j < l.length), j < k → codeAt l j l[j] = 0) ∧ Below w.heap.size w wr) (fun i _ => l.length - (intOf i).toNat)
  case atStart => exact ⟨0, by omega, rfl, rfl, fun j h hj => by omega, Below.refl _ _⟩
  case round =>
    obtain ⟨k, hk, rfl, HK, HC, hbw⟩ := hrel
    by_cases hlt : k < l.length
    · obtain ⟨b, off, rfl, hb, hcell⟩ := H.out (by omega)
      obtain ⟨c0, c1, c2, c3, c4⟩ := (hcell k l[k] (by simp [hlt])).below hbw hb
      have hi1 : (k : Int) < (l.length : Int) := by omega
      have hi0 : (0 : Int) ≤ (k : Int) := by omega
      by_cases h16 : k = 16
      · subst h16
        have HE : Hid (layerFaultL l = (16, 6)) := by show _ = _; rw [HK.out, faultFrom_bad hlt (by rw [code_many]; decide), code_many]; rfl
        go_wp2
        go_ret2
        exact ⟨ret_pair HE.out, hbw⟩
      have hd16 : ((k : Int) == 16) = false := by simp; omega
      have hlbw := Nat.lt_of_lt_of_le hb hbw.size
      by_cases hf : l[k].fault = 0
      · have hd : (faultI l[k].k l[k].p.data.toList l[k].b.size l[k].m l[k].o != 0) = false := by have h := hf; unfold R.fault at h; simpa using h
        go_wp2_with fail
        refine (l02Fault_any _ _ _ _ _ _).mono ?_
        rintro e w1 ⟨rfl, hb1⟩
        have HR := Lib.hid (hcell k l[k] (by simp [hlt]))
        have hbw1 := hbw.trans (hb1.mono hbw.size)
        clear c0 c1 c2 c3 c4
        obtain ⟨c0, c1, c2, c3, c4⟩ := HR.out.below hbw1 hb
        have hP := (fault_path hf).1
        cases k with
        | zero =>
          go_wp2_with fail
          go_quiet (fail)
          have hbw2 := below_drewN hbw1 nq
          generalize w1.drewN nq = W2 at *
          go_wp2_with fail
          go_quiet (fail)
          have hbw3 := below_drewN hbw2 nq
          clear c0 c1 c2 c3 c4
          obtain ⟨c0, c1, c2, c3, c4⟩ := HR.out.below hbw3 hb
          generalize W2.drewN nq = W3 at *
          go_wp2_with fail
          have HU : Hid (codeAt l 0 l[0] = codeUp l 0 l[0]) := code_up h16 hf rfl rfl
          refine (l01Parent_any _ _ (by have := path_short hP; unfold maxLen; omega)).mono ?_
          rintro e w5 ⟨rfl, rfl⟩
          by_cases hpar : parentL l[0].p.data.toList = []
          · have HN : Hid (codeAt l (0) l[0] = 0) := by show _ = _; rw [HU.out, codeUp_root hpar]
            have HF := Lib.hid (HK.out.trans (faultFrom_good hlt HN.out))
            have hemp : (parentL l[0].p.data.toList).isEmpty = true := by rw [hpar]; rfl
            unfold strV
            go_wp2_with fail
            exact ⟨⟨0 + 1, by omega, by go_num, HF, all_next HC.out hlt HN.out, hbw3⟩, by simp [intOf]; omega⟩
          · have hemp : (parentL l[0].p.data.toList).isEmpty = false := by simpa using hpar
            have hslr := (HSl.out.below hbw3).take (k := 0) (by omega)
            unfold strV
            go_wp2_with fail
            refine (l03At_any _ (l.take (0)) _ _ (by exact hslr) (by rw [List.length_take]; omega)).mono ?_
            rintro e w6 ⟨rfl, rfl⟩
            rcases atL_cases (l.take (0)) (parO l[0].p) with ⟨ha, _⟩ | ⟨j, hj, ha, _⟩
            · have HE : Hid (layerFaultL l = (((0 : Nat) : Int), 12)) := by
                have hc := HU.out.trans (codeUp_orphan hpar (by rw [ha]; decide))
                show _ = _
                rw [HK.out, faultFrom_bad hlt (by rw [hc]; decide), hc]
              have ha' : atL (l.take (0)) ⟨(parentL l[0].p.data.toList).toArray⟩ = -1 := ha
              rw [ha']
              go_wp2_with fail
              go_ret2
              exact ⟨ret_pair HE.out, hbw3⟩
            · rw [List.length_take] at hj
              omega
        | succ k =>
          obtain ⟨d0, d1, d2, d3, d4⟩ := (hcell k (l[k]'(by omega)) (by simp)).below hbw1 hb
          have hd0 : decide ((0 : Int) < ((k + 1 : Nat) : Int)) = true := by simp
          have e1 : ((k + 1 : Nat) : Int) - 1 = (k : Int) := by omega
          rcases Bool.eq_false_or_eq_true (l[k + 1].p.toList == l[k].p.toList) with he | he
          · have HE : Hid (layerFaultL l = (((k + 1 : Nat) : Int), 18)) := by
              have hc := code_same (l := l) h16 hf (by rw [beforeL_pos hlt]; simpa using (str_eq_of he).symm)
              show _ = _
              rw [HK.out, faultFrom_bad hlt (by rw [hc]; decide), hc]
            go_wp2_with fail
            go_quiet (fail)
            go_wp2_with fail
            go_ret2
            exact ⟨ret_pair HE.out, below_drewN hbw1 _⟩
          · go_wp2_with fail
            go_quiet (fail)
            go_wp2_with fail
            have hbw2 := below_drewN hbw1 nq
            clear c0 c1 c2 c3 c4 d0 d1 d2 d3 d4
            obtain ⟨c0, c1, c2, c3, c4⟩ := HR.out.below hbw2 hb
            obtain ⟨d0, d1, d2, d3, d4⟩ := (hcell k (l[k]'(by omega)) (by simp)).below hbw2 hb
            generalize w1.drewN nq = W2 at *
            have hsame : (beforeL l (k + 1)).any (fun x => x.p = l[k + 1].p) = false := by
              rw [beforeL_pos hlt]
              simp only [Option.any_some, decide_eq_false_iff_not]
              intro e
              rw [e] at he
              simp at he
            have hlt2 := Nat.lt_of_lt_of_le hb hbw2.size
            have hs1 := path_short hP
            have hs2 := path_short (fault_path (codeAt_zero (HC.out k (by omega) (by omega))).2).1
            have i1 : (0 : Int) ≤ (k : Int) + 1 := by omega
            have i2 : (k : Int) + 1 < (l.length : Int) := by omega
            have i3 : (0 : Int) ≤ (k : Int) := by omega
            have i4 : (k : Int) < (l.length : Int) := by omega
            have hw : IntKind.i64.wrap (k : Int) = (k : Int) := by simp [IntKind.wrap, IntKind.bits, IntKind.signed]; omega
            rcases Bool.eq_false_or_eq_true (lessP (cutAt 47 l[k].p.data.toList) (cutAt 47 l[k + 1].p.data.toList)) with hless | hless
            · go_region_held3 (fun w' => w'.cell? ⟨b, off + k * 5 + 1, none⟩ = some (.string l[k].p) ∧ w'.cell? ⟨b, off + (k + 1) * 5 + 1, none⟩ = some (.string l[k + 1].p)) (first | exact ⟨d1, c1⟩ | exact ⟨(hb3.cell (p := ⟨b, off + k * 5 + 1, none⟩) hlt2).trans d1, (hb3.cell (p := ⟨b, off + (k + 1) * 5 + 1, none⟩) hlt2).trans c1⟩ | go_keep) (first | (go_at_call 76; refine (l01Less_any _ _ _ hs2 hs1).mono ?_; rintro e w3 ⟨rfl, hb3⟩))
              have hbw4 := hbw2.drew.trans (hb3.mono hbw2.size)
              clear c0 c1 c2 c3 c4 d0 d1 d2 d3 d4
              obtain ⟨c0, c1, c2, c3, c4⟩ := HR.out.below hbw4 hb
              have HU : Hid (codeAt l (k + 1) l[k + 1] = codeUp l (k + 1) l[k + 1]) := code_up h16 hf hsame (by rw [beforeL_pos hlt]; simp [hless])
              go_wp2_with fail
              refine (l01Parent_any _ _ (by have := path_short hP; unfold maxLen; omega)).mono ?_
              rintro e w5 ⟨rfl, rfl⟩
              by_cases hpar : parentL l[k + 1].p.data.toList = []
              · have HN : Hid (codeAt l (k + 1) l[k + 1] = 0) := by show _ = _; rw [HU.out, codeUp_root hpar]
                have HF := Lib.hid (HK.out.trans (faultFrom_good hlt HN.out))
                have hemp : (parentL l[k + 1].p.data.toList).isEmpty = true := by rw [hpar]; rfl
                unfold strV
                go_wp2_with fail
                exact ⟨⟨k + 1 + 1, by omega, by go_num, HF, all_next HC.out hlt HN.out, hbw4⟩, by simp [intOf]; omega⟩
              · have hemp : (parentL l[k + 1].p.data.toList).isEmpty = false := by simpa using hpar
                have hslr := (HSl.out.below hbw4).take (k := k + 1) (by omega)
                unfold strV
                go_wp2_with fail
                refine (l03At_any _ (l.take (k + 1)) _ _ (by exact hslr) (by rw [List.length_take]; omega)).mono ?_
                rintro e w6 ⟨rfl, rfl⟩
                rcases atL_cases (l.take (k + 1)) (parO l[k + 1].p) with ⟨ha, _⟩ | ⟨j, hj, ha, _⟩
                · have HE : Hid (layerFaultL l = (((k + 1 : Nat) : Int), 12)) := by
                    have hc := HU.out.trans (codeUp_orphan hpar (by rw [ha]; decide))
                    show _ = _
                    rw [HK.out, faultFrom_bad hlt (by rw [hc]; decide), hc]
                  have ha' : atL (l.take (k + 1)) ⟨(parentL l[k + 1].p.data.toList).toArray⟩ = -1 := ha
                  rw [ha']
                  go_wp2_with fail
                  go_ret2
                  exact ⟨ret_pair HE.out, hbw4⟩
                · rw [List.length_take] at hj
                  have hjl : j < l.length := by omega
                  have ha' : atL (l.take (k + 1)) ⟨(parentL l[k + 1].p.data.toList).toArray⟩ = (j : Int) := ha
                  have HV := Lib.hid (HU.out.trans (codeUp_in hpar hjl ha))
                  rw [ha']
                  clear ha ha'
                  obtain ⟨f0, _⟩ := (hcell j l[j] (by simp [hjl])).below hbw4 hb
                  have j1 : (0 : Int) ≤ (j : Int) := by omega
                  have j2 : (j : Int) < (l.length : Int) := by omega
                  have j3 : decide ((j : Int) < 0) = false := by simp
                  by_cases h3 : l[j].k = 3
                  · have HN : Hid (codeAt l (k + 1) l[k + 1] = 0) := by show _ = _; rw [HV.out, if_neg (by simpa using h3)]
                    have HF := Lib.hid (HK.out.trans (faultFrom_good hlt HN.out))
                    have j4 : (l[j].k != 3) = false := by simpa using h3
                    clear h3
                    go_wp2_with fail
                    exact ⟨⟨k + 1 + 1, by omega, by go_num, HF, all_next HC.out hlt HN.out, hbw4⟩, by simp [intOf]; omega⟩
                  · have HE : Hid (layerFaultL l = (((k + 1 : Nat) : Int), 13)) := by
                      have hc := HV.out.trans (if_pos h3)
                      show _ = _
                      rw [HK.out, faultFrom_bad hlt (by rw [hc]; decide), hc]
                    have j4 : (l[j].k != 3) = true := by simpa using h3
                    clear h3
                    go_wp2_with fail
                    go_ret2
                    exact ⟨ret_pair HE.out, hbw4⟩
            · go_region_held3 (fun w' => w'.cell? ⟨b, off + k * 5 + 1, none⟩ = some (.string l[k].p) ∧ w'.cell? ⟨b, off + (k + 1) * 5 + 1, none⟩ = some (.string l[k + 1].p)) (first | exact ⟨d1, c1⟩ | exact ⟨(hb3.cell (p := ⟨b, off + k * 5 + 1, none⟩) hlt2).trans d1, (hb3.cell (p := ⟨b, off + (k + 1) * 5 + 1, none⟩) hlt2).trans c1⟩ | go_keep) (first | (go_at_call 76; refine (l01Less_any _ _ _ hs2 hs1).mono ?_; rintro e w3 ⟨rfl, hb3⟩))
              have hbw4 := hbw2.drew.trans (hb3.mono hbw2.size)
              clear c0 c1 c2 c3 c4 d0 d1 d2 d3 d4
              obtain ⟨c0, c1, c2, c3, c4⟩ := HR.out.below hbw4 hb
              have HE : Hid (layerFaultL l = (((k + 1 : Nat) : Int), 11)) := by
                have hc := code_order (l := l) h16 hf hsame (by rw [beforeL_pos hlt]; simp [hless])
                show _ = _
                rw [HK.out, faultFrom_bad hlt (by rw [hc]; decide), hc]
              go_wp2_with fail
              go_ret2
              exact ⟨ret_pair HE.out, hbw4⟩
      · have HE : Hid (layerFaultL l = ((k : Int), faultI l[k].k l[k].p.data.toList l[k].b.size l[k].m l[k].o)) := by show _ = _; rw [HK.out, faultFrom_bad hlt (by rw [code_rec h16 hf]; exact hf), code_rec h16 hf]; rfl
        have hd : (faultI l[k].k l[k].p.data.toList l[k].b.size l[k].m l[k].o != 0) = true := by have h := hf; unfold R.fault at h; simpa using h
        clear hf
        go_wp2_with fail
        refine (l02Fault_any _ _ _ _ _ _).mono ?_
        rintro e w1 ⟨rfl, hb1⟩
        go_wp2_with fail
        go_ret2
        exact ⟨ret_pair HE.out, hbw.trans (hb1.mono hbw.size)⟩
    · obtain rfl : k = l.length := by omega
      have HE : Hid (layerFaultL l = (0, 0)) := by show _ = _; rw [HK.out, faultFrom_end (Nat.le_refl _)]
      go_wp2
      go_ret2
      exact ⟨ret_pair HE.out, hbw⟩
end Go.Proofs.YtibekkfbpmloiabGreatDoor.Recs
