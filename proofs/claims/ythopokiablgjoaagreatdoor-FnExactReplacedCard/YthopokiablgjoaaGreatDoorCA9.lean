/- Parts of several texts of mine in one file (each begins with its own remark). -/
import Derived.Test.YthopokiablgjoaaGreatDoorCA1
import Derived.Test.YthopokiablgjoaaGreatDoorCA2
import Derived.Test.YthopokiablgjoaaGreatDoorCA3
import Derived.Test.YthopokiablgjoaaGreatDoorCA4
import Derived.Test.YthopokiablgjoaaGreatDoorCA5
import Derived.Test.YthopokiablgjoaaGreatDoorCA7
import Derived.Test.YthopokiablgjoaaGreatDoorCA8
import Derived.Test.YthopokiablgjoaaGreatDoorShelf
import Derived.Test.YthopokiablgjoaaGreatDoorChecked
import Derived.Test.YthopokiablgjoaaGreatDoorRows
import Derived.Test.YthopokiablgjoaaGreatDoorProg
import Derived.WalkLawsBesides
import Derived.BigQuiet
import Derived.Laws.BytesArg
import Derived.Deep.QuietTactic
import Derived.Deep.RegionHeld3
import Derived.Deep.Draws
import Derived.Deep.LoopGhost
import Derived.WalkKit
import Derived.WalkSpells
import Derived.WalkSmall
import Derived.Lib.OthersKept
import Derived.Lib.Hide
import Derived.Lib.Strings
import Derived.Lib.Join
import Derived.StillTailTactics
import Derived.Laws.OwnMore
import Derived.BigRegion
import Derived.Deep.Slices
import Derived.OpenShut
import Derived.ShutString
import Derived.ChangeArms
import Derived.WideShapes
import Derived.Lib.LaidTab
import Derived.Deep.RegionWith
import Derived.OneCell
import Derived.Lib.SliceRun
import Derived.Lib.Overlaps
import Derived.Lib.AppendZerosOnto
import Derived.Laws.NewBlocks
import Derived.Laws.IdiomCopy
import Derived.Deep.RegionLaw
import Derived.ChangeVars
import Derived.Deep.DeepHandedRow
import Derived.LaidEql
import Derived.Stop.Asserts
import Derived.Below
import Derived.Stop.LaidErr
import Derived.Stop.LaidTwo
/- Paths: PathLess and IsBelow, of the program and of its model. -/
namespace Go.Proofs.YthopokiablgjoaaGreatDoor.Paths
open Go.RowKit

def cmpS (x y : List UInt8) : Int := if Op.bytesLess x y then -1 else if x = y then 0 else 1

theorem isNaN_any (x : List UInt8) (w : World) : Calls Tryz.prog 195 #[.string ⟨x.toArray⟩] w fun e w' => e = .returned (.bool false) ∧ w = w' := by
  go_enter Tryz.func195, Tryz.ntmps195
  go_wp2
  go_ret
  exact ⟨rfl, rfl⟩

theorem compare_any (x y : List UInt8) (w : World) : Calls Tryz.prog 155 #[.string ⟨x.toArray⟩, .string ⟨y.toArray⟩] w fun e w' => e = .returned (.int .i64 (cmpS x y)) ∧ w = w' := by
  rcases Bool.eq_false_or_eq_true (Op.bytesLess x y) with h | h
  · have HC : Hid (cmpS x y = -1) := by show _ = _; unfold cmpS; rw [h]; rfl
    go_enter Tryz.func155, Tryz.ntmps155
    go_wp2_with (first | (go_at_call 195; refine (isNaN_any _ _).mono ?_; rintro e w' ⟨rfl, rfl⟩))
    go_ret
    exact ⟨ret_int HC.out.symm, rfl⟩
  · rcases Bool.eq_false_or_eq_true (x == y) with he | he
    · have HC : Hid (cmpS x y = 0) := by show _ = _; unfold cmpS; simp [h]; simpa using he
      go_enter Tryz.func155, Tryz.ntmps155
      go_wp2_with (first | (go_at_call 195; refine (isNaN_any _ _).mono ?_; rintro e w' ⟨rfl, rfl⟩))
      go_ret
      exact ⟨ret_int HC.out.symm, rfl⟩
    · have HC : Hid (cmpS x y = 1) := by show _ = _; unfold cmpS; simp [h]; simpa using he
      go_enter Tryz.func155, Tryz.ntmps155
      go_wp2_with (first | (go_at_call 195; refine (isNaN_any _ _).mono ?_; rintro e w' ⟨rfl, rfl⟩))
      go_ret
      exact ⟨ret_int HC.out.symm, rfl⟩

theorem cmp_step {A B : List (List UInt8)} {k : Nat} (ha : k < A.length) (hb : k < B.length) (h : cmpS A[k] B[k] = 0) : cmpP (A.drop k) (B.drop k) = cmpP (A.drop (k + 1)) (B.drop (k + 1)) := by
  rw [cmpP_drop ha hb]
  unfold cmpS at h
  split at h
  · cases h
  · rename_i hn
    split at h
    · rename_i he
      rw [if_neg hn, if_pos he]
    · cases h
theorem cmp_stop {A B : List (List UInt8)} {k : Nat} (ha : k < A.length) (hb : k < B.length) (h : cmpS A[k] B[k] ≠ 0) : cmpP (A.drop k) (B.drop k) = cmpS A[k] B[k] := by
  rw [cmpP_drop ha hb]
  unfold cmpS at h ⊢
  split
  · rfl
  · rename_i hn
    split
    · rename_i he
      rw [if_neg hn, if_pos he] at h
      exact absurd rfl h
    · rfl

set_option maxHeartbeats 400000 in
theorem slicesCompare_any (v1 v2 : Value) (A B : List (List UInt8)) (w : World) (h1 : Strs w v1 A) (h2 : Strs w v2 B) (hl : A.length ≤ 1000) (hl2 : B.length ≤ 1000) : Calls Tryz.prog 98 #[v1, v2] w fun e w' => e = .returned (.int .i64 (cmpP A B)) ∧ w = w' := by
  obtain ⟨a1, c1, rfl, hc1, h1⟩ := h1
  obtain ⟨a2, c2, rfl, hc2, h2⟩ := h2
  have H1 := Lib.hid h1
  have H2 := Lib.hid h2
  clear h1 h2
  go_enter Tryz.func98, Tryz.ntmps98
  go_wp2
  go_loop [11] (fun i => ∃ k : Nat, k ≤ A.length ∧ k ≤ B.length ∧ i = .int .i64 k ∧ Hid (cmpP A B = cmpP (A.drop k) (B.drop k))) (fun i => A.length - (intOf i).toNat)
  case atStart => exact ⟨0, by omega, by omega, rfl, rfl⟩
  case round =>
    obtain ⟨k, hk, hkb, rfl, HK⟩ := hrel
    by_cases hlt : k < A.length
    · obtain ⟨b1, o1, rfl, hb1, hcell1⟩ := H1.out (by omega)
      have hk1 := hcell1 k A[k] (by simp [hlt])
      unfold strV at hk1
      clear hcell1 H1
      have hi1 : (k : Int) < (A.length : Int) := by omega
      have hi0 : (0 : Int) ≤ (k : Int) := by omega
      by_cases hlt2 : k < B.length
      · obtain ⟨b2, o2, rfl, hb2, hcell2⟩ := H2.out (by omega)
        have hk2 := hcell2 k B[k] (by simp [hlt2])
        unfold strV at hk2
        clear hcell2 H2
        have hi2 : (k : Int) < (B.length : Int) := by omega
        by_cases h0 : cmpS A[k] B[k] = 0
        · have HS := Lib.hid (cmp_step hlt hlt2 h0)
          go_wp2_with (first | (go_at_call 155; refine (compare_any _ _ _).mono ?_; rintro e w' ⟨rfl, rfl⟩))
          exact ⟨⟨k + 1, by omega, by omega, by go_num, by show _ = _; rw [HK.out, HS.out]⟩, by simp [intOf]; omega⟩
        · have HS := Lib.hid (cmp_stop hlt hlt2 h0)
          have hne : (cmpS A[k] B[k] != 0) = true := by simpa using h0
          clear h0
          go_wp2_with (first | (go_at_call 155; refine (compare_any _ _ _).mono ?_; rintro e w' ⟨rfl, rfl⟩))
          go_ret
          exact ⟨ret_int (by rw [HK.out, HS.out]), rfl⟩
      · have HS := Lib.hid (cmpP_nilR (B := B) hlt (by omega))
        go_wp2
        go_ret
        exact ⟨ret_int (by rw [HK.out, HS.out]), rfl⟩
    · have HS := Lib.hid (cmpP_nilL (A := A) (B := B) (k := k) (by omega) hkb)
      by_cases hAB : A.length < B.length
      · rw [if_pos hAB] at HS
        go_wp2
        go_ret
        exact ⟨ret_int (by rw [HK.out, HS.out]), rfl⟩
      · rw [if_neg hAB] at HS
        go_wp2
        go_ret
        exact ⟨ret_int (by rw [HK.out, HS.out]), rfl⟩

set_option maxHeartbeats 800000 in
theorem l01Less_any (s t : ByteArray) (w : World) (hs : s.size ≤ 65536) (ht : t.size ≤ 65536) : Calls Tryz.prog 134 #[.string s, .string t] w fun e w' => e = .returned (.bool (lessP (cutAt 47 s.data.toList) (cutAt 47 t.data.toList))) ∧ Below w.heap.size w w' := by
  go_enter Tryz.func134, Tryz.ntmps134
  go_wp2_with fail
  refine (l00Cut_any s 47 47 rfl _ (by omega)).mono ?_
  rintro e w1 ⟨v1, rfl, hb1, ho1⟩
  go_wp2_with fail
  refine (l00Cut_any t 47 47 rfl _ (by omega)).mono ?_
  rintro e w2 ⟨v2, rfl, hb2, ho2⟩
  have s1 := Strs.own (own_below ho1 hb2)
  have s2 := Strs.own ho2
  have hl1 := cutAt_length_le 47 s.data.toList
  have hl2 := cutAt_length_le 47 t.data.toList
  rw [← Lib.size_eq] at hl1 hl2
  have hb12 := hb1.trans (hb2.mono hb1.size)
  clear ho1 ho2 hb1 hb2
  generalize hA0 : cutAt 47 s.data.toList = A at *
  generalize hB0 : cutAt 47 t.data.toList = B at *
  have HAB : Hid (lessP (cutAt 47 s.data.toList) (cutAt 47 t.data.toList) = lessP A B) := by show _ = _; rw [hA0, hB0]
  clear hA0 hB0
  obtain ⟨a1, c1, rfl, hc1, h1⟩ := s1
  obtain ⟨a2, c2, rfl, hc2, h2⟩ := s2
  have H1 := Lib.hid h1
  have H2 := Lib.hid h2
  clear h1 h2
  go_wp2
  go_loopw [7] (fun i wr => ∃ k n : Nat, k ≤ A.length ∧ k ≤ B.length ∧ i = .int .i64 k ∧ wr = w2.drewN n ∧ Hid (lessP A B = lessP (A.drop k) (B.drop k))) (fun i _ => A.length - (intOf i).toNat)
  case atStart => exact ⟨0, 0, by omega, by omega, rfl, rfl, rfl⟩
  case round =>
    obtain ⟨k, n, hk, hkb, rfl, rfl, HK⟩ := hrel
    by_cases hlt : k < A.length ∧ k < B.length
    · obtain ⟨hlt1, hlt2⟩ := hlt
      obtain ⟨b1, o1, rfl, hb1, hcell1⟩ := H1.out (by omega)
      obtain ⟨b2, o2, rfl, hb2, hcell2⟩ := H2.out (by omega)
      have hk1 := hcell1 k A[k] (by simp [hlt1])
      have hk2 := hcell2 k B[k] (by simp [hlt2])
      unfold strV at hk1 hk2
      clear hcell1 hcell2 H1 H2
      have hi1 : (k : Int) < (A.length : Int) := by omega
      have hi2 : (k : Int) < (B.length : Int) := by omega
      have hi0 : (0 : Int) ≤ (k : Int) := by omega
      have HD := Lib.hid (lessP_drop hlt1 hlt2)
      rcases Bool.eq_false_or_eq_true (A[k] == B[k]) with he | he
      · have HS : Hid (lessP A B = lessP (A.drop (k + 1)) (B.drop (k + 1))) := by show _ = _; rw [HK.out, HD.out, if_pos (by simpa using he)]
        go_wp2
        go_quiet (fail)
        go_wp2
        exact ⟨⟨k + 1, _, by omega, by omega, by go_num, rfl, HS⟩, by simp [intOf]; omega⟩
      · have HS : Hid (lessP A B = Op.bytesLess A[k] B[k]) := by show _ = _; rw [HK.out, HD.out, if_neg (by simpa using he)]
        go_wp2
        go_quiet (fail)
        go_wp2
        go_quiet (fail)
        go_wp2
        go_ret
        exact ⟨ret_bool (by rw [HAB.out, HS.out]), by exact ⟨hb12.os, hb12.tape, hb12.output, hb12.size, hb12.block⟩⟩
    · have HS := Lib.hid (lessP_end hlt hk hkb)
      by_cases hA : k < A.length
      · have hB : ¬ k < B.length := by omega
        go_wp2
        go_ret
        exact ⟨ret_bool (by rw [HAB.out, HK.out, HS.out]), by exact ⟨hb12.os, hb12.tape, hb12.output, hb12.size, hb12.block⟩⟩
      · go_wp2
        go_ret
        exact ⟨ret_bool (by rw [HAB.out, HK.out, HS.out]), by exact ⟨hb12.os, hb12.tape, hb12.output, hb12.size, hb12.block⟩⟩

def lessB (s t : ByteArray) : Bool := pathB s.data.toList && pathB t.data.toList && lessP (cutAt 47 s.data.toList) (cutAt 47 t.data.toList)
theorem lessB_no1 {s t : ByteArray} (h : pathB s.data.toList = false) : lessB s t = false := by unfold lessB; rw [h]; rfl
theorem lessB_no2 {s t : ByteArray} (h : pathB t.data.toList = false) : lessB s t = false := by unfold lessB; rw [h]; simp
theorem lessB_yes {s t : ByteArray} (h : pathB s.data.toList = true) (k : pathB t.data.toList = true) : lessB s t = lessP (cutAt 47 s.data.toList) (cutAt 47 t.data.toList) := by unfold lessB; rw [h, k]; rfl

set_option maxHeartbeats 800000 in
theorem pathLess_impl (s t : ByteArray) (w : World) (hs : s.size ≤ maxLen) (ht : t.size ≤ maxLen) : Calls Tryz.prog 38 #[.string s, .string t] w fun e w' => e = .returned (.bool (lessB s t)) ∧ Below w.heap.size w w' := by
  have hq := fun (w : World) (a : Option Addr) (n c n' c' : Nat) => run_neq_slice_nil_any (P := Tryz.prog) w 44 9 a n c n' c' Tryz.underlying44
  go_enter Tryz.func38, Tryz.ntmps38
  go_wp2_with fail
  refine (splitPath_any s _ hs).mono ?_
  rintro e w1 ⟨v1, rfl, hp1⟩
  go_wp2_with fail
  refine (splitPath_any t _ ht).mono ?_
  rintro e w2 ⟨v2, rfl, hp2⟩
  obtain ⟨A1, cap1, rfl, hA1⟩ := split_nil hp1
  obtain ⟨A2, cap2, rfl, hA2⟩ := split_nil hp2
  obtain ⟨hb1, ho1, _, _⟩ := hp1
  obtain ⟨hb2, ho2, _, _⟩ := hp2
  have hb12 := hb1.trans (hb2.mono hb1.size)
  rcases Bool.eq_false_or_eq_true (pathB s.data.toList) with h1 | h1
  case inr =>
    have HL := Lib.hid (lessB_no1 (t := t) h1)
    rw [h1] at hA1
    clear ho1 ho2
    go_wp2_with fail
    go_ret
    exact ⟨ret_bool HL.out.symm, hb12⟩
  rcases Bool.eq_false_or_eq_true (pathB t.data.toList) with h2 | h2
  case inr =>
    have HL := Lib.hid (lessB_no2 (s := s) h2)
    rw [h1] at hA1
    rw [h2] at hA2
    clear ho1 ho2
    go_wp2_with fail
    go_ret
    exact ⟨ret_bool HL.out.symm, hb12⟩
  have HL := Lib.hid (lessB_yes h1 h2)
  rw [h1] at hA1
  rw [h2] at hA2
  have l1 := (pathB_parts h1).1
  have l2 := (pathB_parts h2).1
  have s1 := Lib.hid (Strs.own (own_below ho1 hb2))
  have s2 := Lib.hid (Strs.own ho2)
  rw [partsOf_yes h1] at *
  rw [partsOf_yes h2] at *
  clear ho1 ho2
  go_wp2_with fail
  refine (slicesCompare_any _ _ _ _ _ s1.out s2.out (by omega) (by omega)).mono ?_
  rintro e w3 ⟨rfl, rfl⟩
  go_wp2_with fail
  go_ret
  exact ⟨ret_bool (by rw [HL.out]; exact less_cmp _ _), hb12⟩

end Go.Proofs.YthopokiablgjoaaGreatDoor.Paths

/- Slices of nodes in memory of their own; the laws' own copy, size and comparison of slices of nodes. -/
namespace Go.Proofs.YthopokiablgjoaaGreatDoor.Recs
set_option maxRecDepth 100000
open Go.RowKit Paths

/-- A node's four cells. -/
def R.ns (r : R) : List Value := [.int .i64 r.k, .string r.p, .string r.b, .int .i64 r.m]
def flatN (l : List R) : List Value := l.flatMap R.ns
theorem flatN_len (l : List R) : (flatN l).length = l.length * 4 := by
  induction l with
  | nil => rfl
  | cons r t ih => simp only [flatN, List.flatMap_cons, List.length_append, List.length_cons] at ih ⊢; rw [ih]; simp [R.ns]; omega
theorem flatN_get : ∀ (l : List R) (j : Nat), (flatN l)[j]? = (l[j / 4]?).bind fun r => r.ns[j % 4]?
  | [], j => by simp [flatN]
  | r :: t, j => by
    have ih := flatN_get t (j - 4)
    by_cases hj : j < 4
    · have e1 : j / 4 = 0 := by omega
      have e2 : j % 4 = j := by omega
      rw [e1, e2]
      simp only [flatN, List.flatMap_cons]
      rw [List.getElem?_append_left (by simp [R.ns]; omega)]
      simp
    · have e1 : j / 4 = (j - 4) / 4 + 1 := by omega
      have e2 : j % 4 = (j - 4) % 4 := by omega
      rw [e1, e2]
      simp only [flatN, List.flatMap_cons]
      rw [List.getElem?_append_right (by simp [R.ns]; omega)]
      simp only [R.ns, List.length_cons, List.length_nil]
      exact ih
theorem flatN_field {M : List R} {i c : Nat} {r : R} {u : Value} (hi : i < M.length) (hc : c < 4) (h : r.ns = M[i].ns.set c u) : flatN (M.set i r) = (flatN M).set (i * 4 + c) u := by
  apply List.ext_getElem?
  intro j
  rw [flatN_get, List.getElem?_set, List.getElem?_set, flatN_len, flatN_get]
  by_cases hj : i = j / 4
  · rw [if_pos hj, if_pos (by omega)]
    simp only [Option.bind_some]
    rw [h, List.getElem?_set]
    by_cases hk : c = j % 4
    · rw [if_pos hk, if_pos (by simp [R.ns]; omega), if_pos (by omega), if_pos (by omega)]
    · rw [if_neg hk, if_neg (by omega), ← hj, List.getElem?_eq_getElem hi]
      rfl
  · rw [if_neg hj, if_neg (by omega)]

/-- A slice in memory of its own that holds the nodes M. -/
def RowN (w : World) (base : Nat) (v : Value) (n : Nat) (M : List R) : Prop := M.length = n ∧ w.ownsRow base 95 4 v n (flatN M) ∧ ∀ r ∈ M, r.o = false
theorem RowN.below {w w' : World} {base : Nat} {v : Value} {n : Nat} {M : List R} (h : RowN w base v n M) (hb : Below w.heap.size w w') : RowN w' base v n M := ⟨h.1, own_below h.2.1 hb, h.2.2⟩
theorem RowN.sl {w : World} {base : Nat} {v : Value} {n : Nat} {M : List R} (h : RowN w base v n M) : NodSl w v M := by
  obtain ⟨rfl, h, ho⟩ := h
  refine ⟨ho, ?_⟩
  rcases h.2 with ⟨rfl, hn⟩ | ⟨g, cap, cur, rfl, hb, hg, hc, _⟩
  · exact ⟨none, 0, by rw [hn], by omega, fun h => by omega⟩
  · refine ⟨_, cap, rfl, hc, fun _ => ⟨g, 0, rfl, (Array.getElem?_eq_some_iff.1 hg).1, fun i r hi => ?_⟩⟩
    have hlt : i < M.length := (List.getElem?_eq_some_iff.1 hi).1
    have one : ∀ c, c < 4 → w.cell? ⟨g, i * 4 + c, none⟩ = r.ns[c]? := fun c hc => by
      rw [h.cellAt (i * 4 + c) (by omega), flatN_get]
      have e1 : (i * 4 + c) / 4 = i := by omega
      have e2 : (i * 4 + c) % 4 = c := by omega
      rw [e1, e2, hi]
      rfl
    rw [Nat.zero_add]
    exact ⟨one 0 (by omega), one 1 (by omega), one 2 (by omega), one 3 (by omega)⟩
theorem RowN.field {w : World} {base g cap n : Nat} {M : List R} {i c : Nat} {r : R} {u : Value} (h : RowN w base (.slice (some ⟨g, 0, none⟩) n cap) n M) (hi : i < M.length) (hc : c < 4) (hr : r.ns = M[i].ns.set c u) (ho : r.o = false) :
    RowN (w.setCell ⟨g, i * 4 + c, none⟩ u) base (.slice (some ⟨g, 0, none⟩) n cap) n (M.set i r) ∧ w.grownBy (w.setCell ⟨g, i * 4 + c, none⟩ u) (some g) := by
  obtain ⟨h1, h2⟩ := h.2.1.stored (i * 4 + c) u
  exact ⟨⟨by rw [List.length_set]; exact h.1, by rw [flatN_field hi hc hr]; exact h1, fun x hx => (List.mem_or_eq_of_mem_set hx).elim (h.2.2 x) (fun e => by rw [e]; exact ho)⟩, h2⟩
theorem RowN.frozen {w : World} {base g cap n : Nat} {M : List R} (h : RowN w base (.slice (some ⟨g, 0, none⟩) n cap) n M) (j : Nat) : w.frozen? ⟨g, j, none⟩ = false := h.2.1.frozenAt j
theorem RowN.cells {w : World} {base g cap n : Nat} {M : List R} (h : RowN w base (.slice (some ⟨g, 0, none⟩) n cap) n M) {i : Nat} (hi : i < M.length) : NodCells w g (i * 4) M[i] := by
  have one : ∀ c, c < 4 → w.cell? ⟨g, i * 4 + c, none⟩ = M[i].ns[c]? := fun c hc => by
    rw [h.2.1.cellAt (i * 4 + c) (by rw [← h.1]; omega), flatN_get]
    have e1 : (i * 4 + c) / 4 = i := by omega
    have e2 : (i * 4 + c) % 4 = c := by omega
    rw [e1, e2, List.getElem?_eq_getElem hi]
    rfl
  exact ⟨one 0 (by omega), one 1 (by omega), one 2 (by omega), one 3 (by omega)⟩
/-- A whole node written. -/
theorem RowN.store {w : World} {base g cap n : Nat} {M : List R} {i : Nat} (r : R) (h : RowN w base (.slice (some ⟨g, 0, none⟩) n cap) n M) (hi : i < M.length) (ho : r.o = false) :
    RowN ((((w.setCell ⟨g, i * 4, none⟩ (.int .i64 r.k)).setCell ⟨g, i * 4 + 1, none⟩ (.string r.p)).setCell ⟨g, i * 4 + 2, none⟩ (.string r.b)).setCell ⟨g, i * 4 + 3, none⟩ (.int .i64 r.m)) base (.slice (some ⟨g, 0, none⟩) n cap) n (M.set i r) ∧
    w.grownBy ((((w.setCell ⟨g, i * 4, none⟩ (.int .i64 r.k)).setCell ⟨g, i * 4 + 1, none⟩ (.string r.p)).setCell ⟨g, i * 4 + 2, none⟩ (.string r.b)).setCell ⟨g, i * 4 + 3, none⟩ (.int .i64 r.m)) (some g) := by
  have hM := h.2.2 M[i] (List.getElem_mem hi)
  obtain ⟨a1, b1⟩ := h.field (i := i) (c := 0) (r := { M[i] with k := r.k }) (u := .int .i64 r.k) hi (by omega) rfl hM
  obtain ⟨a2, b2⟩ := a1.field (i := i) (c := 1) (r := { M[i] with k := r.k, p := r.p }) (u := .string r.p) (by simpa using hi) (by omega) (by simp [R.ns]) hM
  obtain ⟨a3, b3⟩ := a2.field (i := i) (c := 2) (r := { M[i] with k := r.k, p := r.p, b := r.b }) (u := .string r.b) (by simpa using hi) (by omega) (by simp [R.ns]) hM
  obtain ⟨a4, b4⟩ := a3.field (i := i) (c := 3) (r := r) (u := .int .i64 r.m) (by simpa using hi) (by omega) (by simp [R.ns]) ho
  refine ⟨?_, grown_trans (grown_trans (grown_trans b1 b2) b3) b4⟩
  simp only [List.set_set] at a4
  exact a4

end Go.Proofs.YthopokiablgjoaaGreatDoor.Recs

/- A tree in memory: its nodes as a list, its nodes as records (nodes, of the program; what LayerOfTree hands to each). -/
namespace Go.Proofs.YthopokiablgjoaaGreatDoor.Recs
set_option maxRecDepth 100000
open Go.RowKit Paths

theorem own_not {w : World} {base : Nat} {e e' : TypeId} {size : Nat} {v : Value} {m : Nat} {xs : List Value} (h : w.ownsRow base e size v m xs) (he : e ≠ e') {g : Nat} {cur : Array Value} {fz : Nat × Nat} (hg : w.heap[g]? = some (.cells cur e' fz)) : v.ownBlock ≠ some g := fun e0 => by
  rcases h.2 with ⟨rfl, _⟩ | ⟨g', cap, cur', rfl, _, hh, _⟩
  · cases e0
  · cases e0
    rw [hg] at hh
    simp only [Option.some.injEq, Obj.cells.injEq] at hh
    exact he hh.2.1.symm

end Go.Proofs.YthopokiablgjoaaGreatDoor.Recs

/- Rows of nodes: parts of a row as the source of an append; a copy of a list of nodes that is never nil. -/
namespace Go.Proofs.YthopokiablgjoaaGreatDoor.Recs
set_option maxRecDepth 100000
open Go.RowKit Paths

theorem own_down {w : World} {base base' : Nat} {e : TypeId} {size : Nat} {v : Value} {n : Nat} {xs : List Value} (h : w.ownsRow base e size v n xs) (hb : base' ≤ base) : w.ownsRow base' e size v n xs := by
  obtain ⟨h1, h2⟩ := h
  refine ⟨h1, ?_⟩
  rcases h2 with h2 | ⟨g, cap', cur, a, b, c⟩
  · exact .inl h2
  · exact .inr ⟨g, cap', cur, a, Nat.le_trans hb b, c⟩
end Go.Proofs.YthopokiablgjoaaGreatDoor.Recs

/- Stacks: slices of slices of records: what the memory holds; one that came in; the laws' own size, copy and comparison of them. -/
namespace Go.Proofs.YthopokiablgjoaaGreatDoor.Recs
set_option maxRecDepth 100000
open Go.RowKit Paths Go.WideShapes Go.ChangeShapes

/-- A slice of slices that reads as the lists LL. -/
def StkSl (w : World) (v : Value) (LL : List (List R)) : Prop :=
  ∃ A cap, v = .slice A LL.length cap ∧ LL.length ≤ cap ∧ (0 < LL.length → ∃ b off, A = some ⟨b, off, none⟩ ∧ b < w.heap.size ∧ ∀ i l, LL[i]? = some l → ∃ u, w.cell? ⟨b, off + i, none⟩ = some u ∧ RecSl w u l)
theorem StkSl.below {w w' : World} {v : Value} {LL : List (List R)} (h : StkSl w v LL) (hb : Below w.heap.size w w') : StkSl w' v LL := by
  obtain ⟨A, cap, rfl, hc, h⟩ := h
  refine ⟨A, cap, rfl, hc, fun hn => ?_⟩
  obtain ⟨b, off, rfl, hlt, hcell⟩ := h hn
  refine ⟨b, off, rfl, Nat.lt_of_lt_of_le hlt hb.size, fun i l hi => ?_⟩
  obtain ⟨u, h1, h2⟩ := hcell i l hi
  exact ⟨u, (hb.cell (p := ⟨b, off + i, none⟩) hlt).trans h1, h2.below hb⟩

section
variable {H : Type} {enc : TypeId × Value → H} {w : World} {base : Nat} {spare : Nat → Bool} {held : Bool}
theorem cSS : Tryz.prog.cellsOf 66 = 1 := by kernel_rfl
/-- The lists of a slice of slices of records that came in. -/
theorem open_stk {t : TypeId} {fuel : Nat} {cs : List Value} {x : DataW H × List MemPlace} (ht : Tryz.prog.underlying t = some (.slice 66))
    (h : DataW.trod enc Tryz.prog w base spare held fuel t cs = some x) :
    ∃ (v : Value) (LL : List (List R)), cs = [v] ∧ StkSl w v LL ∧ LL.length ≤ maxLen ∧ ∀ l ∈ LL, l.length ≤ maxLen ∧ ∀ r ∈ l, r.p.size ≤ maxLen ∧ r.b.size ≤ maxLen := by
  rcases DataW.trod_slice ht h with ⟨rfl, _⟩ | ⟨a, len, cap, elems, rest, n, _, rfl, _, _, hl, hm0, hel, hat, _, _⟩
  · exact ⟨_, [], rfl, ⟨none, 0, rfl, Nat.le_refl _, fun h => by cases h⟩, Nat.zero_le _, fun r hr => by cases hr⟩
  · rw [cSS] at hat
    have hone : ∀ i, i < len → ∃ (l : List R) (u : Value), w.cells? base (a.add (i * 1)) 1 = some [u] ∧ RecSl w u l ∧ l.length ≤ maxLen ∧ ∀ r ∈ l, r.p.size ≤ maxLen ∧ r.b.size ≤ maxLen := by
      intro i hi
      have h1 := hat i hi
      rw [List.getElem?_eq_getElem (by omega)] at h1
      obtain ⟨cs', hc, htr⟩ := Option.bind_eq_some_iff.1 h1
      obtain ⟨u, l, rfl, h1, h2, h3⟩ := open_recs Tryz.underlying66 htr
      exact ⟨l, u, hc, h1, h2, h3⟩
    have hall : ∀ m, m ≤ len → ∃ LL : List (List R), LL.length = m ∧ (∀ i l, LL[i]? = some l → ∃ u, w.cells? base (a.add (i * 1)) 1 = some [u] ∧ RecSl w u l) ∧ ∀ l ∈ LL, l.length ≤ maxLen ∧ ∀ r ∈ l, r.p.size ≤ maxLen ∧ r.b.size ≤ maxLen := by
      intro m
      induction m with
      | zero => exact fun _ => ⟨[], rfl, fun i r hi => by simp at hi, fun r hr => by cases hr⟩
      | succ m ih =>
        intro hm
        obtain ⟨LL, hL, h1, h2⟩ := ih (by omega)
        obtain ⟨l, u, hc, hu, hs1, hs2⟩ := hone m (by omega)
        refine ⟨LL ++ [l], by simp [hL], fun i q hi => ?_, fun q hq => ?_⟩
        · rcases Nat.lt_trichotomy i m with hj | hj | hj
          · rw [List.getElem?_append_left (by omega)] at hi
            exact h1 i q hi
          · subst hj
            rw [List.getElem?_append_right (by omega), hL] at hi
            simp at hi
            subst hi
            exact ⟨u, hc, hu⟩
          · rw [List.getElem?_append_right (by omega)] at hi
            rw [List.getElem?_eq_none (by simp; omega)] at hi
            cases hi
        · rcases List.mem_append.1 hq with hq | hq
          · exact h2 q hq
          · rw [List.mem_singleton.1 hq]; exact ⟨hs1, hs2⟩
    obtain ⟨LL, hL, hc, hs⟩ := hall len (Nat.le_refl _)
    subst hL
    refine ⟨_, LL, rfl, ⟨some a, cap, rfl, hl, fun hn => ?_⟩, Nat.le_trans hl hm0, hs⟩
    obtain ⟨b, off, spot⟩ := a
    obtain ⟨u0, hfirst, _⟩ := hc 0 LL[0] (by simp [hn])
    obtain ⟨_, _, hcell⟩ := World.cells?_some hfirst
    have h0 := hcell 0 (by omega)
    have hspot : spot = none := by simpa [Addr.add] using World.cell?_spot (h0.trans (by rfl))
    subst hspot
    refine ⟨b, off, rfl, World.block_lt_of_cell? w _ (h0.trans (by rfl)), fun i l hi => ?_⟩
    obtain ⟨u, hcu, hu⟩ := hc i l hi
    obtain ⟨_, _, hcell⟩ := World.cells?_some hcu
    have c0 := hcell 0 (by omega)
    simp [Addr.add_lit] at c0
    exact ⟨u, c0, hu⟩
end

set_option maxHeartbeats 800000 in
theorem eqRecordSS_same (v1 v2 : Value) (LL : List (List R)) (w : World) (h1 : StkSl w v1 LL) (h2 : StkSl w v2 LL) (hl : LL.length ≤ 1048576) (hll : ∀ l ∈ LL, l.length ≤ 1048576) :
    Calls Tryz.prog 54 #[v1, v2] w fun e w' => e = .returned (.bool true) ∧ Below w.heap.size w w' := by
  obtain ⟨A1, cap1, rfl, hcap1, h1⟩ := h1
  obtain ⟨A2, cap2, rfl, hcap2, h2⟩ := h2
  have H1 := Lib.hid h1
  have H2 := Lib.hid h2
  have HL := Lib.hid hll
  clear h1 h2 hll
  go_enter Tryz.func54, Tryz.ntmps54
  go_wp2
  go_loopw [5] (fun i wr => ∃ (j : Nat), j ≤ LL.length ∧ i = .int .i64 j ∧ Below w.heap.size w wr) (fun i _ => LL.length - (intOf i).toNat)
  case atStart => exact ⟨0, by omega, rfl, Below.refl _ _⟩
  case round =>
    obtain ⟨j, hj, rfl, hbw⟩ := hrel
    by_cases hlt : j < LL.length
    · obtain ⟨b1, off1, rfl, hb1, hcell1⟩ := H1.out (by omega)
      obtain ⟨b2, off2, rfl, hb2, hcell2⟩ := H2.out (by omega)
      obtain ⟨u1, c1, hu1⟩ := hcell1 j LL[j] (by simp [hlt])
      obtain ⟨u2, c2, hu2⟩ := hcell2 j LL[j] (by simp [hlt])
      have c1' := (hbw.cell (p := ⟨b1, off1 + j, none⟩) hb1).trans c1
      have c2' := (hbw.cell (p := ⟨b2, off2 + j, none⟩) hb2).trans c2
      have HE : ∀ w', Below w.heap.size w w' → Calls Tryz.prog 48 #[u1, u2] w' fun e w'' => e = .returned (.bool true) ∧ Below w'.heap.size w' w'' := fun w' hb => eqRecordS_same u1 u2 LL[j] w' (hu1.below hb) (hu2.below hb) (HL.out _ (List.getElem_mem hlt))
      obtain ⟨x1, d1, rfl, _⟩ := hu1
      obtain ⟨x2, d2, rfl, _⟩ := hu2
      clear hcell1 hcell2 c1 c2
      have HEE := Lib.hid HE
      clear HE
      have hi1 : (j : Int) < (LL.length : Int) := by omega
      have hi0 : (0 : Int) ≤ (j : Int) := by omega
      go_wp2_with fail
      go_still_tail 8, (by kernel_rfl)
      change wpList _ _ _ _ _ wr.drew
      have hbw' : Below w.heap.size w wr.drew := hbw.drew
      clear hbw
      generalize wr.drew = W2 at *
      go_wp2_with fail
      refine (HEE.out _ hbw').mono ?_
      rintro e w1 ⟨rfl, hb1⟩
      go_wp2_with fail
      go_roundw
      case rel => exact ⟨j + 1, by omega, by go_num, hbw'.trans (hb1.mono hbw'.size)⟩
      case measure => simp [intOf]; omega
    · obtain rfl : j = LL.length := by omega
      go_wp2
      go_ret
      exact ⟨rfl, hbw⟩
end Go.Proofs.YthopokiablgjoaaGreatDoor.Recs
