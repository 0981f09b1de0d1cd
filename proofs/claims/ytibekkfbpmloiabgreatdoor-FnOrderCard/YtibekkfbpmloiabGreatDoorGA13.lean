/- Parts of several texts of mine in one file (each begins with its own remark). -/
import Derived.Test.YtibekkfbpmloiabGreatDoorGA1
import Derived.Test.YtibekkfbpmloiabGreatDoorGA11
import Derived.Test.YtibekkfbpmloiabGreatDoorGA2
import Derived.Test.YtibekkfbpmloiabGreatDoorGA3
import Derived.Test.YtibekkfbpmloiabGreatDoorGA4
import Derived.Test.YtibekkfbpmloiabGreatDoorGA8
import Derived.Test.YtibekkfbpmloiabGreatDoorGA9
import Derived.Test.YtibekkfbpmloiabGreatDoorShelf
import Derived.Test.YtibekkfbpmloiabGreatDoorChecked
import Derived.Test.YtibekkfbpmloiabGreatDoorProg
import Derived.WalkLawsBesides
import Derived.BigQuiet
import Derived.Laws.BytesArg
import Derived.Deep.QuietTactic
import Derived.Deep.RegionHeld3
import Derived.Deep.Draws
import Derived.Deep.LoopGhost
import Derived.WalkKit
import Derived.WalkSpells
import Derived.WalkSmall
import Derived.Lib.OthersKept
import Derived.Lib.Hide
import Derived.Lib.Strings
import Derived.Lib.Join
import Derived.Stop.LaidErr
import Derived.StillTailTactics
import Derived.Laws.OwnMore
import Derived.BigRegion
import Derived.Deep.Slices
import Derived.OpenShut
import Derived.ShutString
import Derived.ChangeArms
import Derived.WideShapes
import Derived.Lib.LaidTab
import Derived.LaidEql
import Derived.Stop.Asserts
import Derived.Below
import Derived.Stop.LaidTwo
/- Paths: IsBelow, of the program and of its model. -/
namespace Go.Proofs.YtibekkfbpmloiabGreatDoor.Paths
open Go.RowKit

theorem mk_inj {A B : List (List UInt8)} (h : (A.map fun l => (⟨l.toArray⟩ : ByteArray)) = B.map fun l => (⟨l.toArray⟩ : ByteArray)) : A = B := by
  have := congrArg (List.map (·.data.toList)) h
  simpa [Function.comp_def] using this

theorem slicesEqual_any (v1 v2 : Value) (A B : List (List UInt8)) (w : World) (h1 : Strs w v1 A) (h2 : Strs w v2 B) (hl : A.length ≤ 1000) (hl2 : B.length ≤ 1000) : Calls Tryz.prog 172 #[v1, v2] w fun e w' => e = .returned (.bool (decide (A = B))) ∧ ∃ n, w' = w.drewN n := by
  obtain ⟨a1, c1, rfl, hc1, h1⟩ := h1
  obtain ⟨a2, c2, rfl, hc2, h2⟩ := h2
  by_cases hne : A.length = B.length
  case neg =>
    refine (Tryz.slices_Equal_string_lens a1 a2 _ c1 _ c2 w hne).mono ?_
    rintro e w' ⟨rfl, rfl⟩
    exact ⟨ret_bool (by simp; intro e; exact hne (by rw [e])), 0, rfl⟩
  by_cases h0 : A.length = 0
  · have hB : B = [] := List.eq_nil_of_length_eq_zero (by omega)
    have hA : A = [] := List.eq_nil_of_length_eq_zero h0
    subst hA hB
    refine (Tryz.slices_Equal_string_empty a1 a2 c1 _ c2 w (by simp)).mono ?_
    rintro e w' ⟨rfl, rfl⟩
    exact ⟨rfl, 0, rfl⟩
  obtain ⟨b1, o1, rfl, hb1, hcell1⟩ := h1 (by omega)
  obtain ⟨b2, o2, rfl, hb2, hcell2⟩ := h2 (by omega)
  refine (Tryz.slices_Equal_string b1 o1 _ c1 b2 o2 _ c2 (A.map fun l => (⟨l.toArray⟩ : ByteArray)) (B.map fun l => (⟨l.toArray⟩ : ByteArray)) w (by simp) (by simp) (by omega) (by omega) ?_ ?_).mono ?_
  · intro j hj
    rw [List.length_map] at hj
    rw [hcell1 j A[j] (by simp [hj])]
    simp [strV, List.getD, hj]
  · intro j hj
    rw [List.length_map] at hj
    rw [hcell2 j B[j] (by simp [hj])]
    simp [strV, List.getD, hj]
  · rintro e w' ⟨rfl, n, rfl⟩
    refine ⟨ret_bool ?_, n, rfl⟩
    rw [List.take_of_length_le (by simp), List.take_of_length_le (by simp)]
    by_cases h : A = B
    · rw [h]; simp
    · rw [decide_eq_false h, decide_eq_false (fun e => h (mk_inj e))]

def isBelowB (s t : ByteArray) : Bool := pathB s.data.toList && (decide (t.size = 0) || (pathB t.data.toList && belowL s.data.toList t.data.toList))
theorem below_root {s t : ByteArray} (h : t.size = 0) : isBelowB s t = pathB s.data.toList := by unfold isBelowB; rw [decide_eq_true h]; simp
theorem below_bad {s t : ByteArray} (h : t.size ≠ 0) (k : pathB t.data.toList = false) : isBelowB s t = false := by unfold isBelowB; rw [decide_eq_false h, k]; simp
theorem below_none {s t : ByteArray} (k : pathB s.data.toList = false) : isBelowB s t = false := by unfold isBelowB; rw [k]; rfl
theorem below_two {s t : ByteArray} (h : t.size ≠ 0) (k : pathB s.data.toList = true) (m : pathB t.data.toList = true) : isBelowB s t = belowL s.data.toList t.data.toList := by
  unfold isBelowB
  rw [k, decide_eq_false h, m]
  rfl

set_option maxHeartbeats 1000000 in
theorem isBelow_impl (s t : ByteArray) (w : World) (hs : s.size ≤ maxLen) (ht : t.size ≤ maxLen) : Calls Tryz.prog 110 #[.string s, .string t] w fun e w' => e = .returned (.bool (isBelowB s t)) ∧ Below w.heap.size w w' := by
  have hq := fun (w : World) (a : Option Addr) (n c n' c' : Nat) => Lib.run_eql_slice_nil (P := Tryz.prog) w 32 9 a n c n' c' Tryz.underlying32
  by_cases h0 : t.size = 0
  · have he := isEmpty_true h0
    have hT := pathB_empty h0
    have HR := Lib.hid (below_root (s := s) h0)
    clear h0
    go_enter Tryz.func110, Tryz.ntmps110
    go_wp2_with fail
    refine (splitPath_any s _ hs).mono ?_
    rintro e w1 ⟨v1, rfl, hp1⟩
    go_wp2_with fail
    refine (splitPath_any t _ ht).mono ?_
    rintro e w2 ⟨v2, rfl, hb2, ho2, hn2, _⟩
    obtain rfl := hn2 hT
    obtain ⟨A1, cap1, rfl, hA1⟩ := split_nil hp1
    obtain ⟨hb1, ho1, _, _⟩ := hp1
    have hb12 := hb1.trans (hb2.mono hb1.size)
    rcases Bool.eq_false_or_eq_true (pathB s.data.toList) with h1 | h1
    · rw [partsOf_yes h1] at *
      have l1 := cutAt_pos 47 s.data.toList
      have l4 := (pathB_parts h1).1
      have hd : decide ((0 : Int) < ((cutAt 47 s.data.toList).length : Int)) = true := by simp; omega
      obtain ⟨g, cap, e, hcap, _, hg, _⟩ := own_slice ho1 (by omega)
      cases e
      have st := Lib.hid ((Strs.own (own_below ho1 hb2)).take (k := 0) (by omega))
      simp only [List.take_zero] at st
      have st2 : Hid (Strs w2 (.slice none 0 0) []) := ⟨none, 0, rfl, by simp, fun h => by simp at h⟩
      clear ho1 ho2 hn2
      generalize cutAt 47 s.data.toList = L at *
      go_wp2_with fail
      refine (slicesEqual_any _ _ [] [] _ st.out st2.out (by simp) (by simp)).mono ?_
      rintro e w3 ⟨rfl, n, rfl⟩
      go_wp2_with fail
      go_ret
      exact ⟨ret_bool (by rw [HR.out, h1]), below_drewN hb12 _⟩
    · rw [partsOf_no h1] at *
      clear ho1 ho2 hn2
      go_wp2_with fail
      go_ret
      exact ⟨ret_bool (by rw [HR.out, h1]), hb12⟩
  · have he := isEmpty_false (by omega : 0 < t.size)
    have H0 := Lib.hid h0
    clear h0
    go_enter Tryz.func110, Tryz.ntmps110
    go_wp2_with fail
    refine (splitPath_any s _ hs).mono ?_
    rintro e w1 ⟨v1, rfl, hp1⟩
    go_wp2_with fail
    refine (splitPath_any t _ ht).mono ?_
    rintro e w2 ⟨v2, rfl, hp2⟩
    obtain ⟨A1, cap1, rfl, hA1⟩ := split_nil hp1
    obtain ⟨A2, cap2, rfl, hA2⟩ := split_nil hp2
    obtain ⟨hb1, ho1, _, _⟩ := hp1
    obtain ⟨hb2, ho2, _, _⟩ := hp2
    have hb12 := hb1.trans (hb2.mono hb1.size)
    rcases Bool.eq_false_or_eq_true (pathB t.data.toList) with h2 | h2
    case inr =>
      have HL := Lib.hid (below_bad (s := s) H0.out h2)
      rw [h2] at hA2
      clear ho1 ho2
      go_wp2_with fail
      go_ret
      exact ⟨ret_bool HL.out.symm, hb12⟩
    rw [h2] at hA2
    rcases Bool.eq_false_or_eq_true (pathB s.data.toList) with h1 | h1
    case inr =>
      have HL := Lib.hid (below_none (t := t) h1)
      rw [partsOf_no h1] at *
      have hd : decide (((partsOf t.data.toList).length : Int) < 0) = false := by simp
      clear ho1 ho2
      go_wp2_with fail
      go_ret
      exact ⟨ret_bool HL.out.symm, hb12⟩
    have HL := Lib.hid ((below_two H0.out h1 h2).trans (below_cut _ _).symm)
    rw [partsOf_yes h1] at *
    rw [partsOf_yes h2] at *
    have l1 := (pathB_parts h1).1
    have l2 := (pathB_parts h2).1
    have l0 := cutAt_pos 47 s.data.toList
    generalize hX : cutAt 47 s.data.toList = X at *
    generalize hY : cutAt 47 t.data.toList = Y at *
    have HX := Lib.hid hX
    have HY := Lib.hid hY
    clear hX hY
    obtain ⟨g, cap, e, hcap, _, hg, _⟩ := own_slice ho1 (by omega)
    cases e
    by_cases hlt : Y.length < X.length
    · have st := Lib.hid ((Strs.own (own_below ho1 hb2)).take (k := Y.length) (by omega))
      have st2 := Lib.hid (Strs.own ho2)
      have HF : Hid (belowP X Y = decide (X.take Y.length = Y)) := by
        show _ = _
        unfold belowP
        rw [decide_eq_true hlt, Bool.true_and, Bool.eq_iff_iff]
        simp
      clear ho1 ho2
      go_wp2_with fail
      refine (slicesEqual_any _ _ _ _ _ st.out st2.out (by simp; omega) (by omega)).mono ?_
      rintro e w3 ⟨rfl, n, rfl⟩
      go_wp2_with fail
      go_ret
      exact ⟨ret_bool (by rw [HL.out, HF.out]), below_drewN hb12 _⟩
    · have HF : Hid (belowP X Y = false) := by
        show _ = _
        unfold belowP
        rw [decide_eq_false hlt]
        rfl
      clear ho1 ho2
      go_wp2_with fail
      go_ret
      exact ⟨ret_bool (by rw [HL.out, HF.out]), hb12⟩

theorem below_hit {s t : ByteArray} (hlt : t.size < s.size) (h : (s.extract 0 t.size).toList = t.toList) : ((s[t.size].toNat : Int) == 47) = belowL s.data.toList t.data.toList := by
  rw [Lib.toList_data, Lib.toList_data, extract_take] at h
  unfold belowL
  rw [← Lib.size_eq, ← Lib.size_eq, decide_eq_true hlt, h, drop_cons s t.size hlt, Bool.eq_iff_iff]
  simp only [beq_self_eq_true, Bool.and_self, Bool.true_and, List.head?_cons, beq_iff_eq, Option.some.injEq]
  constructor
  · intro e
    exact UInt8.toNat_inj.1 (by show _ = 47; omega)
  · intro e
    rw [e]
    rfl
theorem below_miss {s t : ByteArray} (h : ¬ (s.extract 0 t.size).toList = t.toList) : false = belowL s.data.toList t.data.toList := by
  rw [Lib.toList_data, Lib.toList_data, extract_take] at h
  unfold belowL
  rw [← Lib.size_eq t, beq_false_of_ne h]
  simp
theorem l01Below_two (s t : ByteArray) (w : World) (h : 0 < t.size) (_hs : s.size ≤ 65536) (_ht : t.size ≤ 65536) : Calls Tryz.prog 180 #[.string s, .string t] w fun e w' => e = .returned (.bool (belowL s.data.toList t.data.toList)) ∧ w = w' := by
  have he := isEmpty_false h
  by_cases hlt : t.size < s.size
  · have hi0 : (0 : Int) ≤ (t.size : Int) := by omega
    have hi1 : (t.size : Int) < (s.size : Int) := by omega
    go_enter Tryz.func180, Tryz.ntmps180
    go_wp2
    · have h3 : (s.extract 0 t.size).toList = t.toList := by assumption
      go_ret
      exact ⟨ret_bool (below_hit hlt h3), rfl⟩
    · have h3 : ¬ (s.extract 0 t.size).toList = t.toList := by assumption
      go_ret
      exact ⟨ret_bool (below_miss h3), rfl⟩
  · have HF : Hid (belowL s.data.toList t.data.toList = false) := by
      show _ = _
      unfold belowL
      rw [← Lib.size_eq, ← Lib.size_eq, decide_eq_false hlt]
      rfl
    go_enter Tryz.func180, Tryz.ntmps180
    go_wp2
    go_ret
    exact ⟨ret_bool HF.out.symm, rfl⟩

end Go.Proofs.YtibekkfbpmloiabGreatDoor.Paths

/- Layers: the program's searches (slices.IndexFunc, slices.ContainsFunc, with what it hands them). -/
namespace Go.Proofs.YtibekkfbpmloiabGreatDoor.Recs
set_option maxRecDepth 100000
open Go.RowKit Paths

/-- The place of the first record that a test takes, counted from n on; -1 of none. -/
def idxFrom (P : R → Bool) : List R → Nat → Int
  | [], _ => -1
  | r :: t, n => if P r then (n : Int) else idxFrom P t (n + 1)
theorem idx_step {P : R → Bool} {l : List R} {k : Nat} (h : k < l.length) : idxFrom P (l.drop k) k = if P l[k] then (k : Int) else idxFrom P (l.drop (k + 1)) (k + 1) := by
  rw [List.drop_eq_getElem_cons h]
  rfl
theorem idx_end {P : R → Bool} {l : List R} {k : Nat} (h : l.length ≤ k) : idxFrom P (l.drop k) k = -1 := by
  rw [List.drop_eq_nil_of_le h]
  rfl
theorem idx_at (q : ByteArray) : ∀ (l : List R) (n : Nat), idxFrom (fun r => r.p.toList == q.toList) l n = atFrom l n q
  | [], _ => rfl
  | r :: t, n => by
    simp only [idxFrom, atFrom]
    rw [idx_at q t (n + 1)]
    by_cases h : r.p = q
    · rw [if_pos h, if_pos (by rw [h]; simp)]
    · rw [if_neg h, if_neg (fun e => h (str_eq_of e))]
theorem idx_any (P : R → Bool) : ∀ (l : List R) (n : Nat), decide (0 ≤ idxFrom P l n) = l.any P
  | [], _ => rfl
  | r :: t, n => by
    rcases Bool.eq_false_or_eq_true (P r) with h | h
    · simp [idxFrom, h]
    · have := idx_any P t (n + 1)
      simp only [idxFrom, List.any_cons, h]
      simpa using this

set_option maxHeartbeats 800000 in
theorem indexFunc_path (v : Value) (l : List R) (c : Addr) (P : R → Bool) (w : World) (h : RecSl w v l) (hl : l.length ≤ 1048576)
    (HF : ∀ r ∈ l, ∀ w', Below w.heap.size w w' → Calls Tryz.prog 168 #[r.val, .pointer (some c)] w' fun e w'' => e = .returned (.bool (P r)) ∧ Below w'.heap.size w' w'') :
    Calls Tryz.prog 167 #[v, .func (.func 168) #[] #[.pointer (some c)]] w fun e w' => e = .returned (.int .i64 (idxFrom P l 0)) ∧ Below w.heap.size w w' := by
  obtain ⟨A, cap, rfl, hcap, h⟩ := h
  have H := Lib.hid h
  have HFh := Lib.hid HF
  clear h HF
  go_enter Tryz.func167, Tryz.ntmps167
  go_wp2
  go_loopw [8] (fun i wr => ∃ k : Nat, k ≤ l.length ∧ i = .int .i64 k ∧ Hid (idxFrom P l 0 = idxFrom P (l.drop k) k) ∧ Below w.heap.size w wr) (fun i _ => l.length - (intOf i).toNat)
  case atStart => exact ⟨0, by omega, rfl, rfl, Below.refl _ _⟩
  case round =>
    obtain ⟨k, hk, rfl, HK, hbw⟩ := hrel
    by_cases hlt : k < l.length
    · obtain ⟨b, off, rfl, hb, hcell⟩ := H.out (by omega)
      obtain ⟨c0, c1, c2, c3, c4⟩ := (hcell k l[k] (by simp [hlt])).below hbw hb
      have HS := Lib.hid (HK.out.trans (idx_step hlt))
      clear hcell HK
      have hi1 : (k : Int) < (l.length : Int) := by omega
      have hi0 : (0 : Int) ≤ (k : Int) := by omega
      have HC := HFh.out l[k] (List.getElem_mem hlt) _ hbw
      unfold R.val at HC
      rcases Bool.eq_false_or_eq_true (P l[k]) with he | he
      · have HE : Hid (idxFrom P l 0 = k) := by show _ = _; rw [HS.out, if_pos he]
        go_wp2_with (go_at_call 168; refine HC.mono ?_; rintro e w1 ⟨rfl, hb1⟩)
        go_ret
        exact ⟨ret_int HE.out.symm, hbw.trans (hb1.mono hbw.size)⟩
      · have HE : Hid (idxFrom P l 0 = idxFrom P (l.drop (k + 1)) (k + 1)) := by show _ = _; rw [HS.out, if_neg (by rw [he]; decide)]
        go_wp2_with (go_at_call 168; refine HC.mono ?_; rintro e w1 ⟨rfl, hb1⟩)
        exact ⟨⟨k + 1, by omega, by go_num, HE, hbw.trans (hb1.mono hbw.size)⟩, by simp [intOf]; omega⟩
    · have HE := Lib.hid (HK.out.trans (idx_end (by omega)))
      go_wp2
      go_ret
      exact ⟨ret_int HE.out.symm, hbw⟩

set_option maxHeartbeats 800000 in
theorem indexFunc_under (v : Value) (l : List R) (c : Addr) (P : R → Bool) (w : World) (h : RecSl w v l) (hl : l.length ≤ 1048576)
    (HF : ∀ r ∈ l, ∀ w', Below w.heap.size w w' → Calls Tryz.prog 200 #[r.val, .pointer (some c)] w' fun e w'' => e = .returned (.bool (P r)) ∧ Below w'.heap.size w' w'') :
    Calls Tryz.prog 167 #[v, .func (.func 200) #[] #[.pointer (some c)]] w fun e w' => e = .returned (.int .i64 (idxFrom P l 0)) ∧ Below w.heap.size w w' := by
  obtain ⟨A, cap, rfl, hcap, h⟩ := h
  have H := Lib.hid h
  have HFh := Lib.hid HF
  clear h HF
  go_enter Tryz.func167, Tryz.ntmps167
  go_wp2
  go_loopw [8] (fun i wr => ∃ k : Nat, k ≤ l.length ∧ i = .int .i64 k ∧ Hid (idxFrom P l 0 = idxFrom P (l.drop k) k) ∧ Below w.heap.size w wr) (fun i _ => l.length - (intOf i).toNat)
  case atStart => exact ⟨0, by omega, rfl, rfl, Below.refl _ _⟩
  case round =>
    obtain ⟨k, hk, rfl, HK, hbw⟩ := hrel
    by_cases hlt : k < l.length
    · obtain ⟨b, off, rfl, hb, hcell⟩ := H.out (by omega)
      obtain ⟨c0, c1, c2, c3, c4⟩ := (hcell k l[k] (by simp [hlt])).below hbw hb
      have HS := Lib.hid (HK.out.trans (idx_step hlt))
      clear hcell HK
      have hi1 : (k : Int) < (l.length : Int) := by omega
      have hi0 : (0 : Int) ≤ (k : Int) := by omega
      have HC := HFh.out l[k] (List.getElem_mem hlt) _ hbw
      unfold R.val at HC
      rcases Bool.eq_false_or_eq_true (P l[k]) with he | he
      · have HE : Hid (idxFrom P l 0 = k) := by show _ = _; rw [HS.out, if_pos he]
        go_wp2_with (go_at_call 200; refine HC.mono ?_; rintro e w1 ⟨rfl, hb1⟩)
        go_ret
        exact ⟨ret_int HE.out.symm, hbw.trans (hb1.mono hbw.size)⟩
      · have HE : Hid (idxFrom P l 0 = idxFrom P (l.drop (k + 1)) (k + 1)) := by show _ = _; rw [HS.out, if_neg (by rw [he]; decide)]
        go_wp2_with (go_at_call 200; refine HC.mono ?_; rintro e w1 ⟨rfl, hb1⟩)
        exact ⟨⟨k + 1, by omega, by go_num, HE, hbw.trans (hb1.mono hbw.size)⟩, by simp [intOf]; omega⟩
    · have HE := Lib.hid (HK.out.trans (idx_end (by omega)))
      go_wp2
      go_ret
      exact ⟨ret_int HE.out.symm, hbw⟩

theorem path_test (r : R) (c : Nat) (q : ByteArray) (w : World) (h : w.cell? ⟨c, 0, none⟩ = some (.string q)) :
    Calls Tryz.prog 168 #[r.val, .pointer (some ⟨c, 0, none⟩)] w fun e w' => e = .returned (.bool (r.p.toList == q.toList)) ∧ Below w.heap.size w w' := by
  unfold R.val
  have h1 : (w.alloc (.cells #[.int .i64 r.k, .string r.p, .string r.b, .int .i64 r.m, .bool r.o] 53)).cell? ⟨c, 0, none⟩ = some (.string q) := cell?_alloc_old _ h
  go_enter Tryz.func168, Tryz.ntmps168
  go_wp2
  go_ret
  exact ⟨rfl, (Below.refl _ _).alloc (Nat.le_refl _) _⟩

theorem indexOfPath_any (v : Value) (l : List R) (q : ByteArray) (w : World) (h : RecSl w v l) (hl : l.length ≤ 1048576) :
    Calls Tryz.prog 103 #[v, .string q] w fun e w' => e = .returned (.int .i64 (atL l q)) ∧ Below w.heap.size w w' := by
  have hb0 : Below w.heap.size w (w.alloc (.cells #[.string q] 9)) := (Below.refl _ _).alloc (Nat.le_refl _) _
  have hc0 : (w.alloc (.cells #[.string q] 9)).cell? ⟨w.heap.size, 0, none⟩ = some (.string q) := by go_simp
  have h0 := h.below hb0
  have HC := indexFunc_path v l ⟨w.heap.size, 0, none⟩ (fun r => r.p.toList == q.toList) (w.alloc (.cells #[.string q] 9)) h0 hl
    (fun r _ w' hb => path_test r w.heap.size q w' ((hb.cell (p := ⟨w.heap.size, 0, none⟩) (by simp)).trans hc0))
  rw [idx_at] at HC
  obtain ⟨A, cap, rfl, _⟩ := h
  go_enter Tryz.func103, Tryz.ntmps103
  go_wp2_with fail
  refine HC.mono ?_
  rintro e w1 ⟨rfl, hb1⟩
  go_wp2_with fail
  go_ret
  exact ⟨rfl, hb0.trans (hb1.mono hb0.size)⟩

theorem under_test (r : R) (c : Nat) (q : ByteArray) (w : World) (h : w.cell? ⟨c, 0, none⟩ = some (.string q)) (hq : q.size ≤ maxLen) (hr : r.p.size ≤ maxLen) :
    Calls Tryz.prog 200 #[r.val, .pointer (some ⟨c, 0, none⟩)] w fun e w' => e = .returned (.bool (r.o && isBelowB q r.p)) ∧ Below w.heap.size w w' := by
  unfold R.val
  have h1 : (w.alloc (.cells #[.int .i64 r.k, .string r.p, .string r.b, .int .i64 r.m, .bool r.o] 53)).cell? ⟨c, 0, none⟩ = some (.string q) := cell?_alloc_old _ h
  have hb0 : Below w.heap.size w (w.alloc (.cells #[.int .i64 r.k, .string r.p, .string r.b, .int .i64 r.m, .bool r.o] 53)) := (Below.refl _ _).alloc (Nat.le_refl _) _
  rcases Bool.eq_false_or_eq_true r.o with ho | ho
  · rw [ho] at h1 hb0 ⊢
    go_enter Tryz.func200, Tryz.ntmps200
    go_wp2_with fail
    refine (isBelow_impl _ _ _ hq hr).mono ?_
    rintro e w1 ⟨rfl, hb1⟩
    go_wp2_with fail
    go_ret
    exact ⟨rfl, hb0.trans (hb1.mono hb0.size)⟩
  · rw [ho] at h1 hb0 ⊢
    go_enter Tryz.func200, Tryz.ntmps200
    go_wp2_with fail
    go_ret
    exact ⟨rfl, hb0⟩

theorem containsFunc_any (v f : Value) (n : Int) (w : World)
    (HC : Calls Tryz.prog 167 #[v, f] w fun e w' => e = .returned (.int .i64 n) ∧ Below w.heap.size w w') :
    Calls Tryz.prog 199 #[v, f] w fun e w' => e = .returned (.bool (decide (0 ≤ n))) ∧ Below w.heap.size w w' := by
  go_enter Tryz.func199, Tryz.ntmps199
  go_wp2_with fail
  refine HC.mono ?_
  rintro e w1 ⟨rfl, hb1⟩
  go_wp2_with fail
  go_ret
  exact ⟨rfl, hb1⟩

/-- A record that is Opaque lies above the path. -/
def underI (l : List R) (q : ByteArray) : Bool := l.any fun r => r.o && isBelowB q r.p
theorem underOpaque_any (v : Value) (l : List R) (q : ByteArray) (w : World) (h : RecSl w v l) (hl : l.length ≤ 1048576) (hq : q.size ≤ maxLen) (hr : ∀ r ∈ l, r.p.size ≤ maxLen) :
    Calls Tryz.prog 148 #[v, .string q] w fun e w' => e = .returned (.bool (underI l q)) ∧ Below w.heap.size w w' := by
  have hb0 : Below w.heap.size w (w.alloc (.cells #[.string q] 9)) := (Below.refl _ _).alloc (Nat.le_refl _) _
  have hc0 : (w.alloc (.cells #[.string q] 9)).cell? ⟨w.heap.size, 0, none⟩ = some (.string q) := by go_simp
  have h0 := h.below hb0
  have HC := indexFunc_under v l ⟨w.heap.size, 0, none⟩ (fun r => r.o && isBelowB q r.p) (w.alloc (.cells #[.string q] 9)) h0 hl
    (fun r hm w' hb => under_test r w.heap.size q w' ((hb.cell (p := ⟨w.heap.size, 0, none⟩) (by simp)).trans hc0) hq (hr r hm))
  have HD := containsFunc_any _ _ _ _ HC
  rw [idx_any] at HD
  obtain ⟨A, cap, rfl, _⟩ := h
  go_enter Tryz.func148, Tryz.ntmps148
  go_wp2_with fail
  refine HD.mono ?_
  rintro e w1 ⟨rfl, hb1⟩
  go_wp2_with fail
  go_ret
  exact ⟨rfl, hb0.trans (hb1.mono hb0.size)⟩
end Go.Proofs.YtibekkfbpmloiabGreatDoor.Recs

/- Errors: errors.Is at nil, at a sentinel, at the program's own error that names a record. Conditions: as each states. -/
namespace Go.Proofs.YtibekkfbpmloiabGreatDoor.Errs
set_option maxRecDepth 100000
open Go.RowKit Go.Extern

/-! ### Closed facts of the types -/
theorem typeOfE (v : Value) (w : World) : (Extern.ReflectliteType.typeOf #[.iface 277 v]).run Tryz.prog w = .ok (.iface 217 (.agg #[.pointer (some ⟨4, 277, none⟩)])) w := by kernel_rfl
theorem compE (w : World) : ((Extern.ReflectliteType.method fun t => do Extern.Rtype.noPackHeld "Comparable" t; (fun a => Value.bool a.comparable) <$> typeInfo t) #[.agg #[.pointer (some ⟨4, 277, none⟩)]]).run Tryz.prog w = .ok (.bool true) w := by kernel_rfl
theorem methodComp (n : Nat) (v : Value) (w : World) : (Go.method (n + 1) 217 v "Comparable").run Tryz.prog w = .ok (274, v) w := by kernel_rfl
theorem methodUnwrap (n : Nat) (i c : Int) (w : World) : (Go.method (n + 1) 161 (.agg #[.int .i64 i, .int .i64 c]) "Unwrap").run Tryz.prog w = .ok (269, .agg #[.int .i64 i, .int .i64 c]) w := by kernel_rfl
theorem strComp : (Tryz.prog.info? 277).map (·.comparable) = some true := by kernel_rfl
theorem strSize : (Tryz.prog.info? 300).map (·.size) = some 1 := by kernel_rfl

theorem noIsE (v : Value) (xT : TypeId) (w : World) : (Instr.typeAssert (.iface 277 v) xT 219 true).run Tryz.prog w = .ok (.tuple #[.nilIface, .bool false]) w := run_typeAssert_lacksB Tryz.underlying219 (by kernel_rfl) (by kernel_rfl) v xT w
theorem noUnwrapE (v : Value) (xT : TypeId) (w : World) : (Instr.typeAssert (.iface 277 v) xT 222 true).run Tryz.prog w = .ok (.tuple #[.nilIface, .bool false]) w := run_typeAssert_lacksB Tryz.underlying222 (by kernel_rfl) (by kernel_rfl) v xT w
theorem noUnwrapsE (v : Value) (xT : TypeId) (w : World) : (Instr.typeAssert (.iface 277 v) xT 224 true).run Tryz.prog w = .ok (.tuple #[.nilIface, .bool false]) w := run_typeAssert_lacksB Tryz.underlying224 (by kernel_rfl) (by kernel_rfl) v xT w
theorem noIsR (v : Value) (xT : TypeId) (w : World) : (Instr.typeAssert (.iface 161 v) xT 219 true).run Tryz.prog w = .ok (.tuple #[.nilIface, .bool false]) w := run_typeAssert_lacksB Tryz.underlying219 (by kernel_rfl) (by kernel_rfl) v xT w
theorem hasUnwrapR (v : Value) (xT : TypeId) (w : World) : (Instr.typeAssert (.iface 161 v) xT 222 true).run Tryz.prog w = .ok (.tuple #[.iface 161 v, .bool true]) w := run_typeAssert_hasB Tryz.underlying222 (by kernel_rfl) v xT w

/-- An error of errors.New's make. -/
def errV (a : Addr) : Value := .iface 277 (.pointer (some a))
/-- The program's error that names a record. -/
def recV (i c : Int) : Value := .iface 161 (.agg #[.int .i64 i, .int .i64 c])

theorem is_same (a : Addr) (w : World) :
    Calls Tryz.prog 129 #[errV a, errV a] w fun e w' => e = .returned (.bool true) ∧ w' = w := by
  obtain ⟨i, hi, hcmp⟩ := Option.map_eq_some_iff.1 strComp
  obtain ⟨j, hj, hjs⟩ := Option.map_eq_some_iff.1 strSize
  have h8 := @run_callFunc_extern Tryz.prog 184 _ Extern.ReflectliteType.typeOf Tryz.func184 (by kernel_rfl) (by kernel_rfl) (by kernel_rfl) (by kernel_rfl)
  have h32 := @run_callFunc_extern Tryz.prog 274 _ (Extern.ReflectliteType.method fun t => do Extern.Rtype.noPackHeld "Comparable" t; pure (.bool (← typeInfo t).comparable)) Tryz.func274 (by kernel_rfl) (by kernel_rfl) (by kernel_rfl) (by kernel_rfl)
  have tT := typeOfE
  have cT := compE
  have mR := methodComp
  unfold errV
  have heq := run_eql_iface_ptr_same (P := Tryz.prog) w a Tryz.underlying83 Tryz.underlying277 hi hcmp hj
  go_enter Tryz.func129, Tryz.ntmps129
  go_wp2
  refine wp_loop_rounds 1 ?_
  rw [rounds_succ]
  go_wp2
  go_ret
  exact ⟨rfl, rfl⟩

theorem is_nil (b : Addr) (w : World) :
    Calls Tryz.prog 129 #[.nilIface, errV b] w fun e w' => e = .returned (.bool false) ∧ w' = w := by
  unfold errV
  have hn := run_eql_iface_nil_left (P := Tryz.prog) w 277 (.pointer (some b)) Tryz.underlying83
  go_enter Tryz.func129, Tryz.ntmps129
  go_wp2
  go_ret
  exact ⟨rfl, rfl⟩

theorem is_other (a b : Addr) (ca cb : Array Value) (ta tb : TypeId) (w : World) (hne : a ≠ b) (ha : w.heap[a.block]? = some (.cells ca ta (0, 0))) (hb : w.heap[b.block]? = some (.cells cb tb (0, 0))) :
    Calls Tryz.prog 129 #[errV a, errV b] w fun e w' => e = .returned (.bool false) ∧ w' = w := by
  obtain ⟨i, hi, hcmp⟩ := Option.map_eq_some_iff.1 strComp
  obtain ⟨j, hj, hjs⟩ := Option.map_eq_some_iff.1 strSize
  have h8 := @run_callFunc_extern Tryz.prog 184 _ Extern.ReflectliteType.typeOf Tryz.func184 (by kernel_rfl) (by kernel_rfl) (by kernel_rfl) (by kernel_rfl)
  have h32 := @run_callFunc_extern Tryz.prog 274 _ (Extern.ReflectliteType.method fun t => do Extern.Rtype.noPackHeld "Comparable" t; pure (.bool (← typeInfo t).comparable)) Tryz.func274 (by kernel_rfl) (by kernel_rfl) (by kernel_rfl) (by kernel_rfl)
  have tT := typeOfE
  have cT := compE
  have mR := methodComp
  have nE := noIsE
  have uE := noUnwrapE
  have vE := noUnwrapsE
  unfold errV
  have heq := run_eql_iface_ptr_other (P := Tryz.prog) w Tryz.underlying83 Tryz.underlying277 hi hcmp hj (by rw [hjs]; decide) hne ha hb
  go_enter Tryz.func129, Tryz.ntmps129
  go_wp2
  refine wp_loop_rounds 1 ?_
  rw [rounds_succ]
  go_wp2
  go_ret
  exact ⟨rfl, rfl⟩

theorem unwrap_any (i c : Int) (x : Addr) (w : World) (hx : w.cell? ⟨1, 0, none⟩ = some (errV x)) :
    Calls Tryz.prog 269 #[.agg #[.int .i64 i, .int .i64 c]] w fun e w' => e = .returned (errV x) ∧ Below w.heap.size w w' := by
  unfold errV at hx ⊢
  have hx1 : (w.alloc (.cells #[.int .i64 i, .int .i64 c] 161)).cell? ⟨1, 0, none⟩ = some (.iface 277 (.pointer (some x))) := cell?_alloc_old _ hx
  go_enter Tryz.func269, Tryz.ntmps269
  go_wp2
  go_ret
  exact ⟨rfl, (Below.refl _ _).alloc (Nat.le_refl _) _⟩

/-- errors.Is(e, x), e the error that names a record, x what it wraps. -/
theorem is_rec_same (i c : Int) (x : Addr) (w : World) (hx : w.cell? ⟨1, 0, none⟩ = some (errV x)) :
    Calls Tryz.prog 129 #[recV i c, errV x] w fun e w' => e = .returned (.bool true) ∧ Below w.heap.size w w' := by
  obtain ⟨i0, hi, hcmp⟩ := Option.map_eq_some_iff.1 strComp
  obtain ⟨j0, hj, hjs⟩ := Option.map_eq_some_iff.1 strSize
  have h8 := @run_callFunc_extern Tryz.prog 184 _ Extern.ReflectliteType.typeOf Tryz.func184 (by kernel_rfl) (by kernel_rfl) (by kernel_rfl) (by kernel_rfl)
  have h32 := @run_callFunc_extern Tryz.prog 274 _ (Extern.ReflectliteType.method fun t => do Extern.Rtype.noPackHeld "Comparable" t; pure (.bool (← typeInfo t).comparable)) Tryz.func274 (by kernel_rfl) (by kernel_rfl) (by kernel_rfl) (by kernel_rfl)
  have tT := typeOfE
  have cT := compE
  have mR := methodComp
  have nW := noIsR
  have uW := hasUnwrapR
  have mU := methodUnwrap
  have heq := fun w' => run_eql_iface_ptr_same (P := Tryz.prog) w' x Tryz.underlying83 Tryz.underlying277 hi hcmp hj
  have hty := run_eql_iface_types (P := Tryz.prog) 161 277 (.agg #[.int .i64 i, .int .i64 c]) (.pointer (some x)) Tryz.underlying83 (by decide) w
  have HU := unwrap_any i c x w hx
  unfold recV
  unfold errV at *
  go_enter Tryz.func129, Tryz.ntmps129
  go_wp2
  refine wp_loop_rounds 2 ?_
  rw [rounds_succ]
  go_wp2_with (go_at_call 269; refine HU.mono ?_; rintro e w1 ⟨rfl, hb1⟩)
  rw [rounds_succ]
  go_wp2
  go_ret
  exact ⟨rfl, hb1⟩

/-- errors.Is(e, y), y another sentinel than the one that e wraps. -/
theorem is_rec_other (i c : Int) (x y : Addr) (cx cy : Array Value) (tx ty : TypeId) (w : World) (hx : w.cell? ⟨1, 0, none⟩ = some (errV x)) (hne : x ≠ y)
    (ha : w.heap[x.block]? = some (.cells cx tx (0, 0))) (hb : w.heap[y.block]? = some (.cells cy ty (0, 0))) :
    Calls Tryz.prog 129 #[recV i c, errV y] w fun e w' => e = .returned (.bool false) ∧ Below w.heap.size w w' := by
  obtain ⟨i0, hi, hcmp⟩ := Option.map_eq_some_iff.1 strComp
  obtain ⟨j0, hj, hjs⟩ := Option.map_eq_some_iff.1 strSize
  have h8 := @run_callFunc_extern Tryz.prog 184 _ Extern.ReflectliteType.typeOf Tryz.func184 (by kernel_rfl) (by kernel_rfl) (by kernel_rfl) (by kernel_rfl)
  have h32 := @run_callFunc_extern Tryz.prog 274 _ (Extern.ReflectliteType.method fun t => do Extern.Rtype.noPackHeld "Comparable" t; pure (.bool (← typeInfo t).comparable)) Tryz.func274 (by kernel_rfl) (by kernel_rfl) (by kernel_rfl) (by kernel_rfl)
  have tT := typeOfE
  have cT := compE
  have mR := methodComp
  have nE := noIsE
  have uE := noUnwrapE
  have vE := noUnwrapsE
  have nW := noIsR
  have uW := hasUnwrapR
  have mU := methodUnwrap
  have hty := run_eql_iface_types (P := Tryz.prog) 161 277 (.agg #[.int .i64 i, .int .i64 c]) (.pointer (some y)) Tryz.underlying83 (by decide) w
  have HU := unwrap_any i c x w hx
  unfold recV
  unfold errV at *
  go_enter Tryz.func129, Tryz.ntmps129
  go_wp2
  refine wp_loop_rounds 2 ?_
  rw [rounds_succ]
  go_wp2_with (go_at_call 269; refine HU.mono ?_; rintro e w1 ⟨rfl, hb1⟩)
  have heq := run_eql_iface_ptr_other (P := Tryz.prog) w1 Tryz.underlying83 Tryz.underlying277 hi hcmp hj (by rw [hjs]; decide) hne ((hb1.block _ (Array.getElem?_eq_some_iff.1 ha).1).trans ha) ((hb1.block _ (Array.getElem?_eq_some_iff.1 hb).1).trans hb)
  rw [rounds_succ]
  go_wp2
  go_ret
  exact ⟨rfl, hb1⟩

end Go.Proofs.YtibekkfbpmloiabGreatDoor.Errs
