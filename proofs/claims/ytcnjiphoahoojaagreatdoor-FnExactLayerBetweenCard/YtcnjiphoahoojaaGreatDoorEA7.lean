/- Parts of several texts of mine in one file (each begins with its own remark). -/
import Derived.Test.YtcnjiphoahoojaaGreatDoorEA1
import Derived.Test.YtcnjiphoahoojaaGreatDoorEA2
import Derived.Test.YtcnjiphoahoojaaGreatDoorEA3
import Derived.Test.YtcnjiphoahoojaaGreatDoorEA4
import Derived.Test.YtcnjiphoahoojaaGreatDoorEA5
import Derived.Test.YtcnjiphoahoojaaGreatDoorEA6
import Derived.Test.YtcnjiphoahoojaaGreatDoorShelf
import Derived.Test.YtcnjiphoahoojaaGreatDoorChecked
import Derived.WalkLawsBesides
import Derived.BigQuiet
import Derived.Laws.BytesArg
import Derived.Deep.QuietTactic
import Derived.Deep.RegionHeld3
import Derived.Deep.Draws
import Derived.Deep.LoopGhost
import Derived.WalkKit
import Derived.WalkSpells
import Derived.WalkSmall
import Derived.Lib.OthersKept
import Derived.Lib.Hide
import Derived.Lib.Strings
import Derived.Lib.Join
import Derived.Deep.Slices
import Derived.OpenShut
import Derived.ShutString
import Derived.ChangeArms
import Derived.WideShapes
import Derived.Lib.LaidTab
import Derived.StillTailTactics
import Derived.BigRegion
import Derived.Laws.OwnMore
/- Paths: PathLess and IsBelow, of the program and of its model. -/
namespace Go.Proofs.YtcnjiphoahoojaaGreatDoor.Paths
open Go.RowKit

def cmpS (x y : List UInt8) : Int := if Op.bytesLess x y then -1 else if x = y then 0 else 1

theorem isNaN_any (x : List UInt8) (w : World) : Calls Tryz.prog 138 #[.string ⟨x.toArray⟩] w fun e w' => e = .returned (.bool false) ∧ w = w' := by
  go_enter Tryz.func138, Tryz.ntmps138
  go_wp2
  go_ret
  exact ⟨rfl, rfl⟩

theorem compare_any (x y : List UInt8) (w : World) : Calls Tryz.prog 130 #[.string ⟨x.toArray⟩, .string ⟨y.toArray⟩] w fun e w' => e = .returned (.int .i64 (cmpS x y)) ∧ w = w' := by
  rcases Bool.eq_false_or_eq_true (Op.bytesLess x y) with h | h
  · have HC : Hid (cmpS x y = -1) := by show _ = _; unfold cmpS; rw [h]; rfl
    go_enter Tryz.func130, Tryz.ntmps130
    go_wp2_with (first | (go_at_call 138; refine (isNaN_any _ _).mono ?_; rintro e w' ⟨rfl, rfl⟩))
    go_ret
    exact ⟨ret_int HC.out.symm, rfl⟩
  · rcases Bool.eq_false_or_eq_true (x == y) with he | he
    · have HC : Hid (cmpS x y = 0) := by show _ = _; unfold cmpS; simp [h]; simpa using he
      go_enter Tryz.func130, Tryz.ntmps130
      go_wp2_with (first | (go_at_call 138; refine (isNaN_any _ _).mono ?_; rintro e w' ⟨rfl, rfl⟩))
      go_ret
      exact ⟨ret_int HC.out.symm, rfl⟩
    · have HC : Hid (cmpS x y = 1) := by show _ = _; unfold cmpS; simp [h]; simpa using he
      go_enter Tryz.func130, Tryz.ntmps130
      go_wp2_with (first | (go_at_call 138; refine (isNaN_any _ _).mono ?_; rintro e w' ⟨rfl, rfl⟩))
      go_ret
      exact ⟨ret_int HC.out.symm, rfl⟩

theorem cmp_step {A B : List (List UInt8)} {k : Nat} (ha : k < A.length) (hb : k < B.length) (h : cmpS A[k] B[k] = 0) : cmpP (A.drop k) (B.drop k) = cmpP (A.drop (k + 1)) (B.drop (k + 1)) := by
  rw [cmpP_drop ha hb]
  unfold cmpS at h
  split at h
  · cases h
  · rename_i hn
    split at h
    · rename_i he
      rw [if_neg hn, if_pos he]
    · cases h
theorem cmp_stop {A B : List (List UInt8)} {k : Nat} (ha : k < A.length) (hb : k < B.length) (h : cmpS A[k] B[k] ≠ 0) : cmpP (A.drop k) (B.drop k) = cmpS A[k] B[k] := by
  rw [cmpP_drop ha hb]
  unfold cmpS at h ⊢
  split
  · rfl
  · rename_i hn
    split
    · rename_i he
      rw [if_neg hn, if_pos he] at h
      exact absurd rfl h
    · rfl

set_option maxHeartbeats 400000 in
theorem slicesCompare_any (v1 v2 : Value) (A B : List (List UInt8)) (w : World) (h1 : Strs w v1 A) (h2 : Strs w v2 B) (hl : A.length ≤ 1000) (hl2 : B.length ≤ 1000) : Calls Tryz.prog 116 #[v1, v2] w fun e w' => e = .returned (.int .i64 (cmpP A B)) ∧ w = w' := by
  obtain ⟨a1, c1, rfl, hc1, h1⟩ := h1
  obtain ⟨a2, c2, rfl, hc2, h2⟩ := h2
  have H1 := Lib.hid h1
  have H2 := Lib.hid h2
  clear h1 h2
  go_enter Tryz.func116, Tryz.ntmps116
  go_wp2
  go_loop [11] (fun i => ∃ k : Nat, k ≤ A.length ∧ k ≤ B.length ∧ i = .int .i64 k ∧ Hid (cmpP A B = cmpP (A.drop k) (B.drop k))) (fun i => A.length - (intOf i).toNat)
  case atStart => exact ⟨0, by omega, by omega, rfl, rfl⟩
  case round =>
    obtain ⟨k, hk, hkb, rfl, HK⟩ := hrel
    by_cases hlt : k < A.length
    · obtain ⟨b1, o1, rfl, hb1, hcell1⟩ := H1.out (by omega)
      have hk1 := hcell1 k A[k] (by simp [hlt])
      unfold strV at hk1
      clear hcell1 H1
      have hi1 : (k : Int) < (A.length : Int) := by omega
      have hi0 : (0 : Int) ≤ (k : Int) := by omega
      by_cases hlt2 : k < B.length
      · obtain ⟨b2, o2, rfl, hb2, hcell2⟩ := H2.out (by omega)
        have hk2 := hcell2 k B[k] (by simp [hlt2])
        unfold strV at hk2
        clear hcell2 H2
        have hi2 : (k : Int) < (B.length : Int) := by omega
        by_cases h0 : cmpS A[k] B[k] = 0
        · have HS := Lib.hid (cmp_step hlt hlt2 h0)
          go_wp2_with (first | (go_at_call 130; refine (compare_any _ _ _).mono ?_; rintro e w' ⟨rfl, rfl⟩))
          exact ⟨⟨k + 1, by omega, by omega, by go_num, by show _ = _; rw [HK.out, HS.out]⟩, by simp [intOf]; omega⟩
        · have HS := Lib.hid (cmp_stop hlt hlt2 h0)
          have hne : (cmpS A[k] B[k] != 0) = true := by simpa using h0
          clear h0
          go_wp2_with (first | (go_at_call 130; refine (compare_any _ _ _).mono ?_; rintro e w' ⟨rfl, rfl⟩))
          go_ret
          exact ⟨ret_int (by rw [HK.out, HS.out]), rfl⟩
      · have HS := Lib.hid (cmpP_nilR (B := B) hlt (by omega))
        go_wp2
        go_ret
        exact ⟨ret_int (by rw [HK.out, HS.out]), rfl⟩
    · have HS := Lib.hid (cmpP_nilL (A := A) (B := B) (k := k) (by omega) hkb)
      by_cases hAB : A.length < B.length
      · rw [if_pos hAB] at HS
        go_wp2
        go_ret
        exact ⟨ret_int (by rw [HK.out, HS.out]), rfl⟩
      · rw [if_neg hAB] at HS
        go_wp2
        go_ret
        exact ⟨ret_int (by rw [HK.out, HS.out]), rfl⟩

set_option maxHeartbeats 800000 in
theorem l01Less_any (s t : ByteArray) (w : World) (hs : s.size ≤ 65536) (ht : t.size ≤ 65536) : Calls Tryz.prog 76 #[.string s, .string t] w fun e w' => e = .returned (.bool (lessP (cutAt 47 s.data.toList) (cutAt 47 t.data.toList))) ∧ Below w.heap.size w w' := by
  go_enter Tryz.func76, Tryz.ntmps76
  go_wp2_with fail
  refine (l00Cut_any s 47 47 rfl _ (by omega)).mono ?_
  rintro e w1 ⟨v1, rfl, hb1, ho1⟩
  go_wp2_with fail
  refine (l00Cut_any t 47 47 rfl _ (by omega)).mono ?_
  rintro e w2 ⟨v2, rfl, hb2, ho2⟩
  have s1 := Strs.own (own_below ho1 hb2)
  have s2 := Strs.own ho2
  have hl1 := cutAt_length_le 47 s.data.toList
  have hl2 := cutAt_length_le 47 t.data.toList
  rw [← Lib.size_eq] at hl1 hl2
  have hb12 := hb1.trans (hb2.mono hb1.size)
  clear ho1 ho2 hb1 hb2
  generalize hA0 : cutAt 47 s.data.toList = A at *
  generalize hB0 : cutAt 47 t.data.toList = B at *
  have HAB : Hid (lessP (cutAt 47 s.data.toList) (cutAt 47 t.data.toList) = lessP A B) := by show _ = _; rw [hA0, hB0]
  clear hA0 hB0
  obtain ⟨a1, c1, rfl, hc1, h1⟩ := s1
  obtain ⟨a2, c2, rfl, hc2, h2⟩ := s2
  have H1 := Lib.hid h1
  have H2 := Lib.hid h2
  clear h1 h2
  go_wp2
  go_loopw [7] (fun i wr => ∃ k n : Nat, k ≤ A.length ∧ k ≤ B.length ∧ i = .int .i64 k ∧ wr = w2.drewN n ∧ Hid (lessP A B = lessP (A.drop k) (B.drop k))) (fun i _ => A.length - (intOf i).toNat)
  case atStart => exact ⟨0, 0, by omega, by omega, rfl, rfl, rfl⟩
  case round =>
    obtain ⟨k, n, hk, hkb, rfl, rfl, HK⟩ := hrel
    by_cases hlt : k < A.length ∧ k < B.length
    · obtain ⟨hlt1, hlt2⟩ := hlt
      obtain ⟨b1, o1, rfl, hb1, hcell1⟩ := H1.out (by omega)
      obtain ⟨b2, o2, rfl, hb2, hcell2⟩ := H2.out (by omega)
      have hk1 := hcell1 k A[k] (by simp [hlt1])
      have hk2 := hcell2 k B[k] (by simp [hlt2])
      unfold strV at hk1 hk2
      clear hcell1 hcell2 H1 H2
      have hi1 : (k : Int) < (A.length : Int) := by omega
      have hi2 : (k : Int) < (B.length : Int) := by omega
      have hi0 : (0 : Int) ≤ (k : Int) := by omega
      have HD := Lib.hid (lessP_drop hlt1 hlt2)
      rcases Bool.eq_false_or_eq_true (A[k] == B[k]) with he | he
      · have HS : Hid (lessP A B = lessP (A.drop (k + 1)) (B.drop (k + 1))) := by show _ = _; rw [HK.out, HD.out, if_pos (by simpa using he)]
        go_wp2
        go_quiet (fail)
        go_wp2
        exact ⟨⟨k + 1, _, by omega, by omega, by go_num, rfl, HS⟩, by simp [intOf]; omega⟩
      · have HS : Hid (lessP A B = Op.bytesLess A[k] B[k]) := by show _ = _; rw [HK.out, HD.out, if_neg (by simpa using he)]
        go_wp2
        go_quiet (fail)
        go_wp2
        go_quiet (fail)
        go_wp2
        go_ret
        exact ⟨ret_bool (by rw [HAB.out, HS.out]), by exact ⟨hb12.os, hb12.tape, hb12.output, hb12.size, hb12.block⟩⟩
    · have HS := Lib.hid (lessP_end hlt hk hkb)
      by_cases hA : k < A.length
      · have hB : ¬ k < B.length := by omega
        go_wp2
        go_ret
        exact ⟨ret_bool (by rw [HAB.out, HK.out, HS.out]), by exact ⟨hb12.os, hb12.tape, hb12.output, hb12.size, hb12.block⟩⟩
      · go_wp2
        go_ret
        exact ⟨ret_bool (by rw [HAB.out, HK.out, HS.out]), by exact ⟨hb12.os, hb12.tape, hb12.output, hb12.size, hb12.block⟩⟩

def lessB (s t : ByteArray) : Bool := pathB s.data.toList && pathB t.data.toList && lessP (cutAt 47 s.data.toList) (cutAt 47 t.data.toList)
theorem lessB_no1 {s t : ByteArray} (h : pathB s.data.toList = false) : lessB s t = false := by unfold lessB; rw [h]; rfl
theorem lessB_no2 {s t : ByteArray} (h : pathB t.data.toList = false) : lessB s t = false := by unfold lessB; rw [h]; simp
theorem lessB_yes {s t : ByteArray} (h : pathB s.data.toList = true) (k : pathB t.data.toList = true) : lessB s t = lessP (cutAt 47 s.data.toList) (cutAt 47 t.data.toList) := by unfold lessB; rw [h, k]; rfl

set_option maxHeartbeats 800000 in
theorem pathLess_impl (s t : ByteArray) (w : World) (hs : s.size ≤ maxLen) (ht : t.size ≤ maxLen) : Calls Tryz.prog 98 #[.string s, .string t] w fun e w' => e = .returned (.bool (lessB s t)) ∧ Below w.heap.size w w' := by
  have hq := fun (w : World) (a : Option Addr) (n c n' c' : Nat) => run_neq_slice_nil_any (P := Tryz.prog) w 82 9 a n c n' c' Tryz.underlying82
  go_enter Tryz.func98, Tryz.ntmps98
  go_wp2_with fail
  refine (splitPath_any s _ hs).mono ?_
  rintro e w1 ⟨v1, rfl, hp1⟩
  go_wp2_with fail
  refine (splitPath_any t _ ht).mono ?_
  rintro e w2 ⟨v2, rfl, hp2⟩
  obtain ⟨A1, cap1, rfl, hA1⟩ := split_nil hp1
  obtain ⟨A2, cap2, rfl, hA2⟩ := split_nil hp2
  obtain ⟨hb1, ho1, _, _⟩ := hp1
  obtain ⟨hb2, ho2, _, _⟩ := hp2
  have hb12 := hb1.trans (hb2.mono hb1.size)
  rcases Bool.eq_false_or_eq_true (pathB s.data.toList) with h1 | h1
  case inr =>
    have HL := Lib.hid (lessB_no1 (t := t) h1)
    rw [h1] at hA1
    clear ho1 ho2
    go_wp2_with fail
    go_ret
    exact ⟨ret_bool HL.out.symm, hb12⟩
  rcases Bool.eq_false_or_eq_true (pathB t.data.toList) with h2 | h2
  case inr =>
    have HL := Lib.hid (lessB_no2 (s := s) h2)
    rw [h1] at hA1
    rw [h2] at hA2
    clear ho1 ho2
    go_wp2_with fail
    go_ret
    exact ⟨ret_bool HL.out.symm, hb12⟩
  have HL := Lib.hid (lessB_yes h1 h2)
  rw [h1] at hA1
  rw [h2] at hA2
  have l1 := (pathB_parts h1).1
  have l2 := (pathB_parts h2).1
  have s1 := Lib.hid (Strs.own (own_below ho1 hb2))
  have s2 := Lib.hid (Strs.own ho2)
  rw [partsOf_yes h1] at *
  rw [partsOf_yes h2] at *
  clear ho1 ho2
  go_wp2_with fail
  refine (slicesCompare_any _ _ _ _ _ s1.out s2.out (by omega) (by omega)).mono ?_
  rintro e w3 ⟨rfl, rfl⟩
  go_wp2_with fail
  go_ret
  exact ⟨ret_bool (by rw [HL.out]; exact less_cmp _ _), hb12⟩

end Go.Proofs.YtcnjiphoahoojaaGreatDoor.Paths

/- The combination of two layers, plain: what it holds; it is a layer but for its length; it has the same effect on every tree as applying one after the other. -/
namespace Go.Proofs.YtcnjiphoahoojaaGreatDoor.Recs
open Go.RowKit Paths

/-- The upper record, over the lower one of its path. -/
def overR (x y : R) : R := if y.k = 3 ∧ stops x = true then { y with o := true } else y
/-- Two sorted lists in one: of the lower one what the upper one (u) does not cut off. -/
def twoL (u : List R) : List R → List R → List R
  | [], b => b
  | x :: a, [] => if cutsL u x.p then twoL u a [] else x :: twoL u a []
  | x :: a, y :: b =>
    if lessR x y then (if cutsL u x.p then twoL u a (y :: b) else x :: twoL u a (y :: b))
    else if lessR y x then y :: twoL u (x :: a) b
    else overR x y :: twoL u a b
termination_by a b => a.length + b.length
theorem recAt_cons_ne {x : R} {a : List R} {q : ByteArray} (h : x.p ≠ q) : recAt (x :: a) q = recAt a q := by
  unfold recAt
  rw [List.find?_cons_of_neg (by simpa using h)]
theorem recAt_cons_eq {x : R} {a : List R} {q : ByteArray} (h : x.p = q) : recAt (x :: a) q = some x := by
  unfold recAt
  rw [List.find?_cons_of_pos (by simpa using h)]
theorem recAt_less {a : List R} {y : R} (h : ∀ x ∈ a, lessR y x = true) : recAt a y.p = none := by
  cases hr : recAt a y.p with
  | none => rfl
  | some x =>
    obtain ⟨h1, h2⟩ := recAt_mem hr
    exact absurd h2.symm (less_ne (h x h1))

end Go.Proofs.YtcnjiphoahoojaaGreatDoor.Recs

/- The combination of two layers, plain: its effect on every tree is that of applying one after the other. -/
namespace Go.Proofs.YtcnjiphoahoojaaGreatDoor.Recs
open Go.RowKit Paths

def two (a b : List R) : List R := twoL b a b
section
variable {a b : List R} (ha : IsLayer a) (hb : IsLayer b)
include ha hb
end
end Go.Proofs.YtcnjiphoahoojaaGreatDoor.Recs

/- The canonical form is told by the effect: two canonical layers that have the same effect on every tree are one. -/
namespace Go.Proofs.YtcnjiphoahoojaaGreatDoor.Recs
open Go.RowKit Paths

def dirN (q : ByteArray) : R := ⟨3, 0, q, ⟨#[]⟩, false⟩
/-- The directories above a path, from the first part down. -/
def dirsOf (q : ByteArray) : List R := (ups q).reverse.map dirN
theorem dirs_step {q : ByteArray} (h : pathB q.data.toList = true) : dirsOf q = if parentL q.data.toList = [] then [] else dirsOf (parO q) ++ [dirN (parO q)] := by
  unfold dirsOf
  rw [ups_step h]
  split
  · rfl
  · simp
theorem mem_dirs {q : ByteArray} {x : R} : x ∈ dirsOf q ↔ ∃ c ∈ ups q, x = dirN c := by
  unfold dirsOf
  simp only [List.mem_map, List.mem_reverse]
  exact ⟨fun ⟨c, hc, e⟩ => ⟨c, hc, e.symm⟩, fun ⟨c, hc, e⟩ => ⟨c, hc, e.symm⟩⟩
theorem dirs_sorted {q : ByteArray} (h : pathB q.data.toList = true) : Sorted (dirsOf q) := by
  refine path_ind (P := fun q => Sorted (dirsOf q)) ?_ ?_ q h
  · intro q hq hp
    rw [dirs_step hq, if_pos hp]
    exact List.Pairwise.nil
  · intro q hq hp h1 ih
    rw [dirs_step hq, if_neg hp]
    unfold Sorted
    rw [List.pairwise_append]
    refine ⟨ih, List.pairwise_singleton _ _, fun x hx y hy => ?_⟩
    rw [List.mem_singleton.1 hy]
    obtain ⟨c, hc, rfl⟩ := mem_dirs.1 hx
    exact ups_less h1 c hc
/-! ### A name that is free -/
end Go.Proofs.YtcnjiphoahoojaaGreatDoor.Recs

/- The canonical form is told by the effect: two canonical layers that have the same effect on every tree are one; so combining is associative. -/
namespace Go.Proofs.YtcnjiphoahoojaaGreatDoor.Recs
open Go.RowKit Paths

/-- A canonical layer, of whatever length below a great bound. -/
structure Canon (l : List R) : Prop where
  layer : IsLayer l
  canon : canonL l = l
  fine : ∀ x ∈ l, x.fault = 0

section
variable {a b : List R} (ha : Canon a) (hb : Canon b) (hlen : a.length + b.length < 4096) (he : ∀ t, IsTree t → applyL a t = applyL b t)
include ha hb he
include hlen
end
end Go.Proofs.YtcnjiphoahoojaaGreatDoor.Recs

/- Combining layers, plain: the combination is canonical; combining is associative; the combination of a stack has the effect of applying its layers in order, and no other canonical layer has it. -/
namespace Go.Proofs.YtcnjiphoahoojaaGreatDoor.Recs
open Go.RowKit Paths

/-- A layer of valid records. -/
structure Fine (l : List R) : Prop where
  layer : IsLayer l
  fine : ∀ x ∈ l, x.fault = 0
end Go.Proofs.YtcnjiphoahoojaaGreatDoor.Recs

/- Combining many layers in one pass, plain: the canonical form of the winners at all paths is the combination of the stack. A stack is given highest layer first. -/
namespace Go.Proofs.YtcnjiphoahoojaaGreatDoor.Recs
open Go.RowKit Paths

/-- At least one record of a path stops, of the layers down to the one that cuts the path off. -/
def lowStops : List (List R) → ByteArray → Bool
  | [], _ => false
  | l :: s, q => (recAt l q).any stops || (!cutsL l q && lowStops s q)
/-- The record that is seen at a path. -/
def winner : List (List R) → ByteArray → Option R
  | [], _ => none
  | l :: s, q => match recAt l q with
    | some y => some (if y.k = 3 ∧ cutsL l q = false ∧ lowStops s q = true then { y with o := true } else y)
    | none => if cutsL l q then none else winner s q
/-- A list of winners: sorted, with just the winners of the stack. -/
structure Winners (s : List (List R)) (m : List R) : Prop where
  sorted : Sorted m
  mem : ∀ r, r ∈ m ↔ ∃ q, pathB q.data.toList = true ∧ winner s q = some r
section
variable {s : List (List R)} {m : List R} (hs : ∀ l ∈ s, Fine l) (hm : Winners s m)
include hs hm
end
end Go.Proofs.YtcnjiphoahoojaaGreatDoor.Recs

/- A heap as a list, plain: sinking, building it up, replacing and taking away its first one. -/
namespace Go.Proofs.YtcnjiphoahoojaaGreatDoor.Heap
set_option maxRecDepth 100000

/-- The place above another one. -/
def par (c : Nat) : Nat := (c - 1) / 2
section
variable {α : Type} (lt : α → α → Bool)
/-- Which of a place and the two below it is first. -/
def pick (h : List α) (a c : Nat) : Nat := match h[c]?, h[a]? with
  | some x, some y => if lt x y then c else a
  | _, _ => a
def least (h : List α) (i : Nat) : Nat := pick lt h (pick lt h i (2 * i + 1)) (2 * i + 2)
/-- From place s on no one is before the one above it. -/
def Heap (s : Nat) (h : List α) : Prop := ∀ c x y, 0 < c → s ≤ par c → h[c]? = some x → h[par c]? = some y → lt x y = false
variable (has : ∀ a b, lt a b = true → lt b a = false) (hnt : ∀ a b c, lt a c = true → lt a b = true ∨ lt b c = true)
include has hnt in
include has hnt in
include has hnt in
include has hnt in
end
/-- Two lists in strict order with the same members are one. -/
theorem pw_ext {α : Type} {lt : α → α → Prop} (irr : ∀ a, ¬ lt a a) (tr : ∀ a b c, lt a b → lt b c → lt a c) : ∀ a b : List α, a.Pairwise lt → b.Pairwise lt → (∀ x, x ∈ a ↔ x ∈ b) → a = b
  | [], [], _, _, _ => rfl
  | [], y :: b, _, _, h => absurd ((h y).2 (List.mem_cons_self ..)) (by simp)
  | x :: a, [], _, _, h => absurd ((h x).1 (List.mem_cons_self ..)) (by simp)
  | x :: a, y :: b, ha, hb, h => by
    obtain ⟨ha1, ha2⟩ := List.pairwise_cons.1 ha
    obtain ⟨hb1, hb2⟩ := List.pairwise_cons.1 hb
    have hxy : x = y := by
      rcases List.mem_cons.1 ((h x).1 (List.mem_cons_self ..)) with e | hx
      · exact e
      · rcases List.mem_cons.1 ((h y).2 (List.mem_cons_self ..)) with e | hy
        · exact e.symm
        · exact absurd (tr _ _ _ (hb1 x hx) (ha1 y hy)) (irr y)
    subst hxy
    rw [pw_ext irr tr a b ha2 hb2 fun z => ?_]
    constructor
    · intro hz
      rcases List.mem_cons.1 ((h z).1 (List.mem_cons_of_mem _ hz)) with e | h2
      · subst e; exact absurd (ha1 z hz) (irr z)
      · exact h2
    · intro hz
      rcases List.mem_cons.1 ((h z).2 (List.mem_cons_of_mem _ hz)) with e | h2
      · subst e; exact absurd (hb1 z hz) (irr z)
      · exact h2
end Go.Proofs.YtcnjiphoahoojaaGreatDoor.Heap

/- Layers: the place of a path, the first fault: the model's side. -/
namespace Go.Proofs.YtcnjiphoahoojaaGreatDoor.Recs
set_option maxRecDepth 100000
open Go.RowKit Paths

theorem str_eq_of {a b : ByteArray} (h : (a.toList == b.toList) = true) : a = b := by
  have := eq_of_beq h
  rw [Lib.toList_data, Lib.toList_data] at this
  exact ByteArray.ext (Array.toList_inj.1 this)

set_option maxHeartbeats 400000 in
theorem l03At_any (v : Value) (l : List R) (q : ByteArray) (w : World) (h : RecSl w v l) (hl : l.length ≤ 1048576) :
    Calls Tryz.prog 62 #[v, .string q] w fun e w' => e = .returned (.int .i64 (atL l q)) ∧ w = w' := by
  obtain ⟨A, cap, rfl, hcap, h⟩ := h
  have H := Lib.hid h
  clear h
  go_enter Tryz.func62, Tryz.ntmps62
  go_wp2
  go_loop [5] (fun i => ∃ k : Nat, k ≤ l.length ∧ i = .int .i64 k ∧ Hid (atL l q = atFrom (l.drop k) k q)) (fun i => l.length - (intOf i).toNat)
  case atStart => exact ⟨0, by omega, rfl, rfl⟩
  case round =>
    obtain ⟨k, hk, rfl, HK⟩ := hrel
    by_cases hlt : k < l.length
    · obtain ⟨b, off, rfl, hb, hcell⟩ := H.out (by omega)
      obtain ⟨_, hc1, _⟩ := hcell k l[k] (by simp [hlt])
      have HS := Lib.hid (HK.out.trans (atFrom_step hlt q))
      clear hcell HK
      have hi1 : (k : Int) < (l.length : Int) := by omega
      have hi0 : (0 : Int) ≤ (k : Int) := by omega
      rcases Bool.eq_false_or_eq_true (l[k].p.toList == q.toList) with he | he
      · have HE : Hid (atL l q = k) := by show _ = _; rw [HS.out, if_pos (str_eq_of he)]
        go_wp2
        go_ret
        exact ⟨ret_int HE.out.symm, rfl⟩
      · have HE : Hid (atL l q = atFrom (l.drop (k + 1)) (k + 1) q) := by show _ = _; rw [HS.out, if_neg (fun e => by rw [e] at he; simp at he)]
        go_wp2
        exact ⟨⟨k + 1, by omega, by go_num, HE⟩, by simp [intOf]; omega⟩
    · have HE := Lib.hid (HK.out.trans (atFrom_end (by omega) q))
      go_wp2
      go_ret
      exact ⟨ret_int HE.out.symm, rfl⟩
end Go.Proofs.YtcnjiphoahoojaaGreatDoor.Recs

/- Slices of records in memory of their own: what is written into one; the laws' own size, copy and comparison of such slices. -/
namespace Go.Proofs.YtcnjiphoahoojaaGreatDoor.Recs
set_option maxRecDepth 100000
open Go.RowKit Paths

/-- A record's five cells. -/
def R.cs (r : R) : List Value := [.int .i64 r.k, .string r.p, .string r.b, .int .i64 r.m, .bool r.o]
def flat (l : List R) : List Value := l.flatMap R.cs
theorem flat_len (l : List R) : (flat l).length = l.length * 5 := by
  induction l with
  | nil => rfl
  | cons r t ih => simp only [flat, List.flatMap_cons, List.length_append, List.length_cons] at ih ⊢; rw [ih]; simp [R.cs]; omega
theorem flat_get : ∀ (l : List R) (j : Nat), (flat l)[j]? = (l[j / 5]?).bind fun r => r.cs[j % 5]?
  | [], j => by simp [flat]
  | r :: t, j => by
    have ih := flat_get t (j - 5)
    by_cases hj : j < 5
    · have e1 : j / 5 = 0 := by omega
      have e2 : j % 5 = j := by omega
      rw [e1, e2]
      simp only [flat, List.flatMap_cons]
      rw [List.getElem?_append_left (by simp [R.cs]; omega)]
      simp
    · have e1 : j / 5 = (j - 5) / 5 + 1 := by omega
      have e2 : j % 5 = (j - 5) % 5 := by omega
      rw [e1, e2]
      simp only [flat, List.flatMap_cons]
      rw [List.getElem?_append_right (by simp [R.cs]; omega)]
      simp only [R.cs, List.length_cons, List.length_nil]
      exact ih
theorem flat_field {M : List R} {i c : Nat} {r : R} {u : Value} (hi : i < M.length) (hc : c < 5) (h : r.cs = M[i].cs.set c u) : flat (M.set i r) = (flat M).set (i * 5 + c) u := by
  apply List.ext_getElem?
  intro j
  rw [flat_get, List.getElem?_set, List.getElem?_set, flat_len, flat_get]
  by_cases hj : i = j / 5
  · rw [if_pos hj, if_pos (by omega)]
    simp only [Option.bind_some]
    rw [h, List.getElem?_set]
    by_cases hk : c = j % 5
    · rw [if_pos hk, if_pos (by simp [R.cs]; omega), if_pos (by omega), if_pos (by omega)]
    · rw [if_neg hk, if_neg (by omega), ← hj, List.getElem?_eq_getElem hi]
      rfl
  · rw [if_neg hj, if_neg (by omega)]

/-- A slice in memory of its own that holds the records M. -/
def RowOf (w : World) (base : Nat) (v : Value) (n : Nat) (M : List R) : Prop := M.length = n ∧ w.ownsRow base 60 5 v n (flat M)
theorem RowOf.below {w w' : World} {base : Nat} {v : Value} {n : Nat} {M : List R} (h : RowOf w base v n M) (hb : Below w.heap.size w w') : RowOf w' base v n M := ⟨h.1, own_below h.2 hb⟩
theorem RowOf.sl {w : World} {base : Nat} {v : Value} {n : Nat} {M : List R} (h : RowOf w base v n M) : RecSl w v M := by
  obtain ⟨rfl, h⟩ := h
  rcases h.2 with ⟨rfl, hn⟩ | ⟨g, cap, cur, rfl, hb, hg, hc, _⟩
  · exact ⟨none, 0, by rw [hn], by omega, fun h => by omega⟩
  · refine ⟨_, cap, rfl, hc, fun _ => ⟨g, 0, rfl, (Array.getElem?_eq_some_iff.1 hg).1, fun i r hi => ?_⟩⟩
    have hlt : i < M.length := (List.getElem?_eq_some_iff.1 hi).1
    have one : ∀ c, c < 5 → w.cell? ⟨g, i * 5 + c, none⟩ = r.cs[c]? := fun c hc => by
      rw [h.cellAt (i * 5 + c) (by omega), flat_get]
      have e1 : (i * 5 + c) / 5 = i := by omega
      have e2 : (i * 5 + c) % 5 = c := by omega
      rw [e1, e2, hi]
      rfl
    rw [Nat.zero_add]
    exact ⟨one 0 (by omega), one 1 (by omega), one 2 (by omega), one 3 (by omega), one 4 (by omega)⟩
theorem RowOf.field {w : World} {base g cap n : Nat} {M : List R} {i c : Nat} {r : R} {u : Value} (h : RowOf w base (.slice (some ⟨g, 0, none⟩) n cap) n M) (hi : i < M.length) (hc : c < 5) (hr : r.cs = M[i].cs.set c u) :
    RowOf (w.setCell ⟨g, i * 5 + c, none⟩ u) base (.slice (some ⟨g, 0, none⟩) n cap) n (M.set i r) ∧ w.grownBy (w.setCell ⟨g, i * 5 + c, none⟩ u) (some g) := by
  obtain ⟨h1, h2⟩ := h.2.stored (i * 5 + c) u
  exact ⟨⟨by rw [List.length_set]; exact h.1, by rw [flat_field hi hc hr]; exact h1⟩, h2⟩
theorem RowOf.frozen {w : World} {base g cap n : Nat} {M : List R} (h : RowOf w base (.slice (some ⟨g, 0, none⟩) n cap) n M) (j : Nat) : w.frozen? ⟨g, j, none⟩ = false := h.2.frozenAt j
theorem RowOf.cells {w : World} {base g cap n : Nat} {M : List R} (h : RowOf w base (.slice (some ⟨g, 0, none⟩) n cap) n M) {i : Nat} (hi : i < M.length) : RecCells w g (i * 5) M[i] := by
  have one : ∀ c, c < 5 → w.cell? ⟨g, i * 5 + c, none⟩ = M[i].cs[c]? := fun c hc => by
    rw [h.2.cellAt (i * 5 + c) (by rw [← h.1]; omega), flat_get]
    have e1 : (i * 5 + c) / 5 = i := by omega
    have e2 : (i * 5 + c) % 5 = c := by omega
    rw [e1, e2, List.getElem?_eq_getElem hi]
    rfl
  exact ⟨one 0 (by omega), one 1 (by omega), one 2 (by omega), one 3 (by omega), one 4 (by omega)⟩
/-- A whole record written. -/
theorem RowOf.store {w : World} {base g cap n : Nat} {M : List R} {i : Nat} (r : R) (h : RowOf w base (.slice (some ⟨g, 0, none⟩) n cap) n M) (hi : i < M.length) :
    RowOf (((((w.setCell ⟨g, i * 5, none⟩ (.int .i64 r.k)).setCell ⟨g, i * 5 + 1, none⟩ (.string r.p)).setCell ⟨g, i * 5 + 2, none⟩ (.string r.b)).setCell ⟨g, i * 5 + 3, none⟩ (.int .i64 r.m)).setCell ⟨g, i * 5 + 4, none⟩ (.bool r.o)) base (.slice (some ⟨g, 0, none⟩) n cap) n (M.set i r) ∧
    w.grownBy (((((w.setCell ⟨g, i * 5, none⟩ (.int .i64 r.k)).setCell ⟨g, i * 5 + 1, none⟩ (.string r.p)).setCell ⟨g, i * 5 + 2, none⟩ (.string r.b)).setCell ⟨g, i * 5 + 3, none⟩ (.int .i64 r.m)).setCell ⟨g, i * 5 + 4, none⟩ (.bool r.o)) (some g) := by
  obtain ⟨a1, b1⟩ := h.field (i := i) (c := 0) (r := { M[i] with k := r.k }) (u := .int .i64 r.k) hi (by omega) rfl
  obtain ⟨a2, b2⟩ := a1.field (i := i) (c := 1) (r := { M[i] with k := r.k, p := r.p }) (u := .string r.p) (by simpa using hi) (by omega) (by simp [R.cs])
  obtain ⟨a3, b3⟩ := a2.field (i := i) (c := 2) (r := { M[i] with k := r.k, p := r.p, b := r.b }) (u := .string r.b) (by simpa using hi) (by omega) (by simp [R.cs])
  obtain ⟨a4, b4⟩ := a3.field (i := i) (c := 3) (r := { M[i] with k := r.k, p := r.p, b := r.b, m := r.m }) (u := .int .i64 r.m) (by simpa using hi) (by omega) (by simp [R.cs])
  obtain ⟨a5, b5⟩ := a4.field (i := i) (c := 4) (r := r) (u := .bool r.o) (by simpa using hi) (by omega) (by simp [R.cs])
  refine ⟨?_, grown_trans (grown_trans (grown_trans (grown_trans b1 b2) b3) b4) b5⟩
  simp only [List.set_set] at a5
  exact a5

theorem flat_snoc (M : List R) (r : R) : flat (M ++ [r]) = flat M ++ r.cs := by unfold flat; rw [List.flatMap_append]; simp
theorem rec_cells_new (w : World) (r : R) (t : TypeId) (j : Nat) (u : Value) (h : r.cs[j]? = some u) : (w.alloc (.cells #[.int .i64 r.k, .string r.p, .string r.b, .int .i64 r.m, .bool r.o] t)).cell? ((⟨w.heap.size, 0, none⟩ : Addr).add j) = some u := by
  rw [Addr.add_lit]
  match j, h with
  | 0, h => cases h; go_simp
  | 1, h => cases h; go_simp
  | 2, h => cases h; go_simp
  | 3, h => cases h; go_simp
  | 4, h => cases h; go_simp
  | j + 5, h => simp [R.cs] at h
theorem rec_one (r : R) : ∀ u ∈ r.cs, u.oneCell' = true := by
  intro u hu
  simp only [R.cs, List.mem_cons, List.not_mem_nil, or_false] at hu
  rcases hu with rfl | rfl | rfl | rfl | rfl <;> rfl
theorem RowOf.ne {w : World} {base : Nat} {v : Value} {n : Nat} {M : List R} (h : RowOf w base v n M) : v.ownBlock ≠ some w.heap.size := fun e => by
  have := (h.2.lt _ e).2
  omega
theorem RowOf.form {w : World} {base : Nat} {v : Value} {n : Nat} {M : List R} (h : RowOf w base v n M) : ∃ A cap, v = .slice A n cap := own_form h.2

theorem row_snoc {w : World} {base : Nat} {v : Value} {M : List R} {r : R} (h : w.ownsRow base 60 5 v (M.length + 1) (flat M ++ r.cs)) : RowOf w base v (M ++ [r]).length (M ++ [r]) :=
  ⟨rfl, by rw [flat_snoc, List.length_append]; exact h⟩
end Go.Proofs.YtcnjiphoahoojaaGreatDoor.Recs

/- The laws' own copy of a slice of records, its size, its comparison. -/
namespace Go.Proofs.YtcnjiphoahoojaaGreatDoor.Recs
set_option maxRecDepth 100000
open Go.RowKit Paths

theorem recInfo : (Tryz.prog.info? 60).map (fun i => (i.zero, i.size, i.bytes)) = some (some (.agg #[.int .i64 0, .string ByteArray.empty, .string ByteArray.empty, .int .i64 0, .bool false]), 5, 56) := by kernel_rfl
def zR : R := ⟨0, 0, ByteArray.empty, ByteArray.empty, false⟩
theorem set_take {M l : List R} {j : Nat} (hm : j < M.length) (hl : j < l.length) (h : M.take j = l.take j) : (M.set j l[j]).take (j + 1) = l.take (j + 1) := by
  rw [List.take_succ_eq_append_getElem (by simpa using hm), List.take_succ_eq_append_getElem hl, List.take_set, List.set_eq_of_length_le (by rw [List.length_take]; omega), h]
  simp

set_option maxHeartbeats 800000 in
theorem eqRecordS_same (v1 v2 : Value) (l : List R) (w : World) (h1 : RecSl w v1 l) (h2 : RecSl w v2 l) (hl : l.length ≤ 1048576) :
    Calls Tryz.prog 17 #[v1, v2] w fun e w' => e = .returned (.bool true) ∧ Below w.heap.size w w' := by
  obtain ⟨A1, cap1, rfl, hcap1, h1⟩ := h1
  obtain ⟨A2, cap2, rfl, hcap2, h2⟩ := h2
  have H1 := Lib.hid h1
  have H2 := Lib.hid h2
  clear h1 h2
  go_enter Tryz.func17, Tryz.ntmps17
  go_wp2
  go_loopw [5] (fun i wr => ∃ (j : Nat), j ≤ l.length ∧ i = .int .i64 j ∧ Below w.heap.size w wr) (fun i _ => l.length - (intOf i).toNat)
  case atStart => exact ⟨0, by omega, rfl, Below.refl _ _⟩
  case round =>
    obtain ⟨j, hj, rfl, hbw⟩ := hrel
    by_cases hlt : j < l.length
    · obtain ⟨b1, off1, rfl, hb1, hcell1⟩ := H1.out (by omega)
      obtain ⟨b2, off2, rfl, hb2, hcell2⟩ := H2.out (by omega)
      obtain ⟨c0, c1, c2, c3, c4⟩ := (hcell1 j l[j] (by simp [hlt])).below hbw hb1
      obtain ⟨d0, d1, d2, d3, d4⟩ := (hcell2 j l[j] (by simp [hlt])).below hbw hb2
      clear hcell1 hcell2
      have hi1 : (j : Int) < (l.length : Int) := by omega
      have hi0 : (0 : Int) ≤ (j : Int) := by omega
      go_wp2_with fail
      go_still_tail 8, (by kernel_rfl)
      change wpList _ _ _ _ _ wr.drew
      have hbw' : Below w.heap.size w wr.drew := hbw.drew
      clear hbw
      generalize wr.drew = W2 at *
      go_wp2_with fail
      refine (eqRecord_any _ _ _ _ _ _).mono ?_
      rintro e w1 ⟨rfl, hb1⟩
      go_wp2_with fail
      go_roundw
      case rel => exact ⟨j + 1, by omega, by go_num, hbw'.trans (hb1.mono hbw'.size)⟩
      case measure => simp [intOf]; omega
    · obtain rfl : j = l.length := by omega
      go_wp2
      go_ret
      exact ⟨rfl, hbw⟩
end Go.Proofs.YtcnjiphoahoojaaGreatDoor.Recs

/- All layers passed through at once, plain: the order of records by path and layer, the cursors, the groups of records of one path. -/
namespace Go.Proofs.YtcnjiphoahoojaaGreatDoor.Recs
set_option maxRecDepth 100000
open Go.RowKit Paths Heap

/-- The paths of all records, each once, in order. -/
def lessQ (a b : ByteArray) : Bool := lessP (cutAt 47 a.data.toList) (cutAt 47 b.data.toList)
def Ups (P : List ByteArray) : Prop := P.Pairwise fun a b => lessQ a b = true
theorem lessQ_irr (a : ByteArray) : ¬ lessQ a a = true := by unfold lessQ; rw [lessP_irrefl]; decide
theorem lessQ_trans (a b c : ByteArray) (h : lessQ a b = true) (k : lessQ b c = true) : lessQ a c = true := lessP_trans _ _ _ h k
theorem lessQ_total {a b : ByteArray} (h : a ≠ b) : lessQ a b = true ∨ lessQ b a = true := by
  cases h1 : lessQ a b with
  | true => exact .inl rfl
  | false =>
    cases h2 : lessQ b a with
    | true => exact .inr rfl
    | false => exact absurd (bytes_cut (lessP_total _ _ h1 h2)) h
theorem ups_ext {P Q : List ByteArray} (hp : Ups P) (hq : Ups Q) (h : ∀ x, x ∈ P ↔ x ∈ Q) : P = Q := pw_ext lessQ_irr lessQ_trans P Q hp hq h

end Go.Proofs.YtcnjiphoahoojaaGreatDoor.Recs

/- Layers: the first fault of one, of the model. -/
namespace Go.Proofs.YtcnjiphoahoojaaGreatDoor.Recs
set_option maxRecDepth 100000
open Go.RowKit Paths

theorem RecSl.take {w : World} {A : Option Addr} {cap : Nat} {l : List R} {k : Nat} (h : RecSl w (.slice A l.length cap) l) (hk : k ≤ l.length) : RecSl w (.slice A k cap) (l.take k) := by
  obtain ⟨A', cap', e, hc, h⟩ := h
  cases e
  refine ⟨A, cap, by rw [List.length_take, Nat.min_eq_left hk], by rw [List.length_take]; omega, fun hn => ?_⟩
  rw [List.length_take] at hn
  obtain ⟨b, off, e, hb, hcell⟩ := h (by omega)
  refine ⟨b, off, e, hb, fun j p hj => hcell j p ?_⟩
  rw [List.getElem?_take] at hj
  split at hj
  · exact hj
  · cases hj
theorem path_short {p : ByteArray} (h : pathB p.data.toList = true) : p.size ≤ 65536 := by
  rcases Nat.lt_or_ge 65536 p.size with h1 | h1
  · rw [pathB_long (by omega)] at h; cases h
  · exact h1

theorem below_drewN {B : Nat} {a w : World} (h : Below B a w) (q : Nat) : Below B a (w.drewN q) := ⟨h.os, h.tape, h.output, h.size, h.block⟩
end Go.Proofs.YtcnjiphoahoojaaGreatDoor.Recs
