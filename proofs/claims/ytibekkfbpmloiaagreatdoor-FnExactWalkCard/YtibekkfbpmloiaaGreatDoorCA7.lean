/- Parts of several texts of mine in one file (each begins with its own remark). -/
import Derived.Test.YtibekkfbpmloiaaGreatDoorCA1
import Derived.Test.YtibekkfbpmloiaaGreatDoorCA2
import Derived.Test.YtibekkfbpmloiaaGreatDoorCA4
import Derived.Test.YtibekkfbpmloiaaGreatDoorCA5
import Derived.Test.YtibekkfbpmloiaaGreatDoorCA6
import Derived.Test.YtibekkfbpmloiaaGreatDoorShelf
import Derived.Test.YtibekkfbpmloiaaGreatDoorChecked
import Derived.BigQuiet
import Derived.Laws.BytesArg
import Derived.Deep.QuietTactic
import Derived.Deep.RegionHeld3
import Derived.Deep.Draws
import Derived.Deep.LoopGhost
import Derived.WalkKit
import Derived.WalkSpells
import Derived.WalkSmall
import Derived.Lib.OthersKept
import Derived.Lib.Hide
import Derived.Lib.Strings
import Derived.Lib.Join
import Derived.WalkLawsBesides
/- Paths: JoinPath, of the program and of its model. -/
namespace Go.Proofs.YtibekkfbpmloiaaGreatDoor.Paths
open Go.RowKit

/-- Which of the ways JoinPath goes: 0: too long · 1: no path, or no part · 2: too many parts · 3: from the root · 4: from a path. -/
def joinWay (d p : ByteArray) : Nat :=
  if 65536 < d.size ∨ 65536 < p.size then 0
  else if (d.size ≠ 0 ∧ pathB d.data.toList = false) ∨ partB p.data.toList = false then 1
  else if d.size = 0 then 3
  else if (cutAt 47 d.data.toList).length = 4 then 2 else 4
def joinCode (d p : ByteArray) : Int := match joinWay d p with | 0 => 2 | 1 => 10 | 2 => 6 | _ => 0
def joinRes (d p : ByteArray) : List UInt8 := match joinWay d p with | 3 => p.data.toList | 4 => d.data.toList ++ 47 :: p.data.toList | _ => []
def JoinPost (d p : ByteArray) (w : World) (e : Ending) (w' : World) : Prop := e = .returned (.tuple #[strV (joinRes d p), .int .i64 (joinCode d p)]) ∧ Below w.heap.size w w'

theorem JoinPost.long {d p : ByteArray} {w w' : World} (h : joinWay d p = 0) (hb : Below w.heap.size w w') : JoinPost d p w (.returned (.tuple #[.string ⟨#[]⟩, .int .i64 2])) w' := ⟨by unfold joinRes joinCode; rw [h]; rfl, hb⟩
theorem JoinPost.name {d p : ByteArray} {w w' : World} (h : joinWay d p = 1) (hb : Below w.heap.size w w') : JoinPost d p w (.returned (.tuple #[.string ⟨#[]⟩, .int .i64 10])) w' := ⟨by unfold joinRes joinCode; rw [h]; rfl, hb⟩
theorem JoinPost.many {d p : ByteArray} {w w' : World} (h : joinWay d p = 2) (hb : Below w.heap.size w w') : JoinPost d p w (.returned (.tuple #[.string ⟨#[]⟩, .int .i64 6])) w' := ⟨by unfold joinRes joinCode; rw [h]; rfl, hb⟩
theorem JoinPost.root {d p : ByteArray} {w w' : World} (h : joinWay d p = 3) (hb : Below w.heap.size w w') : JoinPost d p w (.returned (.tuple #[strV p.data.toList, .int .i64 0])) w' := ⟨by unfold joinRes joinCode; rw [h]; rfl, hb⟩
theorem JoinPost.deep {d p : ByteArray} {w w' : World} (h : joinWay d p = 4) (hb : Below w.heap.size w w') : JoinPost d p w (.returned (.tuple #[strV (d.data.toList ++ 47 :: p.data.toList), .int .i64 0])) w' := ⟨by unfold joinRes joinCode; rw [h]; rfl, hb⟩

theorem pathB_empty {d : ByteArray} (h : d.size = 0) : pathB d.data.toList = false := by
  have : d.data.toList = [] := by
    have := Lib.size_eq d
    rw [h] at this
    exact List.eq_nil_of_length_eq_zero this.symm
  rw [this]
  decide

set_option maxHeartbeats 1000000 in
theorem joinPath_impl (d p : ByteArray) (w : World) (hd : d.size ≤ maxLen) : Calls Tryz.prog 90 #[.string d, .string p] w (JoinPost d p w) := by
  obtain ⟨i0, hi, hz0, hz1, hz2⟩ := info_parts strInfo
  have hq := fun (w : World) (a : Option Addr) (n c n' c' : Nat) => Lib.run_eql_slice_nil (P := Tryz.prog) w 33 9 a n c n' c' Tryz.underlying33
  by_cases h1 : d.size ≤ 65536
  case neg =>
    have hd1 : decide ((65536 : Int) < (d.size : Int)) = true := by simp; omega
    have HW : Hid (joinWay d p = 0) := by show _ = _; unfold joinWay; rw [if_pos (.inl (by omega))]
    go_enter Tryz.func90, Tryz.ntmps90
    go_wp2_with fail
    refine (longText_any d _).mono ?_
    rintro e w1 ⟨rfl, rfl⟩
    go_wp2_with fail
    go_ret2
    exact JoinPost.long HW.out (Below.refl _ _)
  have hd1 : decide ((65536 : Int) < (d.size : Int)) = false := by simp; omega
  by_cases h2 : p.size ≤ 65536
  case neg =>
    have hd2 : decide ((65536 : Int) < (p.size : Int)) = true := by simp; omega
    have HW : Hid (joinWay d p = 0) := by show _ = _; unfold joinWay; rw [if_pos (.inr (by omega))]
    go_enter Tryz.func90, Tryz.ntmps90
    go_wp2_with fail
    refine (longText_any d _).mono ?_
    rintro e w1 ⟨rfl, rfl⟩
    go_wp2_with fail
    refine (longText_any p _).mono ?_
    rintro e w1 ⟨rfl, rfl⟩
    go_wp2_with fail
    go_ret2
    exact JoinPost.long HW.out (Below.refl _ _)
  have hd2 : decide ((65536 : Int) < (p.size : Int)) = false := by simp; omega
  have W0 : joinWay d p = if (d.size ≠ 0 ∧ pathB d.data.toList = false) ∨ partB p.data.toList = false then 1 else if d.size = 0 then 3 else if (cutAt 47 d.data.toList).length = 4 then 2 else 4 := by
    unfold joinWay
    rw [if_neg (by omega)]
  have HW0 := Lib.hid W0
  clear W0
  by_cases h3 : d.size = 0
  · have he := isEmpty_true h3
    have hB := pathB_empty h3
    have H3 := Lib.hid h3
    clear h3
    rcases Bool.eq_false_or_eq_true (partB p.data.toList) with hP | hP
    · have HW : Hid (joinWay d p = 3) := by show _ = _; rw [HW0.out, if_neg (by simp [H3.out, hP]), if_pos H3.out]
      have HJ := Lib.hid (Lib.join_one p.data.toList [47])
      go_enter Tryz.func90, Tryz.ntmps90
      go_wp2_with fail
      refine (longText_any d _).mono ?_
      rintro e w1 ⟨rfl, rfl⟩
      go_wp2_with fail
      refine (longText_any p _).mono ?_
      rintro e w1 ⟨rfl, rfl⟩
      go_wp2_with fail
      refine (splitPath_any d _ hd).mono ?_
      rintro e w1 ⟨v, rfl, hb1, ho1, hn1, _⟩
      obtain rfl := hn1 hB
      have hz1' := hb1.size
      clear hn1
      go_wp2_with fail
      refine (partOK_impl p _).mono ?_
      rintro e w2 ⟨rfl, hb2⟩
      have hb12 := hb1.trans (hb2.mono hb1.size)
      have hz2' := hb12.size
      go_wp2_with (first
        | (at_builtin; refine wpList_append_own _ rfl _ _ 33 rfl w.heap.size 9 i0 (.string ByteArray.empty) 1 16 Tryz.underlying33 hi hz0 hz1 hz2 rfl (by decide) _ _ _ rfl (World.ownsRow_nil _ _ _ _) ⟨w2.heap.size, 0, none⟩ 1 1 [.string p] rfl rfl (cell_one_new _ _ _) (fun x hx => by simp at hx; subst hx; rfl) (by unfold maxLen; omega) (by omega) (by simp; omega) ?_; intro v' w3 hown' hgrow3 hnil3))
      have hst : Strs w3 v' [p.data.toList] := Strs.own hown'
      have hg3 : (w2.alloc (.cells #[.string p] 9)).grownBy w3 none := hgrow3
      have hb3 : Below w.heap.size w w3 := (hb12.alloc hb12.size _).grown hg3 (by simp; omega) (fun q hq => by cases hq)
      clear hgrow3 hnil3 hown' hg3
      have hps := Lib.size_eq p
      refine (join_any v' _ _ hst (by rw [HJ.out, ← hps]; omega) (by simp)).mono ?_
      rintro e w4 ⟨rfl, hb4⟩
      rw [HJ.out]
      clear hps
      go_wp2_with fail
      go_ret2
      exact JoinPost.root HW.out (hb3.trans (hb4.mono hb3.size))
    · have HW : Hid (joinWay d p = 1) := by show _ = _; rw [HW0.out, if_pos (.inr hP)]
      go_enter Tryz.func90, Tryz.ntmps90
      go_wp2_with fail
      refine (longText_any d _).mono ?_
      rintro e w1 ⟨rfl, rfl⟩
      go_wp2_with fail
      refine (longText_any p _).mono ?_
      rintro e w1 ⟨rfl, rfl⟩
      go_wp2_with fail
      refine (splitPath_any d _ hd).mono ?_
      rintro e w1 ⟨v, rfl, hb1, ho1, hn1, _⟩
      obtain rfl := hn1 hB
      clear hn1
      go_wp2_with fail
      refine (partOK_impl p _).mono ?_
      rintro e w2 ⟨rfl, hb2⟩
      have hb12 := hb1.trans (hb2.mono hb1.size)
      go_wp2_with fail
      go_ret2
      exact JoinPost.name HW.out hb12
  · have he := isEmpty_false (by omega : 0 < d.size)
    have H3 := Lib.hid h3
    clear h3
    rcases Bool.eq_false_or_eq_true (pathB d.data.toList) with hB | hB
    case inr =>
      have HW : Hid (joinWay d p = 1) := by show _ = _; rw [HW0.out, if_pos (.inl ⟨H3.out, hB⟩)]
      go_enter Tryz.func90, Tryz.ntmps90
      go_wp2_with fail
      refine (longText_any d _).mono ?_
      rintro e w1 ⟨rfl, rfl⟩
      go_wp2_with fail
      refine (longText_any p _).mono ?_
      rintro e w1 ⟨rfl, rfl⟩
      go_wp2_with fail
      refine (splitPath_any d _ hd).mono ?_
      rintro e w1 ⟨v, rfl, hb1, ho1, hn1, _⟩
      obtain rfl := hn1 hB
      clear hn1
      go_wp2_with fail
      go_ret2
      exact JoinPost.name HW.out hb1
    rcases Bool.eq_false_or_eq_true (partB p.data.toList) with hP | hP
    case inr =>
      have HW : Hid (joinWay d p = 1) := by show _ = _; rw [HW0.out, if_pos (.inr hP)]
      go_enter Tryz.func90, Tryz.ntmps90
      go_wp2_with fail
      refine (longText_any d _).mono ?_
      rintro e w1 ⟨rfl, rfl⟩
      go_wp2_with fail
      refine (longText_any p _).mono ?_
      rintro e w1 ⟨rfl, rfl⟩
      go_wp2_with fail
      refine (splitPath_any d _ hd).mono ?_
      rintro e w1 ⟨v, rfl, hp1⟩
      obtain ⟨A, cap, rfl, hA⟩ := split_nil hp1
      rw [hB] at hA
      have hb1 := hp1.1
      clear hp1
      go_wp2_with fail
      refine (partOK_impl p _).mono ?_
      rintro e w2 ⟨rfl, hb2⟩
      have hb12 := hb1.trans (hb2.mono hb1.size)
      go_wp2_with fail
      go_ret2
      exact JoinPost.name HW.out hb12
    have hcl := (pathB_parts hB).1
    have hpl := pathB_len hB
    rw [← Lib.size_eq] at hpl
    by_cases h4 : (cutAt 47 d.data.toList).length = 4
    · have HW : Hid (joinWay d p = 2) := by show _ = _; rw [HW0.out, if_neg (by simp [hB, hP]), if_neg H3.out, if_pos h4]
      go_enter Tryz.func90, Tryz.ntmps90
      go_wp2_with fail
      refine (longText_any d _).mono ?_
      rintro e w1 ⟨rfl, rfl⟩
      go_wp2_with fail
      refine (longText_any p _).mono ?_
      rintro e w1 ⟨rfl, rfl⟩
      go_wp2_with fail
      refine (splitPath_any d _ hd).mono ?_
      rintro e w1 ⟨v, rfl, hp1⟩
      obtain ⟨A, cap, rfl, hA⟩ := split_nil hp1
      rw [hB] at hA
      have hb1 := hp1.1
      rw [partsOf_yes hB]
      have h4e : (((cutAt 47 d.data.toList).length : Int) == 4) = true := by simp; omega
      clear hp1 h4
      go_wp2_with fail
      refine (partOK_impl p _).mono ?_
      rintro e w2 ⟨rfl, hb2⟩
      have hb12 := hb1.trans (hb2.mono hb1.size)
      go_wp2_with fail
      go_ret2
      exact JoinPost.many HW.out hb12
    · have HW : Hid (joinWay d p = 4) := by show _ = _; rw [HW0.out, if_neg (by simp [hB, hP]), if_neg H3.out, if_neg h4]
      have HJ : Hid (Lib.join (cutAt 47 d.data.toList ++ [p.data.toList]) [47] = d.data.toList ++ 47 :: p.data.toList) := by show _ = _; rw [join_snoc _ (cutAt_ne 47 _), join_cut]
      go_enter Tryz.func90, Tryz.ntmps90
      go_wp2_with fail
      refine (longText_any d _).mono ?_
      rintro e w1 ⟨rfl, rfl⟩
      go_wp2_with fail
      refine (longText_any p _).mono ?_
      rintro e w1 ⟨rfl, rfl⟩
      go_wp2_with fail
      refine (splitPath_any d _ hd).mono ?_
      rintro e w1 ⟨v, rfl, hp1⟩
      obtain ⟨A, cap, rfl, hA⟩ := split_nil hp1
      rw [hB] at hA
      obtain ⟨hb1, ho1, _, _⟩ := hp1
      rw [partsOf_yes hB] at *
      have h4e : (((cutAt 47 d.data.toList).length : Int) == 4) = false := by simp; omega
      clear h4
      have hz1' := hb1.size
      generalize hL : cutAt 47 d.data.toList = L at *
      have HL := Lib.hid hL
      clear hL
      go_wp2_with fail
      refine (partOK_impl p _).mono ?_
      rintro e w2 ⟨rfl, hb2⟩
      have hb12 := hb1.trans (hb2.mono hb1.size)
      have hz2' := hb12.size
      have ho2 := own_below ho1 hb2
      clear ho1
      go_wp2_with (first
        | (at_builtin; refine wpList_append_own _ rfl _ _ 33 rfl w.heap.size 9 i0 (.string ByteArray.empty) 1 16 Tryz.underlying33 hi hz0 hz1 hz2 rfl (by decide) _ _ _ rfl (ho2.alloc _) ⟨w2.heap.size, 0, none⟩ 1 1 [.string p] rfl rfl (cell_one_new _ _ _) (fun x hx => by simp at hx; subst hx; rfl) (by unfold maxLen; omega) (by omega) (by simp; omega) ?_; intro v' w3 hown' hgrow3 hnil3))
      have hst : Strs w3 v' (L ++ [p.data.toList]) := Strs.own (by simpa [strV_data] using hown')
      have hg3 : (w2.alloc (.cells #[.string p] 9)).grownBy w3 (Value.ownBlock (.slice A L.length cap)) := hgrow3
      have hb3 : Below w.heap.size w w3 := (hb12.alloc hb12.size _).grown hg3 (by simp; omega) (fun q hq => (ho2.lt q hq).1)
      clear hgrow3 hnil3 hown' hg3
      have hps := Lib.size_eq p
      have hds := Lib.size_eq d
      refine (join_any v' _ _ hst (by rw [HJ.out]; simp; omega) (by simp; omega)).mono ?_
      rintro e w4 ⟨rfl, hb4⟩
      rw [HJ.out]
      clear hps hds
      go_wp2_with fail
      go_ret2
      exact JoinPost.deep HW.out (hb3.trans (hb4.mono hb3.size))

theorem strV_join (d p : ByteArray) : .string (d ++ ⟨#[47]⟩ ++ p) = strV (d.data.toList ++ 47 :: p.data.toList) := by
  unfold strV
  congr 1
  apply ByteArray.ext
  simp

theorem l01Join_root (d p : ByteArray) (w : World) (h : d.size = 0) : Calls Tryz.prog 58 #[.string d, .string p] w fun e w' => e = .returned (strV p.data.toList) ∧ w = w' := by
  have he := isEmpty_true h
  clear h
  go_enter Tryz.func58, Tryz.ntmps58
  go_wp2
  go_ret
  exact ⟨rfl, rfl⟩
theorem l01Join_deep (d p : ByteArray) (w : World) (h : 0 < d.size) (hd : d.size ≤ 65536) (hp : p.size ≤ 65536) : Calls Tryz.prog 58 #[.string d, .string p] w fun e w' => e = .returned (strV (d.data.toList ++ 47 :: p.data.toList)) ∧ w = w' := by
  have he := isEmpty_false h
  have h47 : (⟨#[47]⟩ : ByteArray).size = 1 := rfl
  have HJ := Lib.hid (strV_join d p)
  go_enter Tryz.func58, Tryz.ntmps58
  go_wp2
  go_ret
  exact ⟨by rw [← HJ.out]; rfl, rfl⟩

end Go.Proofs.YtibekkfbpmloiaaGreatDoor.Paths

/- Paths: PathLess and IsBelow, of the program and of its model. -/
namespace Go.Proofs.YtibekkfbpmloiaaGreatDoor.Paths
open Go.RowKit

def cmpS (x y : List UInt8) : Int := if Op.bytesLess x y then -1 else if x = y then 0 else 1

theorem isNaN_any (x : List UInt8) (w : World) : Calls Tryz.prog 128 #[.string ⟨x.toArray⟩] w fun e w' => e = .returned (.bool false) ∧ w = w' := by
  go_enter Tryz.func128, Tryz.ntmps128
  go_wp2
  go_ret
  exact ⟨rfl, rfl⟩

theorem compare_any (x y : List UInt8) (w : World) : Calls Tryz.prog 127 #[.string ⟨x.toArray⟩, .string ⟨y.toArray⟩] w fun e w' => e = .returned (.int .i64 (cmpS x y)) ∧ w = w' := by
  rcases Bool.eq_false_or_eq_true (Op.bytesLess x y) with h | h
  · have HC : Hid (cmpS x y = -1) := by show _ = _; unfold cmpS; rw [h]; rfl
    go_enter Tryz.func127, Tryz.ntmps127
    go_wp2_with (first | (go_at_call 128; refine (isNaN_any _ _).mono ?_; rintro e w' ⟨rfl, rfl⟩))
    go_ret
    exact ⟨ret_int HC.out.symm, rfl⟩
  · rcases Bool.eq_false_or_eq_true (x == y) with he | he
    · have HC : Hid (cmpS x y = 0) := by show _ = _; unfold cmpS; simp [h]; simpa using he
      go_enter Tryz.func127, Tryz.ntmps127
      go_wp2_with (first | (go_at_call 128; refine (isNaN_any _ _).mono ?_; rintro e w' ⟨rfl, rfl⟩))
      go_ret
      exact ⟨ret_int HC.out.symm, rfl⟩
    · have HC : Hid (cmpS x y = 1) := by show _ = _; unfold cmpS; simp [h]; simpa using he
      go_enter Tryz.func127, Tryz.ntmps127
      go_wp2_with (first | (go_at_call 128; refine (isNaN_any _ _).mono ?_; rintro e w' ⟨rfl, rfl⟩))
      go_ret
      exact ⟨ret_int HC.out.symm, rfl⟩

theorem cmp_step {A B : List (List UInt8)} {k : Nat} (ha : k < A.length) (hb : k < B.length) (h : cmpS A[k] B[k] = 0) : cmpP (A.drop k) (B.drop k) = cmpP (A.drop (k + 1)) (B.drop (k + 1)) := by
  rw [cmpP_drop ha hb]
  unfold cmpS at h
  split at h
  · cases h
  · rename_i hn
    split at h
    · rename_i he
      rw [if_neg hn, if_pos he]
    · cases h
theorem cmp_stop {A B : List (List UInt8)} {k : Nat} (ha : k < A.length) (hb : k < B.length) (h : cmpS A[k] B[k] ≠ 0) : cmpP (A.drop k) (B.drop k) = cmpS A[k] B[k] := by
  rw [cmpP_drop ha hb]
  unfold cmpS at h ⊢
  split
  · rfl
  · rename_i hn
    split
    · rename_i he
      rw [if_neg hn, if_pos he] at h
      exact absurd rfl h
    · rfl

set_option maxHeartbeats 400000 in
theorem slicesCompare_any (v1 v2 : Value) (A B : List (List UInt8)) (w : World) (h1 : Strs w v1 A) (h2 : Strs w v2 B) (hl : A.length ≤ 1000) (hl2 : B.length ≤ 1000) : Calls Tryz.prog 125 #[v1, v2] w fun e w' => e = .returned (.int .i64 (cmpP A B)) ∧ w = w' := by
  obtain ⟨a1, c1, rfl, hc1, h1⟩ := h1
  obtain ⟨a2, c2, rfl, hc2, h2⟩ := h2
  have H1 := Lib.hid h1
  have H2 := Lib.hid h2
  clear h1 h2
  go_enter Tryz.func125, Tryz.ntmps125
  go_wp2
  go_loop [11] (fun i => ∃ k : Nat, k ≤ A.length ∧ k ≤ B.length ∧ i = .int .i64 k ∧ Hid (cmpP A B = cmpP (A.drop k) (B.drop k))) (fun i => A.length - (intOf i).toNat)
  case atStart => exact ⟨0, by omega, by omega, rfl, rfl⟩
  case round =>
    obtain ⟨k, hk, hkb, rfl, HK⟩ := hrel
    by_cases hlt : k < A.length
    · obtain ⟨b1, o1, rfl, hb1, hcell1⟩ := H1.out (by omega)
      have hk1 := hcell1 k A[k] (by simp [hlt])
      unfold strV at hk1
      clear hcell1 H1
      have hi1 : (k : Int) < (A.length : Int) := by omega
      have hi0 : (0 : Int) ≤ (k : Int) := by omega
      by_cases hlt2 : k < B.length
      · obtain ⟨b2, o2, rfl, hb2, hcell2⟩ := H2.out (by omega)
        have hk2 := hcell2 k B[k] (by simp [hlt2])
        unfold strV at hk2
        clear hcell2 H2
        have hi2 : (k : Int) < (B.length : Int) := by omega
        by_cases h0 : cmpS A[k] B[k] = 0
        · have HS := Lib.hid (cmp_step hlt hlt2 h0)
          go_wp2_with (first | (go_at_call 127; refine (compare_any _ _ _).mono ?_; rintro e w' ⟨rfl, rfl⟩))
          exact ⟨⟨k + 1, by omega, by omega, by go_num, by show _ = _; rw [HK.out, HS.out]⟩, by simp [intOf]; omega⟩
        · have HS := Lib.hid (cmp_stop hlt hlt2 h0)
          have hne : (cmpS A[k] B[k] != 0) = true := by simpa using h0
          clear h0
          go_wp2_with (first | (go_at_call 127; refine (compare_any _ _ _).mono ?_; rintro e w' ⟨rfl, rfl⟩))
          go_ret
          exact ⟨ret_int (by rw [HK.out, HS.out]), rfl⟩
      · have HS := Lib.hid (cmpP_nilR (B := B) hlt (by omega))
        go_wp2
        go_ret
        exact ⟨ret_int (by rw [HK.out, HS.out]), rfl⟩
    · have HS := Lib.hid (cmpP_nilL (A := A) (B := B) (k := k) (by omega) hkb)
      by_cases hAB : A.length < B.length
      · rw [if_pos hAB] at HS
        go_wp2
        go_ret
        exact ⟨ret_int (by rw [HK.out, HS.out]), rfl⟩
      · rw [if_neg hAB] at HS
        go_wp2
        go_ret
        exact ⟨ret_int (by rw [HK.out, HS.out]), rfl⟩

set_option maxHeartbeats 800000 in
theorem l01Less_any (s t : ByteArray) (w : World) (hs : s.size ≤ 65536) (ht : t.size ≤ 65536) : Calls Tryz.prog 70 #[.string s, .string t] w fun e w' => e = .returned (.bool (lessP (cutAt 47 s.data.toList) (cutAt 47 t.data.toList))) ∧ Below w.heap.size w w' := by
  go_enter Tryz.func70, Tryz.ntmps70
  go_wp2_with fail
  refine (l00Cut_any s 47 47 rfl _ (by omega)).mono ?_
  rintro e w1 ⟨v1, rfl, hb1, ho1⟩
  go_wp2_with fail
  refine (l00Cut_any t 47 47 rfl _ (by omega)).mono ?_
  rintro e w2 ⟨v2, rfl, hb2, ho2⟩
  have s1 := Strs.own (own_below ho1 hb2)
  have s2 := Strs.own ho2
  have hl1 := cutAt_length_le 47 s.data.toList
  have hl2 := cutAt_length_le 47 t.data.toList
  rw [← Lib.size_eq] at hl1 hl2
  have hb12 := hb1.trans (hb2.mono hb1.size)
  clear ho1 ho2 hb1 hb2
  generalize hA0 : cutAt 47 s.data.toList = A at *
  generalize hB0 : cutAt 47 t.data.toList = B at *
  have HAB : Hid (lessP (cutAt 47 s.data.toList) (cutAt 47 t.data.toList) = lessP A B) := by show _ = _; rw [hA0, hB0]
  clear hA0 hB0
  obtain ⟨a1, c1, rfl, hc1, h1⟩ := s1
  obtain ⟨a2, c2, rfl, hc2, h2⟩ := s2
  have H1 := Lib.hid h1
  have H2 := Lib.hid h2
  clear h1 h2
  go_wp2
  go_loopw [7] (fun i wr => ∃ k n : Nat, k ≤ A.length ∧ k ≤ B.length ∧ i = .int .i64 k ∧ wr = w2.drewN n ∧ Hid (lessP A B = lessP (A.drop k) (B.drop k))) (fun i _ => A.length - (intOf i).toNat)
  case atStart => exact ⟨0, 0, by omega, by omega, rfl, rfl, rfl⟩
  case round =>
    obtain ⟨k, n, hk, hkb, rfl, rfl, HK⟩ := hrel
    by_cases hlt : k < A.length ∧ k < B.length
    · obtain ⟨hlt1, hlt2⟩ := hlt
      obtain ⟨b1, o1, rfl, hb1, hcell1⟩ := H1.out (by omega)
      obtain ⟨b2, o2, rfl, hb2, hcell2⟩ := H2.out (by omega)
      have hk1 := hcell1 k A[k] (by simp [hlt1])
      have hk2 := hcell2 k B[k] (by simp [hlt2])
      unfold strV at hk1 hk2
      clear hcell1 hcell2 H1 H2
      have hi1 : (k : Int) < (A.length : Int) := by omega
      have hi2 : (k : Int) < (B.length : Int) := by omega
      have hi0 : (0 : Int) ≤ (k : Int) := by omega
      have HD := Lib.hid (lessP_drop hlt1 hlt2)
      rcases Bool.eq_false_or_eq_true (A[k] == B[k]) with he | he
      · have HS : Hid (lessP A B = lessP (A.drop (k + 1)) (B.drop (k + 1))) := by show _ = _; rw [HK.out, HD.out, if_pos (by simpa using he)]
        go_wp2
        go_quiet (fail)
        go_wp2
        exact ⟨⟨k + 1, _, by omega, by omega, by go_num, rfl, HS⟩, by simp [intOf]; omega⟩
      · have HS : Hid (lessP A B = Op.bytesLess A[k] B[k]) := by show _ = _; rw [HK.out, HD.out, if_neg (by simpa using he)]
        go_wp2
        go_quiet (fail)
        go_wp2
        go_quiet (fail)
        go_wp2
        go_ret
        exact ⟨ret_bool (by rw [HAB.out, HS.out]), by exact ⟨hb12.os, hb12.tape, hb12.output, hb12.size, hb12.block⟩⟩
    · have HS := Lib.hid (lessP_end hlt hk hkb)
      by_cases hA : k < A.length
      · have hB : ¬ k < B.length := by omega
        go_wp2
        go_ret
        exact ⟨ret_bool (by rw [HAB.out, HK.out, HS.out]), by exact ⟨hb12.os, hb12.tape, hb12.output, hb12.size, hb12.block⟩⟩
      · go_wp2
        go_ret
        exact ⟨ret_bool (by rw [HAB.out, HK.out, HS.out]), by exact ⟨hb12.os, hb12.tape, hb12.output, hb12.size, hb12.block⟩⟩

def lessB (s t : ByteArray) : Bool := pathB s.data.toList && pathB t.data.toList && lessP (cutAt 47 s.data.toList) (cutAt 47 t.data.toList)
theorem lessB_no1 {s t : ByteArray} (h : pathB s.data.toList = false) : lessB s t = false := by unfold lessB; rw [h]; rfl
theorem lessB_no2 {s t : ByteArray} (h : pathB t.data.toList = false) : lessB s t = false := by unfold lessB; rw [h]; simp
theorem lessB_yes {s t : ByteArray} (h : pathB s.data.toList = true) (k : pathB t.data.toList = true) : lessB s t = lessP (cutAt 47 s.data.toList) (cutAt 47 t.data.toList) := by unfold lessB; rw [h, k]; rfl

set_option maxHeartbeats 800000 in
theorem pathLess_impl (s t : ByteArray) (w : World) (hs : s.size ≤ maxLen) (ht : t.size ≤ maxLen) : Calls Tryz.prog 118 #[.string s, .string t] w fun e w' => e = .returned (.bool (lessB s t)) ∧ Below w.heap.size w w' := by
  have hq := fun (w : World) (a : Option Addr) (n c n' c' : Nat) => run_neq_slice_nil_any (P := Tryz.prog) w 33 9 a n c n' c' Tryz.underlying33
  go_enter Tryz.func118, Tryz.ntmps118
  go_wp2_with fail
  refine (splitPath_any s _ hs).mono ?_
  rintro e w1 ⟨v1, rfl, hp1⟩
  go_wp2_with fail
  refine (splitPath_any t _ ht).mono ?_
  rintro e w2 ⟨v2, rfl, hp2⟩
  obtain ⟨A1, cap1, rfl, hA1⟩ := split_nil hp1
  obtain ⟨A2, cap2, rfl, hA2⟩ := split_nil hp2
  obtain ⟨hb1, ho1, _, _⟩ := hp1
  obtain ⟨hb2, ho2, _, _⟩ := hp2
  have hb12 := hb1.trans (hb2.mono hb1.size)
  rcases Bool.eq_false_or_eq_true (pathB s.data.toList) with h1 | h1
  case inr =>
    have HL := Lib.hid (lessB_no1 (t := t) h1)
    rw [h1] at hA1
    clear ho1 ho2
    go_wp2_with fail
    go_ret
    exact ⟨ret_bool HL.out.symm, hb12⟩
  rcases Bool.eq_false_or_eq_true (pathB t.data.toList) with h2 | h2
  case inr =>
    have HL := Lib.hid (lessB_no2 (s := s) h2)
    rw [h1] at hA1
    rw [h2] at hA2
    clear ho1 ho2
    go_wp2_with fail
    go_ret
    exact ⟨ret_bool HL.out.symm, hb12⟩
  have HL := Lib.hid (lessB_yes h1 h2)
  rw [h1] at hA1
  rw [h2] at hA2
  have l1 := (pathB_parts h1).1
  have l2 := (pathB_parts h2).1
  have s1 := Lib.hid (Strs.own (own_below ho1 hb2))
  have s2 := Lib.hid (Strs.own ho2)
  rw [partsOf_yes h1] at *
  rw [partsOf_yes h2] at *
  clear ho1 ho2
  go_wp2_with fail
  refine (slicesCompare_any _ _ _ _ _ s1.out s2.out (by omega) (by omega)).mono ?_
  rintro e w3 ⟨rfl, rfl⟩
  go_wp2_with fail
  go_ret
  exact ⟨ret_bool (by rw [HL.out]; exact less_cmp _ _), hb12⟩

end Go.Proofs.YtibekkfbpmloiaaGreatDoor.Paths
