/- Paths: JoinPath, of the program and of its model. -/
import Derived.Test.YtpklkajpohkhkaaPaths5
namespace Go.Proofs.Ytpklkajpohkhkaa.Paths
open Go.RowKit

/-- Which of the ways JoinPath goes: 0: too long · 1: no path, or no part · 2: too many parts · 3: from the root · 4: from a path. -/
def joinWay (d p : ByteArray) : Nat :=
  if 65536 < d.size ∨ 65536 < p.size then 0
  else if (d.size ≠ 0 ∧ pathB d.data.toList = false) ∨ partB p.data.toList = false then 1
  else if d.size = 0 then 3
  else if (cutAt 47 d.data.toList).length = 4 then 2 else 4
def joinCode (d p : ByteArray) : Int := match joinWay d p with | 0 => 2 | 1 => 10 | 2 => 6 | _ => 0
def joinRes (d p : ByteArray) : List UInt8 := match joinWay d p with | 3 => p.data.toList | 4 => d.data.toList ++ 47 :: p.data.toList | _ => []
def JoinPost (d p : ByteArray) (w : World) (e : Ending) (w' : World) : Prop := e = .returned (.tuple #[strV (joinRes d p), .int .i64 (joinCode d p)]) ∧ Below w.heap.size w w'

theorem JoinPost.long {d p : ByteArray} {w w' : World} (h : joinWay d p = 0) (hb : Below w.heap.size w w') : JoinPost d p w (.returned (.tuple #[.string ⟨#[]⟩, .int .i64 2])) w' := ⟨by unfold joinRes joinCode; rw [h]; rfl, hb⟩
theorem JoinPost.name {d p : ByteArray} {w w' : World} (h : joinWay d p = 1) (hb : Below w.heap.size w w') : JoinPost d p w (.returned (.tuple #[.string ⟨#[]⟩, .int .i64 10])) w' := ⟨by unfold joinRes joinCode; rw [h]; rfl, hb⟩
theorem JoinPost.many {d p : ByteArray} {w w' : World} (h : joinWay d p = 2) (hb : Below w.heap.size w w') : JoinPost d p w (.returned (.tuple #[.string ⟨#[]⟩, .int .i64 6])) w' := ⟨by unfold joinRes joinCode; rw [h]; rfl, hb⟩
theorem JoinPost.root {d p : ByteArray} {w w' : World} (h : joinWay d p = 3) (hb : Below w.heap.size w w') : JoinPost d p w (.returned (.tuple #[strV p.data.toList, .int .i64 0])) w' := ⟨by unfold joinRes joinCode; rw [h]; rfl, hb⟩
theorem JoinPost.deep {d p : ByteArray} {w w' : World} (h : joinWay d p = 4) (hb : Below w.heap.size w w') : JoinPost d p w (.returned (.tuple #[strV (d.data.toList ++ 47 :: p.data.toList), .int .i64 0])) w' := ⟨by unfold joinRes joinCode; rw [h]; rfl, hb⟩

theorem pathB_empty {d : ByteArray} (h : d.size = 0) : pathB d.data.toList = false := by
  have : d.data.toList = [] := by
    have := Lib.size_eq d
    rw [h] at this
    exact List.eq_nil_of_length_eq_zero this.symm
  rw [this]
  decide

set_option maxHeartbeats 1000000 in
theorem joinPath_impl (d p : ByteArray) (w : World) (hd : d.size ≤ maxLen) : Calls Try.prog 19 #[.string d, .string p] w (JoinPost d p w) := by
  obtain ⟨i0, hi, hz0, hz1, hz2⟩ := info_parts strInfo
  have hq := fun (w : World) (a : Option Addr) (n c n' c' : Nat) => Lib.run_eql_slice_nil (P := Try.prog) w 24 9 a n c n' c' Try.underlying24
  by_cases h1 : d.size ≤ 65536
  case neg =>
    have hd1 : decide ((65536 : Int) < (d.size : Int)) = true := by simp; omega
    have HW : Hid (joinWay d p = 0) := by show _ = _; unfold joinWay; rw [if_pos (.inl (by omega))]
    go_enter Try.func19, Try.ntmps19
    go_wp2_with fail
    refine (longText_any d _).mono ?_
    rintro e w1 ⟨rfl, rfl⟩
    go_wp2_with fail
    go_ret2
    exact JoinPost.long HW.out (Below.refl _ _)
  have hd1 : decide ((65536 : Int) < (d.size : Int)) = false := by simp; omega
  by_cases h2 : p.size ≤ 65536
  case neg =>
    have hd2 : decide ((65536 : Int) < (p.size : Int)) = true := by simp; omega
    have HW : Hid (joinWay d p = 0) := by show _ = _; unfold joinWay; rw [if_pos (.inr (by omega))]
    go_enter Try.func19, Try.ntmps19
    go_wp2_with fail
    refine (longText_any d _).mono ?_
    rintro e w1 ⟨rfl, rfl⟩
    go_wp2_with fail
    refine (longText_any p _).mono ?_
    rintro e w1 ⟨rfl, rfl⟩
    go_wp2_with fail
    go_ret2
    exact JoinPost.long HW.out (Below.refl _ _)
  have hd2 : decide ((65536 : Int) < (p.size : Int)) = false := by simp; omega
  have W0 : joinWay d p = if (d.size ≠ 0 ∧ pathB d.data.toList = false) ∨ partB p.data.toList = false then 1 else if d.size = 0 then 3 else if (cutAt 47 d.data.toList).length = 4 then 2 else 4 := by
    unfold joinWay
    rw [if_neg (by omega)]
  have HW0 := Lib.hid W0
  clear W0
  by_cases h3 : d.size = 0
  · have he := isEmpty_true h3
    have hB := pathB_empty h3
    have H3 := Lib.hid h3
    clear h3
    rcases Bool.eq_false_or_eq_true (partB p.data.toList) with hP | hP
    · have HW : Hid (joinWay d p = 3) := by show _ = _; rw [HW0.out, if_neg (by simp [H3.out, hP]), if_pos H3.out]
      have HJ := Lib.hid (Lib.join_one p.data.toList [47])
      go_enter Try.func19, Try.ntmps19
      go_wp2_with fail
      refine (longText_any d _).mono ?_
      rintro e w1 ⟨rfl, rfl⟩
      go_wp2_with fail
      refine (longText_any p _).mono ?_
      rintro e w1 ⟨rfl, rfl⟩
      go_wp2_with fail
      refine (splitPath_any d _ hd).mono ?_
      rintro e w1 ⟨v, rfl, hb1, ho1, hn1, _⟩
      obtain rfl := hn1 hB
      have hz1' := hb1.size
      clear hn1
      go_wp2_with fail
      refine (partOK_impl p _).mono ?_
      rintro e w2 ⟨rfl, hb2⟩
      have hb12 := hb1.trans (hb2.mono hb1.size)
      have hz2' := hb12.size
      go_wp2_with (first
        | (at_builtin; refine wpList_append_own _ rfl _ _ 24 rfl w.heap.size 9 i0 (.string ByteArray.empty) 1 16 Try.underlying24 hi hz0 hz1 hz2 rfl (by decide) _ _ _ rfl (World.ownsRow_nil _ _ _ _) ⟨w2.heap.size, 0, none⟩ 1 1 [.string p] rfl rfl (cell_one_new _ _ _) (fun x hx => by simp at hx; subst hx; rfl) (by unfold maxLen; omega) (by omega) (by simp; omega) ?_; intro v' w3 hown' hgrow3 hnil3))
      have hst : Strs w3 v' [p.data.toList] := Strs.own hown'
      have hg3 : (w2.alloc (.cells #[.string p] 9)).grownBy w3 none := hgrow3
      have hb3 : Below w.heap.size w w3 := (hb12.alloc hb12.size _).grown hg3 (by simp; omega) (fun q hq => by cases hq)
      clear hgrow3 hnil3 hown' hg3
      have hps := Lib.size_eq p
      refine (join_any v' _ _ hst (by rw [HJ.out, ← hps]; omega) (by simp)).mono ?_
      rintro e w4 ⟨rfl, hb4⟩
      rw [HJ.out]
      clear hps
      go_wp2_with fail
      go_ret2
      exact JoinPost.root HW.out (hb3.trans (hb4.mono hb3.size))
    · have HW : Hid (joinWay d p = 1) := by show _ = _; rw [HW0.out, if_pos (.inr hP)]
      go_enter Try.func19, Try.ntmps19
      go_wp2_with fail
      refine (longText_any d _).mono ?_
      rintro e w1 ⟨rfl, rfl⟩
      go_wp2_with fail
      refine (longText_any p _).mono ?_
      rintro e w1 ⟨rfl, rfl⟩
      go_wp2_with fail
      refine (splitPath_any d _ hd).mono ?_
      rintro e w1 ⟨v, rfl, hb1, ho1, hn1, _⟩
      obtain rfl := hn1 hB
      clear hn1
      go_wp2_with fail
      refine (partOK_impl p _).mono ?_
      rintro e w2 ⟨rfl, hb2⟩
      have hb12 := hb1.trans (hb2.mono hb1.size)
      go_wp2_with fail
      go_ret2
      exact JoinPost.name HW.out hb12
  · have he := isEmpty_false (by omega : 0 < d.size)
    have H3 := Lib.hid h3
    clear h3
    rcases Bool.eq_false_or_eq_true (pathB d.data.toList) with hB | hB
    case inr =>
      have HW : Hid (joinWay d p = 1) := by show _ = _; rw [HW0.out, if_pos (.inl ⟨H3.out, hB⟩)]
      go_enter Try.func19, Try.ntmps19
      go_wp2_with fail
      refine (longText_any d _).mono ?_
      rintro e w1 ⟨rfl, rfl⟩
      go_wp2_with fail
      refine (longText_any p _).mono ?_
      rintro e w1 ⟨rfl, rfl⟩
      go_wp2_with fail
      refine (splitPath_any d _ hd).mono ?_
      rintro e w1 ⟨v, rfl, hb1, ho1, hn1, _⟩
      obtain rfl := hn1 hB
      clear hn1
      go_wp2_with fail
      go_ret2
      exact JoinPost.name HW.out hb1
    rcases Bool.eq_false_or_eq_true (partB p.data.toList) with hP | hP
    case inr =>
      have HW : Hid (joinWay d p = 1) := by show _ = _; rw [HW0.out, if_pos (.inr hP)]
      go_enter Try.func19, Try.ntmps19
      go_wp2_with fail
      refine (longText_any d _).mono ?_
      rintro e w1 ⟨rfl, rfl⟩
      go_wp2_with fail
      refine (longText_any p _).mono ?_
      rintro e w1 ⟨rfl, rfl⟩
      go_wp2_with fail
      refine (splitPath_any d _ hd).mono ?_
      rintro e w1 ⟨v, rfl, hp1⟩
      obtain ⟨A, cap, rfl, hA⟩ := split_nil hp1
      rw [hB] at hA
      have hb1 := hp1.1
      clear hp1
      go_wp2_with fail
      refine (partOK_impl p _).mono ?_
      rintro e w2 ⟨rfl, hb2⟩
      have hb12 := hb1.trans (hb2.mono hb1.size)
      go_wp2_with fail
      go_ret2
      exact JoinPost.name HW.out hb12
    have hcl := (pathB_parts hB).1
    have hpl := pathB_len hB
    rw [← Lib.size_eq] at hpl
    by_cases h4 : (cutAt 47 d.data.toList).length = 4
    · have HW : Hid (joinWay d p = 2) := by show _ = _; rw [HW0.out, if_neg (by simp [hB, hP]), if_neg H3.out, if_pos h4]
      go_enter Try.func19, Try.ntmps19
      go_wp2_with fail
      refine (longText_any d _).mono ?_
      rintro e w1 ⟨rfl, rfl⟩
      go_wp2_with fail
      refine (longText_any p _).mono ?_
      rintro e w1 ⟨rfl, rfl⟩
      go_wp2_with fail
      refine (splitPath_any d _ hd).mono ?_
      rintro e w1 ⟨v, rfl, hp1⟩
      obtain ⟨A, cap, rfl, hA⟩ := split_nil hp1
      rw [hB] at hA
      have hb1 := hp1.1
      rw [partsOf_yes hB]
      have h4e : (((cutAt 47 d.data.toList).length : Int) == 4) = true := by simp; omega
      clear hp1 h4
      go_wp2_with fail
      refine (partOK_impl p _).mono ?_
      rintro e w2 ⟨rfl, hb2⟩
      have hb12 := hb1.trans (hb2.mono hb1.size)
      go_wp2_with fail
      go_ret2
      exact JoinPost.many HW.out hb12
    · have HW : Hid (joinWay d p = 4) := by show _ = _; rw [HW0.out, if_neg (by simp [hB, hP]), if_neg H3.out, if_neg h4]
      have HJ : Hid (Lib.join (cutAt 47 d.data.toList ++ [p.data.toList]) [47] = d.data.toList ++ 47 :: p.data.toList) := by show _ = _; rw [join_snoc _ (cutAt_ne 47 _), join_cut]
      go_enter Try.func19, Try.ntmps19
      go_wp2_with fail
      refine (longText_any d _).mono ?_
      rintro e w1 ⟨rfl, rfl⟩
      go_wp2_with fail
      refine (longText_any p _).mono ?_
      rintro e w1 ⟨rfl, rfl⟩
      go_wp2_with fail
      refine (splitPath_any d _ hd).mono ?_
      rintro e w1 ⟨v, rfl, hp1⟩
      obtain ⟨A, cap, rfl, hA⟩ := split_nil hp1
      rw [hB] at hA
      obtain ⟨hb1, ho1, _, _⟩ := hp1
      rw [partsOf_yes hB] at *
      have h4e : (((cutAt 47 d.data.toList).length : Int) == 4) = false := by simp; omega
      clear h4
      have hz1' := hb1.size
      generalize hL : cutAt 47 d.data.toList = L at *
      have HL := Lib.hid hL
      clear hL
      go_wp2_with fail
      refine (partOK_impl p _).mono ?_
      rintro e w2 ⟨rfl, hb2⟩
      have hb12 := hb1.trans (hb2.mono hb1.size)
      have hz2' := hb12.size
      have ho2 := own_below ho1 hb2
      clear ho1
      go_wp2_with (first
        | (at_builtin; refine wpList_append_own _ rfl _ _ 24 rfl w.heap.size 9 i0 (.string ByteArray.empty) 1 16 Try.underlying24 hi hz0 hz1 hz2 rfl (by decide) _ _ _ rfl (ho2.alloc _) ⟨w2.heap.size, 0, none⟩ 1 1 [.string p] rfl rfl (cell_one_new _ _ _) (fun x hx => by simp at hx; subst hx; rfl) (by unfold maxLen; omega) (by omega) (by simp; omega) ?_; intro v' w3 hown' hgrow3 hnil3))
      have hst : Strs w3 v' (L ++ [p.data.toList]) := Strs.own (by simpa [strV_data] using hown')
      have hg3 : (w2.alloc (.cells #[.string p] 9)).grownBy w3 (Value.ownBlock (.slice A L.length cap)) := hgrow3
      have hb3 : Below w.heap.size w w3 := (hb12.alloc hb12.size _).grown hg3 (by simp; omega) (fun q hq => (ho2.lt q hq).1)
      clear hgrow3 hnil3 hown' hg3
      have hps := Lib.size_eq p
      have hds := Lib.size_eq d
      refine (join_any v' _ _ hst (by rw [HJ.out]; simp; omega) (by simp; omega)).mono ?_
      rintro e w4 ⟨rfl, hb4⟩
      rw [HJ.out]
      clear hps hds
      go_wp2_with fail
      go_ret2
      exact JoinPost.deep HW.out (hb3.trans (hb4.mono hb3.size))

theorem strV_join (d p : ByteArray) : .string (d ++ ⟨#[47]⟩ ++ p) = strV (d.data.toList ++ 47 :: p.data.toList) := by
  unfold strV
  congr 1
  apply ByteArray.ext
  simp

theorem l01Join_root (d p : ByteArray) (w : World) (h : d.size = 0) : Calls Try.prog 54 #[.string d, .string p] w fun e w' => e = .returned (strV p.data.toList) ∧ w = w' := by
  have he := isEmpty_true h
  clear h
  go_enter Try.func54, Try.ntmps54
  go_wp2
  go_ret
  exact ⟨rfl, rfl⟩
theorem l01Join_deep (d p : ByteArray) (w : World) (h : 0 < d.size) (hd : d.size ≤ 65536) (hp : p.size ≤ 65536) : Calls Try.prog 54 #[.string d, .string p] w fun e w' => e = .returned (strV (d.data.toList ++ 47 :: p.data.toList)) ∧ w = w' := by
  have he := isEmpty_false h
  have h47 : (⟨#[47]⟩ : ByteArray).size = 1 := rfl
  have HJ := Lib.hid (strV_join d p)
  go_enter Try.func54, Try.ntmps54
  go_wp2
  go_ret
  exact ⟨by rw [← HJ.out]; rfl, rfl⟩

theorem strV_eq (l : List UInt8) : strV l = .string ⟨l.toArray⟩ := rfl

set_option maxHeartbeats 1000000 in
theorem joinPath_spec (d p : ByteArray) (w : World) : Calls Try.prog 34 #[.string d, .string p] w (JoinPost d p w) := by
  by_cases h1 : d.size ≤ 65536
  case neg =>
    have hd1 : decide ((65536 : Int) < (d.size : Int)) = true := by simp; omega
    have HW : Hid (joinWay d p = 0) := by show _ = _; unfold joinWay; rw [if_pos (.inl (by omega))]
    go_enter Try.func34, Try.ntmps34
    go_wp2_with fail
    go_ret2
    exact JoinPost.long HW.out (Below.refl _ _)
  have hd1 : decide ((65536 : Int) < (d.size : Int)) = false := by simp; omega
  by_cases h2 : p.size ≤ 65536
  case neg =>
    have hd2 : decide ((65536 : Int) < (p.size : Int)) = true := by simp; omega
    have HW : Hid (joinWay d p = 0) := by show _ = _; unfold joinWay; rw [if_pos (.inr (by omega))]
    go_enter Try.func34, Try.ntmps34
    go_wp2_with fail
    go_ret2
    exact JoinPost.long HW.out (Below.refl _ _)
  have hd2 : decide ((65536 : Int) < (p.size : Int)) = false := by simp; omega
  have W0 : joinWay d p = if (d.size ≠ 0 ∧ pathB d.data.toList = false) ∨ partB p.data.toList = false then 1 else if d.size = 0 then 3 else if (cutAt 47 d.data.toList).length = 4 then 2 else 4 := by
    unfold joinWay
    rw [if_neg (by omega)]
  have HW0 := Lib.hid W0
  clear W0
  by_cases h3 : d.size = 0
  · have he := isEmpty_true h3
    have HJ := Lib.hid (l01Join_root d p · h3)
    have H3 := Lib.hid h3
    clear h3
    rcases Bool.eq_false_or_eq_true (partB p.data.toList) with hP | hP
    · have HW : Hid (joinWay d p = 3) := by show _ = _; rw [HW0.out, if_neg (by simp [H3.out, hP]), if_pos H3.out]
      have hB := pathB_part hP
      go_enter Try.func34, Try.ntmps34
      go_wp2_with fail
      refine (l01Part_any p _).mono ?_
      rintro e w1 ⟨rfl, rfl⟩
      go_wp2_with fail
      refine (HJ.out _).mono ?_
      rintro e w1 ⟨rfl, rfl⟩
      rw [strV_data]
      go_wp2_with fail
      refine (l01OK_any p _).mono ?_
      rintro e w1 ⟨rfl, hb1⟩
      go_wp2_with fail
      go_ret2
      exact JoinPost.root HW.out hb1
    · have HW : Hid (joinWay d p = 1) := by show _ = _; rw [HW0.out, if_pos (.inr hP)]
      go_enter Try.func34, Try.ntmps34
      go_wp2_with fail
      refine (l01Part_any p _).mono ?_
      rintro e w1 ⟨rfl, rfl⟩
      go_wp2_with fail
      go_ret2
      exact JoinPost.name HW.out (Below.refl _ _)
  · have he := isEmpty_false (by omega : 0 < d.size)
    have HJ := Lib.hid (l01Join_deep d p · (by omega) h1 h2)
    have H3 := Lib.hid h3
    clear h3
    rcases Bool.eq_false_or_eq_true (pathB d.data.toList) with hB | hB
    case inr =>
      have HW : Hid (joinWay d p = 1) := by show _ = _; rw [HW0.out, if_pos (.inl ⟨H3.out, hB⟩)]
      go_enter Try.func34, Try.ntmps34
      go_wp2_with fail
      refine (l01OK_any d _).mono ?_
      rintro e w1 ⟨rfl, hb1⟩
      go_wp2_with fail
      go_ret2
      exact JoinPost.name HW.out hb1
    rcases Bool.eq_false_or_eq_true (partB p.data.toList) with hP | hP
    case inr =>
      have HW : Hid (joinWay d p = 1) := by show _ = _; rw [HW0.out, if_pos (.inr hP)]
      go_enter Try.func34, Try.ntmps34
      go_wp2_with fail
      refine (l01OK_any d _).mono ?_
      rintro e w1 ⟨rfl, hb1⟩
      go_wp2_with fail
      refine (l01Part_any p _).mono ?_
      rintro e w2 ⟨rfl, rfl⟩
      go_wp2_with fail
      go_ret2
      exact JoinPost.name HW.out hb1
    have hcl := (pathB_parts hB).1
    by_cases h4 : (cutAt 47 d.data.toList).length = 4
    · have HW : Hid (joinWay d p = 2) := by show _ = _; rw [HW0.out, if_neg (by simp [hB, hP]), if_neg H3.out, if_pos h4]
      have hN := pathB_join_no hP h4
      clear h4
      generalize hT : d.data.toList ++ 47 :: p.data.toList = T at *
      clear hT
      go_enter Try.func34, Try.ntmps34
      go_wp2_with fail
      refine (l01OK_any d _).mono ?_
      rintro e w1 ⟨rfl, hb1⟩
      go_wp2_with fail
      refine (l01Part_any p _).mono ?_
      rintro e w2 ⟨rfl, rfl⟩
      go_wp2_with fail
      refine (HJ.out _).mono ?_
      rintro e w2 ⟨rfl, rfl⟩
      rw [strV_eq]
      go_wp2_with fail
      refine (l01OK_any ⟨T.toArray⟩ _).mono ?_
      rintro e w2 ⟨rfl, hb2⟩
      go_wp2_with fail
      go_ret2
      exact JoinPost.many HW.out (hb1.trans (hb2.mono hb1.size))
    · have HW : Hid (joinWay d p = 4) := by show _ = _; rw [HW0.out, if_neg (by simp [hB, hP]), if_neg H3.out, if_neg h4]
      have hN := pathB_join hB hP (by omega)
      clear h4
      generalize hT : d.data.toList ++ 47 :: p.data.toList = T at *
      have HT := Lib.hid hT
      clear hT
      go_enter Try.func34, Try.ntmps34
      go_wp2_with fail
      refine (l01OK_any d _).mono ?_
      rintro e w1 ⟨rfl, hb1⟩
      go_wp2_with fail
      refine (l01Part_any p _).mono ?_
      rintro e w2 ⟨rfl, rfl⟩
      go_wp2_with fail
      refine (HJ.out _).mono ?_
      rintro e w2 ⟨rfl, rfl⟩
      rw [strV_eq]
      go_wp2_with fail
      refine (l01OK_any ⟨T.toArray⟩ _).mono ?_
      rintro e w2 ⟨rfl, hb2⟩
      go_wp2_with fail
      go_ret2
      have := JoinPost.deep HW.out (hb1.trans (hb2.mono hb1.size))
      rw [HT.out] at this
      exact this

end Go.Proofs.Ytpklkajpohkhkaa.Paths
