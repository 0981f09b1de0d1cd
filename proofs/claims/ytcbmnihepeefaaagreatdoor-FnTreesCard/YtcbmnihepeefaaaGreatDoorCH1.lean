/- Parts of several texts of mine in one file (each begins with its own remark). -/
import Derived.Test.YtcbmnihepeefaaaGreatDoorCA1
import Derived.Test.YtcbmnihepeefaaaGreatDoorCA2
import Derived.Test.YtcbmnihepeefaaaGreatDoorCA3
import Derived.Test.YtcbmnihepeefaaaGreatDoorCA4
import Derived.Test.YtcbmnihepeefaaaGreatDoorCA5
import Derived.Test.YtcbmnihepeefaaaGreatDoorCA6
import Derived.Test.YtcbmnihepeefaaaGreatDoorCA7
import Derived.Test.YtcbmnihepeefaaaGreatDoorCA8
import Derived.Test.YtcbmnihepeefaaaGreatDoorCB1
import Derived.Test.YtcbmnihepeefaaaGreatDoorCB3
import Derived.Test.YtcbmnihepeefaaaGreatDoorChecked
import Derived.Test.YtcbmnihepeefaaaGreatDoorShelf
import Derived.Deep.Draws
import Derived.Deep.LoopGhost
import Derived.WalkKit
import Derived.WalkSpells
import Derived.WalkSmall
import Derived.Lib.OthersKept
import Derived.Lib.Hide
import Derived.Lib.Strings
import Derived.Lib.Join
import Derived.BigQuiet
import Derived.Laws.BytesArg
import Derived.Deep.QuietTactic
import Derived.Deep.RegionHeld3
import Derived.WalkLawsBesides
import Derived.Deep.Slices
import Derived.OpenShut
import Derived.ShutString
import Derived.ChangeArms
import Derived.WideShapes
import Derived.Lib.LaidTab
import Derived.StillTailTactics
import Derived.Lib.SliceRun
import Derived.Laws.OwnMore
import Derived.BigRegion
import Derived.Deep.RegionWith
import Derived.OneCell
import Derived.Lib.Overlaps
import Derived.Lib.AppendZerosOnto
import Derived.Laws.NewBlocks
import Derived.Laws.IdiomCopy
import Derived.Deep.RegionLaw
/- Paths: PathOK and PartsOf, of the program and of its model. -/
namespace Go.Proofs.YtcbmnihepeefaaaGreatDoor.Paths
open Go.RowKit

theorem l01Ask_any (s : ByteArray) (w : World) : Calls Tryz.prog 102 #[.string s] w fun e w' => e = .returned (.int .i64 (askC s)) ∧ Below w.heap.size w w' := by
  by_cases h : s.size ≤ 65536
  · have hd : decide ((65536 : Int) < (s.size : Int)) = false := by simp; omega
    rcases Bool.eq_false_or_eq_true (pathB s.data.toList) with hp | hp
    · rw [askC_yes h hp]
      go_enter Tryz.func102, Tryz.ntmps102
      go_wp2_with fail
      refine (l01OK_any s _).mono ?_
      rintro e w1 ⟨rfl, hb⟩
      go_wp2_with fail
      go_ret
      exact ⟨rfl, hb⟩
    · rw [askC_no h hp]
      go_enter Tryz.func102, Tryz.ntmps102
      go_wp2_with fail
      refine (l01OK_any s _).mono ?_
      rintro e w1 ⟨rfl, hb⟩
      go_wp2_with fail
      go_ret
      exact ⟨rfl, hb⟩
  · rw [askC_long h]
    have hd : decide ((65536 : Int) < (s.size : Int)) = true := by simp; omega
    go_enter Tryz.func102, Tryz.ntmps102
    go_wp2_with fail
    go_ret
    exact ⟨rfl, Below.refl _ _⟩

end Go.Proofs.YtcbmnihepeefaaaGreatDoor.Paths

/- Plain facts on paths: a path is its parent and one part; the order of paths is strict and total; what is below a path follows it at once. -/
namespace Go.Proofs.YtcbmnihepeefaaaGreatDoor

theorem lessP_between : ∀ (B A C : List (List UInt8)), lessP B A = true → lessP A (B ++ C) = true → belowP A B = true
  | [], [], _, h, _ => by simp [lessP] at h
  | [], _ :: _, _, _, _ => by simp [belowP]
  | _ :: _, [], _, h, _ => by simp [lessP] at h
  | b :: B, a :: A, C, h, k => by
    simp only [List.cons_append, lessP] at h k
    by_cases e : b = a
    · subst e
      simp only [if_true] at h k
      have := lessP_between B A C h k
      simp [belowP] at this ⊢
      exact this
    · rw [if_neg e] at h
      rw [if_neg (fun x => e x.symm)] at k
      rw [bytesLess_asymm b a h] at k
      cases k
theorem belowP_split {A B : List (List UInt8)} (h : belowP A B = true) : ∃ C, A = B ++ C := by
  unfold belowP at h
  simp only [Bool.and_eq_true, beq_iff_eq] at h
  exact ⟨A.drop B.length, by conv => lhs; rw [← List.take_append_drop B.length A, h.2]⟩

/-! ### A path is its parent and one part -/
end Go.Proofs.YtcbmnihepeefaaaGreatDoor

/- Paths: ParentOf and JoinPath, of the program and of its model. -/
namespace Go.Proofs.YtcbmnihepeefaaaGreatDoor.Paths
open Go.RowKit

theorem parentOf_spec (s : ByteArray) (w : World) (hs : s.size ≤ maxLen) : Calls Tryz.prog 17 #[.string s] w fun e w' => e = .returned (.tuple #[strV (parS s), .int .i64 (askC s)]) ∧ Below w.heap.size w w' := by
  by_cases h : s.size ≤ 65536
  · have hd : decide ((65536 : Int) < (s.size : Int)) = false := by simp; omega
    go_enter Tryz.func17, Tryz.ntmps17
    go_wp2_with fail
    refine (l01Ask_any s _).mono ?_
    rintro e w1 ⟨rfl, hb1⟩
    by_cases h0 : askC s = 0
    · have HP : Hid (parS s = parentL s.data.toList) := by show _ = _; unfold parS; rw [(askC_zero h0).2]; rfl
      have H0 := Lib.hid h0
      rw [h0]
      clear h0
      go_wp2_with fail
      refine (l01Parent_any s _ hs).mono ?_
      rintro e w2 ⟨rfl, rfl⟩
      go_wp2_with fail
      go_ret2
      exact ⟨by rw [HP.out, H0.out]; rfl, hb1⟩
    · have HP := Lib.hid (parS_no (askC_bad h0))
      have hne : (askC s != 0) = true := by simpa using h0
      clear h0
      go_wp2_with fail
      go_ret2
      exact ⟨by rw [HP.out]; rfl, hb1⟩
  · have HA := Lib.hid (askC_long h)
    have HP := Lib.hid (parS_no (s := s) (pathB_long (by omega)))
    have hd : decide ((65536 : Int) < (s.size : Int)) = true := by simp; omega
    go_enter Tryz.func17, Tryz.ntmps17
    go_wp2_with fail
    go_ret2
    exact ⟨by rw [HP.out, HA.out]; rfl, Below.refl _ _⟩

end Go.Proofs.YtcbmnihepeefaaaGreatDoor.Paths

/- Paths: JoinPath, of the program and of its model. -/
namespace Go.Proofs.YtcbmnihepeefaaaGreatDoor.Paths
open Go.RowKit

theorem JoinPost.deep {d p : ByteArray} {w w' : World} (h : joinWay d p = 4) (hb : Below w.heap.size w w') : JoinPost d p w (.returned (.tuple #[strV (d.data.toList ++ 47 :: p.data.toList), .int .i64 0])) w' := ⟨by unfold joinRes joinCode; rw [h]; rfl, hb⟩

theorem strV_join (d p : ByteArray) : .string (d ++ ⟨#[47]⟩ ++ p) = strV (d.data.toList ++ 47 :: p.data.toList) := by
  unfold strV
  congr 1
  apply ByteArray.ext
  simp

theorem l01Join_root (d p : ByteArray) (w : World) (h : d.size = 0) : Calls Tryz.prog 178 #[.string d, .string p] w fun e w' => e = .returned (strV p.data.toList) ∧ w = w' := by
  have he := isEmpty_true h
  clear h
  go_enter Tryz.func178, Tryz.ntmps178
  go_wp2
  go_ret
  exact ⟨rfl, rfl⟩
theorem l01Join_deep (d p : ByteArray) (w : World) (h : 0 < d.size) (hd : d.size ≤ 65536) (hp : p.size ≤ 65536) : Calls Tryz.prog 178 #[.string d, .string p] w fun e w' => e = .returned (strV (d.data.toList ++ 47 :: p.data.toList)) ∧ w = w' := by
  have he := isEmpty_false h
  have h47 : (⟨#[47]⟩ : ByteArray).size = 1 := rfl
  have HJ := Lib.hid (strV_join d p)
  go_enter Tryz.func178, Tryz.ntmps178
  go_wp2
  go_ret
  exact ⟨by rw [← HJ.out]; rfl, rfl⟩

end Go.Proofs.YtcbmnihepeefaaaGreatDoor.Paths

/- Paths: IsBelow, of the program and of its model. -/
namespace Go.Proofs.YtcbmnihepeefaaaGreatDoor.Paths
open Go.RowKit

theorem l01Below_root (s t : ByteArray) (w : World) (h : t.size = 0) (hs : 0 < s.size) : Calls Tryz.prog 110 #[.string s, .string t] w fun e w' => e = .returned (.bool true) ∧ w = w' := by
  have he := isEmpty_true h
  have he2 := isEmpty_false hs
  clear h
  go_enter Tryz.func110, Tryz.ntmps110
  go_wp2
  go_ret
  exact ⟨rfl, rfl⟩

set_option maxHeartbeats 800000 in
theorem isBelow_spec (s t : ByteArray) (w : World) : Calls Tryz.prog 25 #[.string s, .string t] w fun e w' => e = .returned (.bool (isBelowB s t)) ∧ Below w.heap.size w w' := by
  by_cases hs : s.size ≤ 65536
  case neg =>
    have HL := Lib.hid (below_none (t := t) (pathB_long (s := s) (by omega)))
    have hd : decide ((65536 : Int) < (s.size : Int)) = true := by simp; omega
    go_enter Tryz.func25, Tryz.ntmps25
    go_wp2_with fail
    go_ret
    exact ⟨ret_bool HL.out.symm, Below.refl _ _⟩
  have hd : decide ((65536 : Int) < (s.size : Int)) = false := by simp; omega
  by_cases ht : t.size ≤ 65536
  case neg =>
    have HL := Lib.hid (below_bad (s := s) (t := t) (by omega) (pathB_long (s := t) (by omega)))
    have hd2 : decide ((65536 : Int) < (t.size : Int)) = true := by simp; omega
    go_enter Tryz.func25, Tryz.ntmps25
    go_wp2_with fail
    go_ret
    exact ⟨ret_bool HL.out.symm, Below.refl _ _⟩
  have hd2 : decide ((65536 : Int) < (t.size : Int)) = false := by simp; omega
  rcases Bool.eq_false_or_eq_true (pathB s.data.toList) with h1 | h1
  case inr =>
    have HL := Lib.hid (below_none (t := t) h1)
    go_enter Tryz.func25, Tryz.ntmps25
    go_wp2_with fail
    refine (l01OK_any s _).mono ?_
    rintro e w1 ⟨rfl, hb1⟩
    go_wp2_with fail
    go_ret
    exact ⟨ret_bool HL.out.symm, hb1⟩
  have hs0 : 0 < s.size := by
    rcases Nat.eq_zero_or_pos s.size with h | h
    · rw [pathB_empty h] at h1; cases h1
    · exact h
  by_cases h0 : t.size = 0
  · have he := isEmpty_true h0
    have HL := Lib.hid ((below_root (s := s) h0).trans h1)
    have HB := Lib.hid (l01Below_root s t · h0 hs0)
    clear h0
    go_enter Tryz.func25, Tryz.ntmps25
    go_wp2_with fail
    refine (l01OK_any s _).mono ?_
    rintro e w1 ⟨rfl, hb1⟩
    go_wp2_with fail
    refine (HB.out _).mono ?_
    rintro e w2 ⟨rfl, rfl⟩
    go_wp2_with fail
    go_ret
    exact ⟨ret_bool HL.out.symm, hb1⟩
  have he := isEmpty_false (by omega : 0 < t.size)
  rcases Bool.eq_false_or_eq_true (pathB t.data.toList) with h2 | h2
  case inr =>
    have HL := Lib.hid (below_bad (s := s) h0 h2)
    clear h0
    go_enter Tryz.func25, Tryz.ntmps25
    go_wp2_with fail
    refine (l01OK_any s _).mono ?_
    rintro e w1 ⟨rfl, hb1⟩
    go_wp2_with fail
    refine (l01OK_any t _).mono ?_
    rintro e w2 ⟨rfl, hb2⟩
    go_wp2_with fail
    go_ret
    exact ⟨ret_bool HL.out.symm, hb1.trans (hb2.mono hb1.size)⟩
  have HL := Lib.hid (below_two h0 h1 h2)
  have HB := Lib.hid (l01Below_two s t · (by omega) hs ht)
  clear h0
  go_enter Tryz.func25, Tryz.ntmps25
  go_wp2_with fail
  refine (l01OK_any s _).mono ?_
  rintro e w1 ⟨rfl, hb1⟩
  go_wp2_with fail
  refine (l01OK_any t _).mono ?_
  rintro e w2 ⟨rfl, hb2⟩
  have hb12 := hb1.trans (hb2.mono hb1.size)
  go_wp2_with fail
  refine (HB.out _).mono ?_
  rintro e w3 ⟨rfl, rfl⟩
  go_wp2_with fail
  go_ret
  exact ⟨ret_bool HL.out.symm, hb12⟩

end Go.Proofs.YtcbmnihepeefaaaGreatDoor.Paths

/- Adding a node to a tree and removing one, plain: where it goes, and that a tree stays a tree. -/
namespace Go.Proofs.YtcbmnihepeefaaaGreatDoor.Recs
open Go.RowKit Paths

/-- A tree without a node and all below it is a tree. -/
theorem without_tree {t : List R} (h : Tree t) (q : ByteArray) : Tree (withoutL t q true) := by
  refine ⟨Nat.le_trans (List.length_filter_le _ _) h.len, fun r hr => h.kind r (mem_without.1 hr).1, fun r hr => h.fault r (mem_without.1 hr).1, without_sorted h.sorted q true, fun r hr hp => ?_⟩
  obtain ⟨h1, h2, h3⟩ := mem_without.1 hr
  obtain ⟨x, hx, hxp, hxk⟩ := h.housed r h1 hp
  have hpath := (fault_path (h.fault r h1)).1
  have hup : x.p ∈ ups r.p := by rw [hxp, ups_step hpath, if_neg hp]; exact List.mem_cons_self ..
  refine ⟨x, mem_without.2 ⟨hx, fun hq => h2 (ups_trans hpath q x.p hup hq), fun _ e => h2 (by rw [← e]; exact hup)⟩, hxp, hxk⟩
end Go.Proofs.YtcbmnihepeefaaaGreatDoor.Recs

/- Trees with what is directly below each node, plain. -/
namespace Go.Proofs.YtcbmnihepeefaaaGreatDoor.Recs
open Go.RowKit Paths

/-- All that is below a path. -/
def subT (t : List R) (p : ByteArray) : List R := t.filter fun c => isUp p c.p
theorem mem_sub {t : List R} {p : ByteArray} {c : R} : c ∈ subT t p ↔ c ∈ t ∧ p ∈ ups c.p := by unfold subT; rw [List.mem_filter, isUp_iff]
/-- The same of the root. -/
def allT (t : List R) (p : ByteArray) : List R := if p = ByteArray.empty then t else subT t p
/-- Two that lie below the same, one less than the other: so is all that is below it. -/
theorem less_below {a b c : ByteArray} (ha : pathB a.data.toList = true) (hb : pathB b.data.toList = true) (hc : pathB c.data.toList = true) (hpar : parO a = parO b)
    (hl : lessP (cutAt 47 a.data.toList) (cutAt 47 b.data.toList) = true) (hu : a ∈ ups c) : lessP (cutAt 47 c.data.toList) (cutAt 47 b.data.toList) = true := by
  rw [up_below hc] at hu
  rcases Bool.eq_false_or_eq_true (lessP (cutAt 47 c.data.toList) (cutAt 47 b.data.toList)) with h | h
  · exact h
  exfalso
  have hne : cutAt 47 b.data.toList ≠ cutAt 47 c.data.toList := by
    intro e
    have hbl : (cutAt 47 a.data.toList).length = (cutAt 47 b.data.toList).length := by
      rcases parent_cases ha with ⟨a1, a2, _⟩ | ⟨_, a2, a3, _⟩ <;> rcases parent_cases hb with ⟨b1, b2, _⟩ | ⟨_, b2, b3, _⟩
      · rw [a2, b2]; rfl
      · exact absurd ((by rw [← parO_data, ← hpar, parO_data]; exact a1) : parentL b.data.toList = []) b3
      · exact absurd ((by rw [← parO_data, hpar, parO_data]; exact b1) : parentL a.data.toList = []) a3
      · have e1 : parentL a.data.toList = parentL b.data.toList := by rw [← parO_data, ← parO_data, hpar]
        rw [e1, b2] at a2
        have := congrArg List.length a2
        rw [List.length_dropLast, List.length_dropLast] at this
        have := cutAt_pos 47 a.data.toList
        have := cutAt_pos 47 b.data.toList
        omega
    unfold belowP at hu
    simp only [Bool.and_eq_true, decide_eq_true_eq] at hu
    rw [← e] at hu
    omega
  have h2 : lessP (cutAt 47 b.data.toList) (cutAt 47 c.data.toList) = true := by
    rcases Bool.eq_false_or_eq_true (lessP (cutAt 47 b.data.toList) (cutAt 47 c.data.toList)) with h3 | h3
    · exact h3
    · exact absurd (lessP_total _ _ h3 h) hne
  obtain ⟨C, hC⟩ := belowP_split hu
  rw [hC] at h2
  have hbel := lessP_between _ _ _ hl h2
  rw [← up_below hb] at hbel
  have hab : a ∈ ups (parO b) ∨ a = parO b := by
    by_cases hp : parO b = ByteArray.empty
    · rw [ups_step hb, if_pos (parO_empty.1 hp)] at hbel; cases hbel
    · rw [ups_of_par hb hp, List.mem_cons] at hbel
      rcases hbel with h3 | h3
      · exact .inr h3
      · exact .inl h3
  by_cases hp : parO a = ByteArray.empty
  · rw [hp] at hpar
    rw [← hpar] at hab
    rcases hab with h3 | h3
    · exact absurd h3 (by
        intro h3
        have : ups ByteArray.empty = [] := by decide
        rw [this] at h3; cases h3)
    · exact path_nonempty ha h3
  · have hpp := (parts_parent ha (fun e => hp (parO_empty.2 e))).1
    have hup : parO a ∈ ups a := by rw [ups_of_par ha hp]; exact List.mem_cons_self ..
    rw [← hpar] at hab
    rcases hab with h3 | h3
    · exact up_self ha (ups_trans ha a (parO a) hup h3)
    · rw [← h3] at hup
      exact up_self ha hup
end Go.Proofs.YtcbmnihepeefaaaGreatDoor.Recs

/- Trees, plain: all that is below a path, by what is directly below it; what putting a node in and taking one out do to what is directly below. -/
namespace Go.Proofs.YtcbmnihepeefaaaGreatDoor.Recs
open Go.RowKit Paths

/-- On the way from a path up to p (or the root): the one directly below p. -/
theorem way_down {p : ByteArray} {x : ByteArray} (hx : pathB x.data.toList = true) : (p = ByteArray.empty ∨ p ∈ ups x) → ∃ c, (c = x ∨ c ∈ ups x) ∧ parO c = p ∧ pathB c.data.toList = true := by
  refine path_ind (P := fun x => (p = ByteArray.empty ∨ p ∈ ups x) → ∃ c, (c = x ∨ c ∈ ups x) ∧ parO c = p ∧ pathB c.data.toList = true) ?_ ?_ x hx
  · intro q hq hn h
    refine ⟨q, .inl rfl, ?_, hq⟩
    rcases h with rfl | h
    · exact parO_empty.2 hn
    · rw [ups_step hq, if_pos hn] at h; cases h
  · intro q hq hn hpp ih h
    have hu : ups q = parO q :: ups (parO q) := by rw [ups_step hq, if_neg hn]
    by_cases hp : parO q = p
    · exact ⟨q, .inl rfl, hp, hq⟩
    · obtain ⟨c, hc, h1, h2⟩ := ih (by
        rcases h with h | h
        · exact .inl h
        · rw [hu, List.mem_cons] at h
          rcases h with h | h
          · exact absurd h.symm hp
          · exact .inr h)
      refine ⟨c, .inr ?_, h1, h2⟩
      rw [hu, List.mem_cons]
      exact hc
/-- What is below a path: each that is directly below it, with all that is below that. -/
theorem all_kids {t : List R} (ht : IsTree t) (p : ByteArray) : allT t p = (kids t p).flatMap fun c => c :: subT t c.p := by
  have hs := ht.sorted
  have hpath := ht.path
  apply sorted_ext
  · unfold allT
    split
    · exact hs
    · exact sorted_filter hs _
  · unfold Sorted
    rw [List.pairwise_flatMap]
    constructor
    · intro c hc
      rw [List.pairwise_cons]
      refine ⟨fun x hx => ?_, sorted_filter hs _⟩
      obtain ⟨h1, h2⟩ := mem_sub.1 hx
      exact ups_less (hpath x h1) _ h2
    · refine (kids_sorted hs p).imp_of_mem ?_
      intro c d hc hd hl x hx y hy
      obtain ⟨hct, hcp⟩ := mem_kids.1 hc
      obtain ⟨hdt, hdp⟩ := mem_kids.1 hd
      have h1 : lessR x d = true := by
        rcases List.mem_cons.1 hx with rfl | hx
        · exact hl
        · obtain ⟨h1, h2⟩ := mem_sub.1 hx
          exact less_below (hpath c hct) (hpath d hdt) (hpath x h1) (hcp.trans hdp.symm) hl h2
      rcases List.mem_cons.1 hy with rfl | hy
      · exact h1
      · obtain ⟨h3, h4⟩ := mem_sub.1 hy
        exact lessR_trans h1 (ups_less (hpath y h3) _ h4)
  · intro x
    rw [List.mem_flatMap]
    constructor
    · intro hx
      have hxt : x ∈ t ∧ (p = ByteArray.empty ∨ p ∈ ups x.p) := by
        unfold allT at hx
        split at hx
        · exact ⟨hx, .inl (by assumption)⟩
        · exact ⟨(mem_sub.1 hx).1, .inr (mem_sub.1 hx).2⟩
      obtain ⟨c, hc, h1, h2⟩ := way_down (hpath x hxt.1) hxt.2
      rcases hc with rfl | hc
      · exact ⟨x, mem_kids.2 ⟨hxt.1, h1⟩, List.mem_cons_self ..⟩
      · obtain ⟨n, hn, rfl, _⟩ := housed_ups ht.housed (hpath x hxt.1) x hxt.1 rfl c hc
        exact ⟨n, mem_kids.2 ⟨hn, h1⟩, List.mem_cons_of_mem _ (mem_sub.2 ⟨hxt.1, hc⟩)⟩
    · rintro ⟨c, hc, hx⟩
      obtain ⟨hct, rfl⟩ := mem_kids.1 hc
      have hcp := hpath c hct
      unfold allT
      by_cases hp : parO c.p = ByteArray.empty
      · rw [if_pos hp]
        rcases List.mem_cons.1 hx with rfl | hx
        · exact hct
        · exact (mem_sub.1 hx).1
      · rw [if_neg hp]
        have hup : parO c.p ∈ ups c.p := by rw [ups_of_par hcp hp]; exact List.mem_cons_self ..
        rcases List.mem_cons.1 hx with rfl | hx
        · exact mem_sub.2 ⟨hct, hup⟩
        · obtain ⟨h1, h2⟩ := mem_sub.1 hx
          exact mem_sub.2 ⟨h1, ups_trans (hpath x h1) _ c.p h2 hup⟩
/-- How deep a path lies. -/
def deep (p : ByteArray) : Nat := if p = ByteArray.empty then 0 else nparts p
theorem deep_kid {c : ByteArray} (h : pathB c.data.toList = true) : deep c = deep (parO c) + 1 ∧ deep c ≤ 4 := by
  have h4 := (pathB_parts h).1
  unfold deep
  rw [if_neg (path_nonempty h)]
  by_cases hp : parO c = ByteArray.empty
  · rw [if_pos hp]
    rcases parent_cases h with ⟨_, h2, _⟩ | ⟨_, _, h3, _⟩
    · unfold nparts
      rw [h2]
      exact ⟨rfl, by simp⟩
    · exact absurd (parO_empty.1 hp) h3
  · rw [if_neg hp]
    have := (parts_parent h (fun e => hp (parO_empty.2 e))).2
    unfold nparts
    exact ⟨this.symm, h4⟩

end Go.Proofs.YtcbmnihepeefaaaGreatDoor.Recs

/- A tree in memory: resolving a path; the place for a node of a path. -/
namespace Go.Proofs.YtcbmnihepeefaaaGreatDoor.Recs
set_option maxRecDepth 100000
open Go.RowKit Paths

section
variable {w : World} {base : Nat} {A : ByteArray → Nat} {S : ByteArray → Value} {t : List R}
def resP (A : ByteArray → Nat) (t : List R) (q : ByteArray) : Value := if pathB q.data.toList then resV A t q else .tuple #[.pointer none, .int .i64 10]

set_option maxHeartbeats 400000 in
theorem resolvePath_any (h : Tr w base A S t) (ht : IsTree t) (hl : t.length ≤ 1048576) (q : ByteArray) (hq : q.size ≤ maxLen) :
    Calls Tryz.prog 104 #[ptr (A ByteArray.empty), .string q] w fun e w' => e = .returned (resP A t q) ∧ Below w.heap.size w w' := by
  have HC := splitPath_any q w hq
  have hqn := fun (w : World) (a : Option Addr) (n c n' c' : Nat) => Lib.run_eql_slice_nil (P := Tryz.prog) w 36 9 a n c n' c' Tryz.underlying36
  unfold ptr
  rcases Bool.eq_false_or_eq_true (pathB q.data.toList) with hp | hp
  · go_enter Tryz.func104, Tryz.ntmps104
    go_wp2_with fail
    refine HC.mono ?_
    rintro e w1 ⟨v, rfl, hb1, ho, -, hn⟩
    rw [partsOf_yes hp] at ho
    have hv := part_sl ho
    obtain ⟨g, cap, rfl, -, hc, -⟩ := own_some ho (hn hp)
    have HR := resolve_any (h.below hb1) ht hl _ hp hv
    obtain ⟨P, c, HE⟩ : ∃ P c, Hid (resV A t q = .tuple #[.pointer P, .int .i64 c]) := ⟨_, _, rfl⟩
    rw [HE.out] at HR
    unfold ptr at HR
    clear hv ho hn
    go_wp2_with fail
    refine HR.mono ?_
    rintro e w2 ⟨rfl, rfl⟩
    go_wp2_with fail
    go_ret2
    exact ⟨by unfold resP; rw [if_pos hp, HE.out]; rfl, hb1⟩
  · go_enter Tryz.func104, Tryz.ntmps104
    go_wp2_with fail
    refine HC.mono ?_
    rintro e w1 ⟨v, rfl, hb1, ho, hn, -⟩
    obtain rfl := hn hp
    have HE : Hid (resP A t q = .tuple #[.pointer none, .int .i64 10]) := by show _ = _; unfold resP; rw [if_neg (by rw [hp]; decide)]
    clear ho hn
    go_wp2_with fail
    go_ret2
    exact ⟨by rw [HE.out]; rfl, hb1⟩

end
end Go.Proofs.YtcbmnihepeefaaaGreatDoor.Recs

/- A tree in memory: attach, of the program. -/
namespace Go.Proofs.YtcbmnihepeefaaaGreatDoor.Recs
set_option maxRecDepth 100000
open Go.RowKit Paths

theorem ptrs_len (A : ByteArray → Nat) (l : List R) : (ptrs A l).length = l.length := by simp [ptrs]
end Go.Proofs.YtcbmnihepeefaaaGreatDoor.Recs

/- A tree in memory: every node of it, one after the other, handed to a function value (each). -/
namespace Go.Proofs.YtcbmnihepeefaaaGreatDoor.Recs
set_option maxRecDepth 100000
open Go.RowKit Paths

/-- The function value that visits. -/
def visV (dc vc : Nat) : Value := .func (.func 183) #[] #[ptr dc, ptr vc]
/-- What a function value that takes nodes must keep: the tree, the cells of the two function values; each node that it takes is one more. -/
structure Walker (Inv : List R → World → Prop) (base : Nat) (A : ByteArray → Nat) (S : ByteArray → Value) (t : List R) (dc vc : Nat) (F : FuncId) (c : Value) : Prop where
  tr : ∀ acc w, Inv acc w → Tr w base A S t
  cd : ∀ acc w, Inv acc w → w.cell? ⟨dc, 0, none⟩ = some (.func (.func F) #[] #[c])
  cv : ∀ acc w, Inv acc w → w.cell? ⟨vc, 0, none⟩ = some (visV dc vc)
  drew : ∀ acc w, Inv acc w → Inv acc w.drew
  step : ∀ acc w r, r ∈ t → acc.length < t.length → Inv acc w → Calls Tryz.prog F #[r.nod, c] w fun e w' => (∃ v, e = .returned v) ∧ Inv (acc ++ [r]) w'
theorem deep_dom {t : List R} (ht : IsTree t) {r : R} (hr : r ∈ rootR :: t) : deep r.p ≤ 4 := by
  rcases List.mem_cons.1 hr with rfl | hr
  · unfold deep; rw [if_pos rootR_p]; omega
  · exact (deep_kid (ht.path r hr)).2
theorem all_sub {t : List R} (ht : IsTree t) {c : R} (hc : c ∈ t) : allT t c.p = subT t c.p := if_neg (path_nonempty (ht.path c hc))
theorem all_root (t : List R) : allT t ByteArray.empty = t := if_pos rfl
/-- What has been visited before the k-th of those directly below. -/
def upto (t : List R) (K : List R) (k : Nat) : List R := (K.take k).flatMap fun c => c :: subT t c.p
theorem upto_zero (t K : List R) : upto t K 0 = [] := rfl
theorem upto_step {t K : List R} {k : Nat} (hk : k < K.length) : upto t K (k + 1) = upto t K k ++ [K[k]] ++ subT t K[k].p := by
  unfold upto
  rw [List.take_add_one, List.getElem?_eq_getElem hk, List.flatMap_append]
  simp
theorem upto_end {t : List R} (ht : IsTree t) (p : ByteArray) {k : Nat} (hk : (kids t p).length ≤ k) : upto t (kids t p) k = allT t p := by
  unfold upto
  rw [List.take_of_length_le hk, all_kids ht]
theorem upto_len {t K : List R} (k : Nat) : (upto t K k).length ≤ (upto t K K.length).length := by
  have e : upto t K K.length = upto t K k ++ (K.drop k).flatMap fun c => c :: subT t c.p := by
    unfold upto
    rw [← List.flatMap_append, List.take_append_drop, List.take_length]
  rw [e, List.length_append]
  omega

set_option maxHeartbeats 1600000 in
theorem visitN_any {Inv : List R → World → Prop} {base : Nat} {A : ByteArray → Nat} {S : ByteArray → Value} {t : List R} {dc vc : Nat} {c : Value} (W : Walker Inv base A S t dc vc 174 c) (ht : IsTree t) (hl : t.length ≤ 1000) :
    ∀ n r, r ∈ rootR :: t → 5 ≤ deep r.p + n → ∀ acc w, Inv acc w → acc.length + (allT t r.p).length ≤ t.length →
      Calls Tryz.prog 183 #[ptr (A r.p), ptr dc, ptr vc] w fun e w' => (∃ v, e = .returned v) ∧ Inv (acc ++ allT t r.p) w' := by
  intro n
  induction n with
  | zero =>
    intro r hr hd
    have := deep_dom ht hr
    omega
  | succ n ih =>
    intro r hr hd acc w hI hlen
    obtain ⟨_, _, _, _, _, c5⟩ := (W.tr _ _ hI).cells hr
    obtain ⟨sA, cap, hS, hcap, _⟩ := (W.tr _ _ hI).kid hr
    have HKC : Hid (∀ acc' wr, Inv acc' wr → 0 < (kids t r.p).length → ∃ g, sA = some ⟨g, 0, none⟩ ∧ ∀ i (hi : i < (kids t r.p).length), wr.cell? ⟨g, i, none⟩ = some (ptr (A (kids t r.p)[i].p))) := by
      intro acc' wr hI' h0
      obtain ⟨sA', cap', hS', _, hk'⟩ := (W.tr _ _ hI').kid hr
      rw [hS] at hS'
      cases hS'
      obtain ⟨g, e, _, h3⟩ := hk' h0
      exact ⟨g, e, h3⟩
    rw [hS] at c5
    have hkl : (kids t r.p).length ≤ 1000 := Nat.le_trans (List.length_filter_le _ _) hl
    have HKD : Hid (∀ i (hi : i < (kids t r.p).length), (kids t r.p)[i] ∈ t ∧ 5 ≤ deep (kids t r.p)[i].p + n) := by
      intro i hi
      obtain ⟨h1, h2⟩ := mem_kids.1 (List.getElem_mem hi)
      have h3 := (deep_kid (ht.path _ h1)).1
      rw [h2] at h3
      exact ⟨h1, by omega⟩
    have HLE : Hid (∀ k, acc.length + (upto t (kids t r.p) k).length ≤ t.length) := by
      intro k
      have h1 := upto_len (t := t) (K := kids t r.p) k
      rw [upto_end ht r.p (Nat.le_refl _)] at h1
      omega
    have HFIN : Hid (∀ k, (kids t r.p).length ≤ k → upto t (kids t r.p) k = allT t r.p) := fun k hk => upto_end ht r.p hk
    have H0 : Hid (Inv (acc ++ upto t (kids t r.p) 0) w) := by rw [upto_zero, List.append_nil]; exact hI
    generalize hgo : allT t r.p = out at *
    generalize A r.p = a at *
    generalize kids t r.p = K at *
    clear hS hgo hI hlen hd hr
    unfold ptr
    go_enter Tryz.func183, Tryz.ntmps183
    go_wp2
    go_loopw [11] (fun i wr => ∃ k : Nat, k ≤ K.length ∧ i = .int .i64 k ∧ Hid (Inv (acc ++ upto t K k) wr)) (fun i _ => K.length - (intOf i).toNat)
    case atStart => exact ⟨0, by omega, rfl, H0⟩
    case round =>
      obtain ⟨k, hk, rfl, HI⟩ := hrel
      by_cases hlt : k < K.length
      · obtain ⟨g, rfl, hcell⟩ := HKC.out _ _ HI.out (by omega)
        have e1 := hcell k hlt
        obtain ⟨hm, hdk⟩ := HKD.out k hlt
        obtain ⟨_, d1, d2, d3, d4, _⟩ := (W.tr _ _ HI.out).cells (List.mem_cons_of_mem _ hm)
        have d0 := W.cd _ _ HI.out
        have hi1 : (k : Int) < (K.length : Int) := by omega
        have hi0 : (0 : Int) ≤ (k : Int) := by omega
        have hle := HLE.out (k + 1)
        rw [upto_step hlt] at hle
        simp only [List.length_append, List.length_cons, List.length_nil] at hle
        have HID := Lib.hid (W.drew _ _ HI.out)
        have HST := W.step (acc ++ upto t K k) wr.drew K[k] hm (by rw [List.length_append]; omega) HID.out
        have HUP := Lib.hid (upto_step (t := t) hlt)
        unfold R.nod at HST
        unfold ptr at e1
        clear hcell
        go_wp2_with fail
        go_still_tail 5, (by kernel_rfl)
        change wpList _ _ _ _ _ wr.drew
        clear d0 d1 d2 d3 d4 e1
        generalize wr.drew = W2 at *
        go_wp2_with fail
        refine HST.mono ?_
        rintro e w1 ⟨⟨v1, rfl⟩, hI1⟩
        have e2 := W.cv _ _ hI1
        have HRE := ih K[k] (List.mem_cons_of_mem _ hm) hdk _ w1 hI1 (by rw [all_sub ht hm]; simp only [List.length_append, List.length_cons, List.length_nil]; omega)
        unfold visV ptr at e2
        unfold ptr at HRE
        go_wp2_with fail
        refine HRE.mono ?_
        rintro e w2 ⟨⟨v2, rfl⟩, hI2⟩
        go_wp2_with fail
        refine ⟨⟨k + 1, by omega, by go_num, ?_⟩, by simp [intOf]; omega⟩
        show Inv _ _
        rw [HUP.out, ← all_sub ht hm]
        simpa [List.append_assoc] using hI2
      · have HE := Lib.hid (HFIN.out k (by omega))
        go_wp2
        go_end0
        exact ⟨⟨_, rfl⟩, by rw [← HE.out]; exact HI.out⟩
set_option maxHeartbeats 1600000 in
theorem visitR_any {Inv : List R → World → Prop} {base : Nat} {A : ByteArray → Nat} {S : ByteArray → Value} {t : List R} {dc vc : Nat} {c : Value} (W : Walker Inv base A S t dc vc 112 c) (ht : IsTree t) (hl : t.length ≤ 1000) :
    ∀ n r, r ∈ rootR :: t → 5 ≤ deep r.p + n → ∀ acc w, Inv acc w → acc.length + (allT t r.p).length ≤ t.length →
      Calls Tryz.prog 183 #[ptr (A r.p), ptr dc, ptr vc] w fun e w' => (∃ v, e = .returned v) ∧ Inv (acc ++ allT t r.p) w' := by
  intro n
  induction n with
  | zero =>
    intro r hr hd
    have := deep_dom ht hr
    omega
  | succ n ih =>
    intro r hr hd acc w hI hlen
    obtain ⟨_, _, _, _, _, c5⟩ := (W.tr _ _ hI).cells hr
    obtain ⟨sA, cap, hS, hcap, _⟩ := (W.tr _ _ hI).kid hr
    have HKC : Hid (∀ acc' wr, Inv acc' wr → 0 < (kids t r.p).length → ∃ g, sA = some ⟨g, 0, none⟩ ∧ ∀ i (hi : i < (kids t r.p).length), wr.cell? ⟨g, i, none⟩ = some (ptr (A (kids t r.p)[i].p))) := by
      intro acc' wr hI' h0
      obtain ⟨sA', cap', hS', _, hk'⟩ := (W.tr _ _ hI').kid hr
      rw [hS] at hS'
      cases hS'
      obtain ⟨g, e, _, h3⟩ := hk' h0
      exact ⟨g, e, h3⟩
    rw [hS] at c5
    have hkl : (kids t r.p).length ≤ 1000 := Nat.le_trans (List.length_filter_le _ _) hl
    have HKD : Hid (∀ i (hi : i < (kids t r.p).length), (kids t r.p)[i] ∈ t ∧ 5 ≤ deep (kids t r.p)[i].p + n) := by
      intro i hi
      obtain ⟨h1, h2⟩ := mem_kids.1 (List.getElem_mem hi)
      have h3 := (deep_kid (ht.path _ h1)).1
      rw [h2] at h3
      exact ⟨h1, by omega⟩
    have HLE : Hid (∀ k, acc.length + (upto t (kids t r.p) k).length ≤ t.length) := by
      intro k
      have h1 := upto_len (t := t) (K := kids t r.p) k
      rw [upto_end ht r.p (Nat.le_refl _)] at h1
      omega
    have HFIN : Hid (∀ k, (kids t r.p).length ≤ k → upto t (kids t r.p) k = allT t r.p) := fun k hk => upto_end ht r.p hk
    have H0 : Hid (Inv (acc ++ upto t (kids t r.p) 0) w) := by rw [upto_zero, List.append_nil]; exact hI
    generalize hgo : allT t r.p = out at *
    generalize A r.p = a at *
    generalize kids t r.p = K at *
    clear hS hgo hI hlen hd hr
    unfold ptr
    go_enter Tryz.func183, Tryz.ntmps183
    go_wp2
    go_loopw [11] (fun i wr => ∃ k : Nat, k ≤ K.length ∧ i = .int .i64 k ∧ Hid (Inv (acc ++ upto t K k) wr)) (fun i _ => K.length - (intOf i).toNat)
    case atStart => exact ⟨0, by omega, rfl, H0⟩
    case round =>
      obtain ⟨k, hk, rfl, HI⟩ := hrel
      by_cases hlt : k < K.length
      · obtain ⟨g, rfl, hcell⟩ := HKC.out _ _ HI.out (by omega)
        have e1 := hcell k hlt
        obtain ⟨hm, hdk⟩ := HKD.out k hlt
        obtain ⟨_, d1, d2, d3, d4, _⟩ := (W.tr _ _ HI.out).cells (List.mem_cons_of_mem _ hm)
        have d0 := W.cd _ _ HI.out
        have hi1 : (k : Int) < (K.length : Int) := by omega
        have hi0 : (0 : Int) ≤ (k : Int) := by omega
        have hle := HLE.out (k + 1)
        rw [upto_step hlt] at hle
        simp only [List.length_append, List.length_cons, List.length_nil] at hle
        have HID := Lib.hid (W.drew _ _ HI.out)
        have HST := W.step (acc ++ upto t K k) wr.drew K[k] hm (by rw [List.length_append]; omega) HID.out
        have HUP := Lib.hid (upto_step (t := t) hlt)
        unfold R.nod at HST
        unfold ptr at e1
        clear hcell
        go_wp2_with fail
        go_still_tail 5, (by kernel_rfl)
        change wpList _ _ _ _ _ wr.drew
        clear d0 d1 d2 d3 d4 e1
        generalize wr.drew = W2 at *
        go_wp2_with fail
        refine HST.mono ?_
        rintro e w1 ⟨⟨v1, rfl⟩, hI1⟩
        have e2 := W.cv _ _ hI1
        have HRE := ih K[k] (List.mem_cons_of_mem _ hm) hdk _ w1 hI1 (by rw [all_sub ht hm]; simp only [List.length_append, List.length_cons, List.length_nil]; omega)
        unfold visV ptr at e2
        unfold ptr at HRE
        go_wp2_with fail
        refine HRE.mono ?_
        rintro e w2 ⟨⟨v2, rfl⟩, hI2⟩
        go_wp2_with fail
        refine ⟨⟨k + 1, by omega, by go_num, ?_⟩, by simp [intOf]; omega⟩
        show Inv _ _
        rw [HUP.out, ← all_sub ht hm]
        simpa [List.append_assoc] using hI2
      · have HE := Lib.hid (HFIN.out k (by omega))
        go_wp2
        go_end0
        exact ⟨⟨_, rfl⟩, by rw [← HE.out]; exact HI.out⟩
end Go.Proofs.YtcbmnihepeefaaaGreatDoor.Recs
