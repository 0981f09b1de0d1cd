/- Parts of several texts of mine in one file (each begins with its own remark). -/
import Derived.Test.YtibekkfbpmloiabGreatDoorCA1
import Derived.Test.YtibekkfbpmloiabGreatDoorCA10
import Derived.Test.YtibekkfbpmloiabGreatDoorCA14
import Derived.Test.YtibekkfbpmloiabGreatDoorCA15
import Derived.Test.YtibekkfbpmloiabGreatDoorCA16
import Derived.Test.YtibekkfbpmloiabGreatDoorCA2
import Derived.Test.YtibekkfbpmloiabGreatDoorCA22
import Derived.Test.YtibekkfbpmloiabGreatDoorCA3
import Derived.Test.YtibekkfbpmloiabGreatDoorCA4
import Derived.Test.YtibekkfbpmloiabGreatDoorCA5
import Derived.Test.YtibekkfbpmloiabGreatDoorCA6
import Derived.Test.YtibekkfbpmloiabGreatDoorCA7
import Derived.Test.YtibekkfbpmloiabGreatDoorCB1
import Derived.Test.YtibekkfbpmloiabGreatDoorCE1
import Derived.Test.YtibekkfbpmloiabGreatDoorChecked
import Derived.Test.YtibekkfbpmloiabGreatDoorShelf
import Derived.Test.YtibekkfbpmloiabGreatDoorProg
import Derived.Test.YtibekkfbpmloiabGreatDoorRows
import Derived.Deep.Slices
import Derived.OpenShut
import Derived.ShutString
import Derived.ChangeArms
import Derived.WideShapes
import Derived.Lib.LaidTab
import Derived.BigQuiet
import Derived.Deep.QuietTactic
import Derived.Deep.RegionHeld3
import Derived.StillTailTactics
import Derived.Deep.Draws
import Derived.Deep.LoopGhost
import Derived.WalkKit
import Derived.WalkSpells
import Derived.WalkSmall
import Derived.Lib.OthersKept
import Derived.Lib.Hide
import Derived.Lib.Strings
import Derived.Lib.Join
import Derived.Stop.LaidErr
import Derived.Laws.OwnMore
import Derived.BigRegion
import Derived.Laws.BytesArg
import Derived.WalkLawsBesides
import Derived.LaidEql
import Derived.Stop.Asserts
import Derived.Below
import Derived.Stop.LaidTwo
import Derived.IntWalk
import Derived.RegionTactic
import Derived.ChangeVars
import Derived.Deep.DeepHandedRow
/- Cuts of the model. -/
namespace Go.Proofs.YtibekkfbpmloiabGreatDoor.Recs
set_option maxRecDepth 100000
open Go.RowKit Paths

theorem l06Stops_any (r : R) (w : World) :
    Calls Tryz.prog 161 #[r.val] w fun e w' => e = .returned (.bool (stops r)) ∧ Below w.heap.size w w' := by
  obtain ⟨rk, rm, rp, rb, ro⟩ := r
  unfold R.val
  dsimp only
  have hb : Below w.heap.size w (w.alloc (.cells #[.int .i64 rk, .string rp, .string rb, .int .i64 rm, .bool ro] 53)) := (Below.refl _ _).alloc (Nat.le_refl _) _
  by_cases h3 : rk = 3
  · have q3 : (rk != 3) = false := by simp [h3]
    have HE : Hid (stops ⟨rk, rm, rp, rb, ro⟩ = ro) := (by show _ = _; unfold stops; simp [h3])
    clear h3
    go_enter Tryz.func161, Tryz.ntmps161
    go_wp2_with fail
    go_ret
    exact ⟨ret_bool HE.out.symm, hb⟩
  · have q3 : (rk != 3) = true := by simp [h3]
    have HE : Hid (stops ⟨rk, rm, rp, rb, ro⟩ = true) := (by show _ = _; unfold stops; simp [h3])
    clear h3
    go_enter Tryz.func161, Tryz.ntmps161
    go_wp2_with fail
    go_ret
    exact ⟨ret_bool HE.out.symm, hb⟩

def pmC : Value → Nat
  | .string s => if s.size = 0 then 0 else (cutAt 47 s.data.toList).length
  | _ => 0
theorem parO_sizeC {p : ByteArray} (h : parentL p.data.toList = []) : (parO p).size = 0 := by rw [Lib.size_eq]; show (parentL p.data.toList).toArray.toList.length = 0; rw [h]; rfl
theorem path_posC {p : ByteArray} (h : pathB p.data.toList = true) : p.size ≠ 0 := fun e => by rw [pathB_empty e] at h; cases h
theorem pm_downC {p : ByteArray} (h : pathB p.data.toList = true) : pmC (.string (parO p)) < pmC (.string p) := by
  have h0 := path_posC h
  have h1 : 0 < (cutAt 47 p.data.toList).length := cutAt_pos 47 _
  show (if (parO p).size = 0 then 0 else (cutAt 47 (parO p).data.toList).length) < (if p.size = 0 then 0 else (cutAt 47 p.data.toList).length)
  rw [if_neg h0]
  by_cases hp : parentL p.data.toList = []
  · rw [if_pos (parO_sizeC hp)]; exact h1
  · obtain ⟨h2, h3⟩ := parts_parent h hp
    rw [if_neg (path_posC h2)]
    omega
theorem cuts_step (l : List R) {q : ByteArray} (h : pathB q.data.toList = true) : cutsL l q = if parentL q.data.toList = [] then false else stopsAt l (parO q) || cutsL l (parO q) := by
  unfold cutsL
  rw [ups_step h]
  split <;> rfl
/-- What is still to look at: none, or the path and what is above it. -/
def LeftC (l : List R) (u : Bool) (p : ByteArray) : Prop := (p.size = 0 ∧ u = false) ∨ (pathB p.data.toList = true ∧ u = (stopsAt l p || cutsL l p))
theorem leftC_start {l : List R} {q : ByteArray} (h : pathB q.data.toList = true) : LeftC l (cutsL l q) (parO q) := by
  by_cases hp : parentL q.data.toList = []
  · exact .inl ⟨parO_sizeC hp, by rw [cuts_step l h, if_pos hp]⟩
  · exact .inr ⟨(parts_parent h hp).1, by rw [cuts_step l h, if_neg hp]⟩
theorem leftC_next {l : List R} {u : Bool} {p : ByteArray} (h : pathB p.data.toList = true) (hu : u = (stopsAt l p || cutsL l p)) (ho : stopsAt l p = false) : LeftC l u (parO p) := by
  rw [ho, Bool.false_or] at hu
  rw [hu]
  exact leftC_start h

set_option maxHeartbeats 1600000 in
theorem l06Cuts_any (v : Value) (l : List R) (q : ByteArray) (w : World) (h : RecSl w v l) (hl : l.length ≤ 1048576) (hq : pathB q.data.toList = true) :
    Calls Tryz.prog 163 #[v, .string q] w fun e w' => e = .returned (.bool (cutsL l q)) ∧ Below w.heap.size w w' := by
  have hsl := h
  obtain ⟨A, cap, rfl, hcap, h⟩ := h
  have HS := Lib.hid hsl
  have H := Lib.hid h
  have HL0 := Lib.hid (leftC_start (l := l) hq)
  have hqs := path_short hq
  clear h hsl
  go_enter Tryz.func163, Tryz.ntmps163
  go_wp2_with fail
  refine (l01Parent_any q _ (by unfold maxLen; omega)).mono ?_
  rintro e w1 ⟨rfl, rfl⟩
  go_wp2_with fail
  go_loopw [5] (fun p wr => ∃ P : ByteArray, p = .string P ∧ Below w.heap.size w wr ∧ Hid (LeftC l (cutsL l q) P)) (fun p _ => pmC p)
  case atStart => exact ⟨parO q, rfl, Below.refl _ _, HL0⟩
  case round =>
    obtain ⟨P, rfl, kw, HP⟩ := hrel
    rcases HP.out with ⟨h0, hu⟩ | ⟨hp, hu⟩
    · have HU := Lib.hid hu
      have he := isEmpty_true h0
      clear h0 hu
      go_wp2_with fail
      go_ret
      exact ⟨ret_bool HU.out.symm, kw⟩
    · have HU := Lib.hid hu
      have he := isEmpty_false (Nat.pos_of_ne_zero (path_posC hp))
      have hps := path_short hp
      have HM := Lib.hid (pm_downC hp)
      have HPP := Lib.hid hp
      clear hu hp
      go_wp2_with fail
      refine (l03At_any _ l _ _ (HS.out.below kw) hl).mono ?_
      rintro e w1 ⟨rfl, rfl⟩
      rcases atL_recAt l P with ⟨ha, hn⟩ | ⟨j, hj, ha, hn⟩
      · have HN := Lib.hid (leftC_next HPP.out HU.out (by unfold stopsAt; rw [hn]; rfl))
        rw [ha]
        clear ha hn
        go_wp2_with fail
        refine (l01Parent_any P _ (by unfold maxLen; omega)).mono ?_
        rintro e w1 ⟨rfl, rfl⟩
        go_wp2_with fail
        go_roundw
        case rel => exact ⟨parO P, rfl, kw, HN⟩
        case measure => exact HM.out
      · have HO : Hid (stopsAt l P = stops l[j]) := (by show _ = _; unfold stopsAt; rw [hn]; rfl)
        obtain ⟨b, off, rfl, hb, hcell⟩ := H.out (by omega)
        obtain ⟨f0, f1, f2, f3, f4⟩ := (hcell j l[j] (by simp [hj])).below kw hb
        have j1 : (0 : Int) ≤ (j : Int) := by omega
        have j2 : (j : Int) < (l.length : Int) := by omega
        have j3 : decide ((0 : Int) ≤ (j : Int)) = true := by simp
        have HST := l06Stops_any l[j] wr
        unfold R.val at HST
        rw [ha]
        clear ha hcell hn
        go_wp2_with fail
        refine HST.mono ?_
        rintro e w2 ⟨rfl, hb2⟩
        have k2 := kw.trans (hb2.mono kw.size)
        cases ho : stops l[j] with
        | true =>
          have HF : Hid (cutsL l q = true) := (by show _ = _; rw [HU.out, HO.out, ho]; rfl)
          clear ho
          go_wp2_with fail
          go_ret
          exact ⟨ret_bool HF.out.symm, k2⟩
        | false =>
          have HN := Lib.hid (leftC_next HPP.out HU.out (HO.out.trans ho))
          clear ho
          go_wp2_with fail
          refine (l01Parent_any P _ (by unfold maxLen; omega)).mono ?_
          rintro e w3 ⟨rfl, rfl⟩
          go_wp2_with fail
          go_roundw
          case rel => exact ⟨parO P, rfl, k2, HN⟩
          case measure => exact HM.out

end Go.Proofs.YtibekkfbpmloiabGreatDoor.Recs

/- The choice that some bytes make (laws.at), as a plain function of the bytes. -/
namespace Go.Proofs.YtibekkfbpmloiabGreatDoor.Draw
open Go.RowKit

theorem atN_range {f : Nat → Nat} {n : Nat} {i k : Int} (hk : 2 ≤ k) : 0 ≤ atN f n i k ∧ atN f n i k < k := by
  unfold atN
  split
  · exact ⟨Int.emod_nonneg _ (by omega), Int.emod_lt_of_pos _ (by omega)⟩
  · exact ⟨Int.emod_nonneg _ (by omega), Int.emod_lt_of_pos _ (by omega)⟩
end Go.Proofs.YtibekkfbpmloiabGreatDoor.Draw

/- For laws that look at layers: the laws' own comparison of lists of records; their choice among one. -/
namespace Go.Proofs.YtibekkfbpmloiabGreatDoor.Recs
set_option maxRecDepth 100000
open Go.RowKit Paths

theorem atK_range {f : Nat → Nat} {n : Nat} {i k : Int} (hk : 1 ≤ k) : 0 ≤ atK f n i k ∧ atK f n i k < k := by
  unfold atK
  split
  · omega
  · exact Draw.atN_range (by omega)
theorem RowOf.atom {w : World} {base : Nat} {v : Value} {n : Nat} {M : List R} (h : RowOf w base v n M) (hv : v ≠ .slice none 0 0) : ∃ g cap, v = .slice (some ⟨g, 0, none⟩) n cap := by
  rcases h.2.2 with ⟨e, _⟩ | ⟨g, cap, cur, e, _⟩
  · exact absurd e hv
  · exact ⟨g, cap, e⟩
end Go.Proofs.YtibekkfbpmloiabGreatDoor.Recs

/- Layers: UnderOpaque, of the program and of its model. Conditions (of the program's): the table of kinds, the two sentinels. -/
namespace Go.Proofs.YtibekkfbpmloiabGreatDoor.Recs
set_option maxRecDepth 100000
open Go.RowKit Paths Errs

/-- What is still to look at: none, or the path and what is above it. -/
def Left (l : List R) (u : Bool) (p : ByteArray) : Prop := (p.size = 0 ∧ u = false) ∨ (pathB p.data.toList = true ∧ u = (opaqueAt l p || underL l p))
theorem left_start {l : List R} {q : ByteArray} (h : pathB q.data.toList = true) : Left l (underL l q) (parO q) := by
  by_cases hp : parentL q.data.toList = []
  · exact .inl ⟨parO_size hp, by rw [underL_step l h, if_pos hp]⟩
  · exact .inr ⟨(parts_parent h hp).1, by rw [underL_step l h, if_neg hp]⟩
theorem left_next {l : List R} {u : Bool} {p : ByteArray} (h : pathB p.data.toList = true) (hu : u = (opaqueAt l p || underL l p)) (ho : opaqueAt l p = false) : Left l u (parO p) := by
  rw [ho, Bool.false_or] at hu
  rw [hu]
  exact left_start h
theorem opaque_none {l : List R} {p : ByteArray} (h : atL l p = -1) : opaqueAt l p = false := by unfold opaqueAt; rw [h]; rfl
theorem opaque_at {l : List R} {p : ByteArray} {j : Nat} (hj : j < l.length) (h : atL l p = (j : Int)) : opaqueAt l p = l[j].o := by
  unfold opaqueAt; rw [h]; simp [hj]

set_option maxHeartbeats 800000 in
theorem l03Under_any (v : Value) (l : List R) (q : ByteArray) (w : World) (h : RecSl w v l) (hl : l.length ≤ 1048576) (hq : pathB q.data.toList = true) :
    Calls Tryz.prog 201 #[v, .string q] w fun e w' => e = .returned (.bool (underL l q)) ∧ w = w' := by
  have hsl := h
  obtain ⟨A, cap, rfl, hcap, h⟩ := h
  have HS := Lib.hid hsl
  have H := Lib.hid h
  have HL0 := Lib.hid (left_start (l := l) hq)
  have hqs := path_short hq
  clear h hsl
  go_enter Tryz.func201, Tryz.ntmps201
  go_wp2_with fail
  refine (l01Parent_any q _ (by unfold maxLen; omega)).mono ?_
  rintro e w1 ⟨rfl, rfl⟩
  go_wp2_with fail
  go_loop [5] (fun p => ∃ P : ByteArray, p = .string P ∧ Hid (Left l (underL l q) P)) (fun p => pm p)
  case atStart => exact ⟨parO q, rfl, HL0⟩
  case round =>
    obtain ⟨P, rfl, HP⟩ := hrel
    rcases HP.out with ⟨h0, hu⟩ | ⟨hp, hu⟩
    · have HU := Lib.hid hu
      have he := isEmpty_true h0
      clear h0 hu
      go_wp2_with fail
      go_ret
      exact ⟨ret_bool HU.out.symm, rfl⟩
    · have HU := Lib.hid hu
      have he := isEmpty_false (Nat.pos_of_ne_zero (path_pos hp))
      have hps := path_short hp
      have HM := Lib.hid (pm_down hp)
      clear hu
      go_wp2_with fail
      refine (l03At_any _ l _ _ HS.out hl).mono ?_
      rintro e w1 ⟨rfl, rfl⟩
      rcases atL_cases l P with ⟨ha, -⟩ | ⟨j, hj, ha, -⟩
      · have HN := Lib.hid (left_next hp HU.out (opaque_none ha))
        rw [ha]
        go_wp2_with fail
        refine (l01Parent_any P _ (by unfold maxLen; omega)).mono ?_
        rintro e w1 ⟨rfl, rfl⟩
        go_wp2_with fail
        exact ⟨⟨parO P, rfl, HN⟩, HM.out⟩
      · have HO := Lib.hid (opaque_at hj ha)
        obtain ⟨b, off, rfl, hb, hcell⟩ := H.out (by omega)
        obtain ⟨_, _, _, _, f4⟩ := hcell j l[j] (by simp [hj])
        have j1 : (0 : Int) ≤ (j : Int) := by omega
        have j2 : (j : Int) < (l.length : Int) := by omega
        have j3 : decide ((0 : Int) ≤ (j : Int)) = true := by simp
        rw [ha]
        clear ha hcell
        rcases Bool.eq_false_or_eq_true l[j].o with ho | ho
        · have HF : Hid (underL l q = true) := by show _ = _; rw [HU.out, HO.out, ho]; rfl
          rw [ho] at f4
          go_wp2_with fail
          go_ret
          exact ⟨ret_bool HF.out.symm, rfl⟩
        · have HN := Lib.hid (left_next hp HU.out (HO.out.trans ho))
          rw [ho] at f4
          go_wp2_with fail
          refine (l01Parent_any P _ (by unfold maxLen; omega)).mono ?_
          rintro e w1 ⟨rfl, rfl⟩
          go_wp2_with fail
          exact ⟨⟨parO P, rfl, HN⟩, HM.out⟩

end Go.Proofs.YtibekkfbpmloiabGreatDoor.Recs

/- Combining two layers, plain: what the upper one cuts off as the program looks at it; the combination step by step. -/
namespace Go.Proofs.YtibekkfbpmloiabGreatDoor.Recs
set_option maxRecDepth 100000
open Go.RowKit Paths

/-- A record that stops lies above the path. -/
def cutsI (l : List R) (q : ByteArray) : Bool := l.any fun r => stops r && isBelowB q r.p
theorem cuts_same {l : List R} (hs : Sorted l) (hf : ∀ r ∈ l, r.fault = 0) {q : ByteArray} (hq : pathB q.data.toList = true) : cutsI l q = cutsL l q := by
  unfold cutsI cutsL
  rw [Bool.eq_iff_iff, List.any_eq_true, List.any_eq_true]
  constructor
  · rintro ⟨r, hm, hr⟩
    have hp := (fault_path (hf r hm)).1
    simp only [Bool.and_eq_true] at hr
    rw [below_two (path_pos hp) hq hp, ← isUp_below hq, isUp_iff] at hr
    refine ⟨r.p, hr.2, ?_⟩
    unfold stopsAt
    rw [recAt_of hs hm]
    exact hr.1
  · rintro ⟨a, ha, ho⟩
    unfold stopsAt at ho
    cases hr : recAt l a with
    | none => rw [hr] at ho; cases ho
    | some r =>
      rw [hr] at ho
      obtain ⟨hm, rfl⟩ := recAt_mem hr
      have hp := (fault_path (hf r hm)).1
      refine ⟨r, hm, ?_⟩
      simp only [Bool.and_eq_true]
      refine ⟨ho, ?_⟩
      rw [below_two (path_pos hp) hq hp, ← isUp_below hq, isUp_iff]
      exact ha

theorem two_end (u : List R) : twoL u [] [] = [] := by rw [twoL]
theorem two_up (u : List R) (y : R) (b : List R) : twoL u [] (y :: b) = y :: twoL u [] b := by rw [twoL, twoL]
theorem two_cut0 {u : List R} {x : R} {a : List R} (hc : cutsL u x.p = true) : twoL u (x :: a) [] = twoL u a [] := by rw [twoL, if_pos hc]
theorem two_take0 {u : List R} {x : R} {a : List R} (hc : cutsL u x.p = false) : twoL u (x :: a) [] = x :: twoL u a [] := by rw [twoL, if_neg (by rw [hc]; decide)]
theorem two_cut1 {u : List R} {x y : R} {a b : List R} (hl : lessR x y = true) (hc : cutsL u x.p = true) : twoL u (x :: a) (y :: b) = twoL u a (y :: b) := by rw [twoL, if_pos hl, if_pos hc]
theorem two_take1 {u : List R} {x y : R} {a b : List R} (hl : lessR x y = true) (hc : cutsL u x.p = false) : twoL u (x :: a) (y :: b) = x :: twoL u a (y :: b) := by rw [twoL, if_pos hl, if_neg (by rw [hc]; decide)]
theorem two_high {u : List R} {x y : R} {a b : List R} (hl : lessR x y = false) (hn : x.p ≠ y.p) : twoL u (x :: a) (y :: b) = y :: twoL u (x :: a) b := by
  rw [twoL, if_neg (by rw [hl]; decide), if_pos]
  rcases less_or hn with h | h
  · rw [hl] at h; cases h
  · exact h
theorem less_self {x y : R} (h : x.p = y.p) : lessR x y = false := by unfold lessR; rw [h, lessP_irrefl]
theorem two_eq {u : List R} {x y : R} {a b : List R} (h : x.p = y.p) : twoL u (x :: a) (y :: b) = overR x y :: twoL u a b := by
  rw [twoL, if_neg (by rw [less_self h]; decide), if_neg (by rw [less_self h.symm]; decide)]

end Go.Proofs.YtibekkfbpmloiabGreatDoor.Recs

/- What an upper layer cuts off: Cuts, of the program and of its model. Conditions (of the program's): the table of kinds, the two sentinels. -/
namespace Go.Proofs.YtibekkfbpmloiabGreatDoor.Recs
set_option maxRecDepth 100000
open Go.RowKit Paths Errs

theorem stops_any (r : R) (w : World) :
    Calls Tryz.prog 151 #[r.val] w fun e w' => e = .returned (.bool (stops r)) ∧ Below w.heap.size w w' := by
  obtain ⟨rk, rm, rp, rb, ro⟩ := r
  unfold R.val
  dsimp only
  have hb : Below w.heap.size w (w.alloc (.cells #[.int .i64 rk, .string rp, .string rb, .int .i64 rm, .bool ro] 53)) := (Below.refl _ _).alloc (Nat.le_refl _) _
  by_cases h3 : rk = 3
  · have q3 : (rk != 3) = false := by simp [h3]
    have HE : Hid (stops ⟨rk, rm, rp, rb, ro⟩ = ro) := (by show _ = _; unfold stops; simp [h3])
    clear h3
    go_enter Tryz.func151, Tryz.ntmps151
    go_wp2_with fail
    go_ret
    exact ⟨ret_bool HE.out.symm, hb⟩
  · have q3 : (rk != 3) = true := by simp [h3]
    have HE : Hid (stops ⟨rk, rm, rp, rb, ro⟩ = true) := (by show _ = _; unfold stops; simp [h3])
    clear h3
    go_enter Tryz.func151, Tryz.ntmps151
    go_wp2_with fail
    go_ret
    exact ⟨ret_bool HE.out.symm, hb⟩

theorem cut_test (r : R) (c : Nat) (q : ByteArray) (w : World) (h : w.cell? ⟨c, 0, none⟩ = some (.string q)) (hq : q.size ≤ maxLen) (hr : r.p.size ≤ maxLen) :
    Calls Tryz.prog 203 #[r.val, .pointer (some ⟨c, 0, none⟩)] w fun e w' => e = .returned (.bool (stops r && isBelowB q r.p)) ∧ Below w.heap.size w w' := by
  have hcl := World.block_lt_of_cell? w _ h
  have hb0 : Below w.heap.size w (w.alloc (.cells #[.int .i64 r.k, .string r.p, .string r.b, .int .i64 r.m, .bool r.o] 53)) := (Below.refl _ _).alloc (Nat.le_refl _) _
  have HST := stops_any r (w.alloc (.cells #[.int .i64 r.k, .string r.p, .string r.b, .int .i64 r.m, .bool r.o] 53))
  have hq0 : (w.alloc (.cells #[.int .i64 r.k, .string r.p, .string r.b, .int .i64 r.m, .bool r.o] 53)).cell? ⟨c, 0, none⟩ = some (.string q) := cell?_alloc_old _ h
  have hp0 : (w.alloc (.cells #[.int .i64 r.k, .string r.p, .string r.b, .int .i64 r.m, .bool r.o] 53)).cell? ⟨w.heap.size, 1, none⟩ = some (.string r.p) := by go_simp
  have HQ0 := Lib.hid hq0
  have HP0 := Lib.hid hp0
  clear hq0 hp0 h
  unfold R.val at HST ⊢
  rcases Bool.eq_false_or_eq_true (stops r) with ho | ho
  · rw [ho] at HST ⊢
    go_enter Tryz.func203, Tryz.ntmps203
    go_wp2_with fail
    refine HST.mono ?_
    rintro e w1 ⟨rfl, hb1⟩
    have hq1 : w1.cell? ⟨c, 0, none⟩ = some (.string q) := (hb1.cell (p := ⟨c, 0, none⟩) (by simp; omega)).trans HQ0.out
    have hp1 : w1.cell? ⟨w.heap.size, 1, none⟩ = some (.string r.p) := (hb1.cell (p := ⟨w.heap.size, 1, none⟩) (by simp)).trans HP0.out
    have c1 := hb0.trans (hb1.mono hb0.size)
    go_wp2_with fail
    refine (isBelow_impl _ _ _ hq hr).mono ?_
    rintro e w2 ⟨rfl, hb2⟩
    go_wp2_with fail
    go_ret
    exact ⟨rfl, c1.trans (hb2.mono c1.size)⟩
  · rw [ho] at HST ⊢
    go_enter Tryz.func203, Tryz.ntmps203
    go_wp2_with fail
    refine HST.mono ?_
    rintro e w1 ⟨rfl, hb1⟩
    go_wp2_with fail
    go_ret
    exact ⟨rfl, hb0.trans (hb1.mono hb0.size)⟩

set_option maxHeartbeats 800000 in
theorem indexFunc_cut (v : Value) (l : List R) (c : Addr) (P : R → Bool) (w : World) (h : RecSl w v l) (hl : l.length ≤ 1048576)
    (HF : ∀ r ∈ l, ∀ w', Below w.heap.size w w' → Calls Tryz.prog 203 #[r.val, .pointer (some c)] w' fun e w'' => e = .returned (.bool (P r)) ∧ Below w'.heap.size w' w'') :
    Calls Tryz.prog 218 #[v, .func (.func 203) #[] #[.pointer (some c)]] w fun e w' => e = .returned (.int .i64 (idxFrom P l 0)) ∧ Below w.heap.size w w' := by
  obtain ⟨A, cap, rfl, hcap, h⟩ := h
  have H := Lib.hid h
  have HFh := Lib.hid HF
  clear h HF
  go_enter Tryz.func218, Tryz.ntmps218
  go_wp2
  go_loopw [8] (fun i wr => ∃ k : Nat, k ≤ l.length ∧ i = .int .i64 k ∧ Hid (idxFrom P l 0 = idxFrom P (l.drop k) k) ∧ Below w.heap.size w wr) (fun i _ => l.length - (intOf i).toNat)
  case atStart => exact ⟨0, by omega, rfl, rfl, Below.refl _ _⟩
  case round =>
    obtain ⟨k, hk, rfl, HK, hbw⟩ := hrel
    by_cases hlt : k < l.length
    · obtain ⟨b, off, rfl, hb, hcell⟩ := H.out (by omega)
      obtain ⟨c0, c1, c2, c3, c4⟩ := (hcell k l[k] (by simp [hlt])).below hbw hb
      have HS := Lib.hid (HK.out.trans (idx_step hlt))
      clear hcell HK
      have hi1 : (k : Int) < (l.length : Int) := by omega
      have hi0 : (0 : Int) ≤ (k : Int) := by omega
      have HC := HFh.out l[k] (List.getElem_mem hlt) _ hbw
      unfold R.val at HC
      rcases Bool.eq_false_or_eq_true (P l[k]) with he | he
      · have HE : Hid (idxFrom P l 0 = k) := by show _ = _; rw [HS.out, if_pos he]
        go_wp2_with (go_at_call 203; refine HC.mono ?_; rintro e w1 ⟨rfl, hb1⟩)
        go_ret
        exact ⟨ret_int HE.out.symm, hbw.trans (hb1.mono hbw.size)⟩
      · have HE : Hid (idxFrom P l 0 = idxFrom P (l.drop (k + 1)) (k + 1)) := by show _ = _; rw [HS.out, if_neg (by rw [he]; decide)]
        go_wp2_with (go_at_call 203; refine HC.mono ?_; rintro e w1 ⟨rfl, hb1⟩)
        exact ⟨⟨k + 1, by omega, by go_num, HE, hbw.trans (hb1.mono hbw.size)⟩, by simp [intOf]; omega⟩
    · have HE := Lib.hid (HK.out.trans (idx_end (by omega)))
      go_wp2
      go_ret
      exact ⟨ret_int HE.out.symm, hbw⟩

theorem containsFunc_cut (v f : Value) (n : Int) (w : World)
    (HC : Calls Tryz.prog 218 #[v, f] w fun e w' => e = .returned (.int .i64 n) ∧ Below w.heap.size w w') :
    Calls Tryz.prog 202 #[v, f] w fun e w' => e = .returned (.bool (decide (0 ≤ n))) ∧ Below w.heap.size w w' := by
  go_enter Tryz.func202, Tryz.ntmps202
  go_wp2_with fail
  refine HC.mono ?_
  rintro e w1 ⟨rfl, hb1⟩
  go_wp2_with fail
  go_ret
  exact ⟨rfl, hb1⟩

theorem cutsOff_any (v : Value) (l : List R) (q : ByteArray) (w : World) (h : RecSl w v l) (hl : l.length ≤ 1048576) (hq : q.size ≤ maxLen) (hr : ∀ r ∈ l, r.p.size ≤ maxLen) :
    Calls Tryz.prog 150 #[v, .string q] w fun e w' => e = .returned (.bool (cutsI l q)) ∧ Below w.heap.size w w' := by
  have hb0 : Below w.heap.size w (w.alloc (.cells #[.string q] 9)) := (Below.refl _ _).alloc (Nat.le_refl _) _
  have hc0 : (w.alloc (.cells #[.string q] 9)).cell? ⟨w.heap.size, 0, none⟩ = some (.string q) := by go_simp
  have h0 := h.below hb0
  have HC := indexFunc_cut v l ⟨w.heap.size, 0, none⟩ (fun r => stops r && isBelowB q r.p) (w.alloc (.cells #[.string q] 9)) h0 hl
    (fun r hm w' hb => cut_test r w.heap.size q w' ((hb.cell (p := ⟨w.heap.size, 0, none⟩) (by simp)).trans hc0) hq (hr r hm))
  have HD := containsFunc_cut _ _ _ _ HC
  rw [idx_any] at HD
  obtain ⟨A, cap, rfl, _⟩ := h
  go_enter Tryz.func150, Tryz.ntmps150
  go_wp2_with fail
  refine HD.mono ?_
  rintro e w1 ⟨rfl, hb1⟩
  go_wp2_with fail
  go_ret
  exact ⟨rfl, hb0.trans (hb1.mono hb0.size)⟩
end Go.Proofs.YtibekkfbpmloiabGreatDoor.Recs
