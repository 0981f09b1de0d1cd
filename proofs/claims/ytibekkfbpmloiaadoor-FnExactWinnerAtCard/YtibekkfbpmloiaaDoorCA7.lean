/- Parts of several texts of mine in one file (each begins with its own remark). -/
import Derived.Test.YtibekkfbpmloiaaDoorCA1
import Derived.Test.YtibekkfbpmloiaaDoorCA2
import Derived.Test.YtibekkfbpmloiaaDoorCA3
import Derived.Test.YtibekkfbpmloiaaDoorCA4
import Derived.Test.YtibekkfbpmloiaaDoorCA5
import Derived.Test.YtibekkfbpmloiaaDoorCA6
import Derived.Test.YtibekkfbpmloiaaDoorChecked
import Derived.Test.YtibekkfbpmloiaaDoorShelf
import Derived.Test.YtibekkfbpmloiaaDoorProg
import Derived.Test.YtibekkfbpmloiaaDoorRows
import Derived.Stop.LaidErr
import Derived.StillTailTactics
import Derived.Laws.OwnMore
import Derived.BigQuiet
import Derived.BigRegion
import Derived.Deep.QuietTactic
import Derived.Deep.RegionHeld3
import Derived.Deep.Slices
import Derived.OpenShut
import Derived.ShutString
import Derived.ChangeArms
import Derived.WideShapes
import Derived.Lib.LaidTab
import Derived.Deep.Draws
import Derived.Deep.LoopGhost
import Derived.WalkKit
import Derived.WalkSpells
import Derived.WalkSmall
import Derived.Lib.OthersKept
import Derived.Lib.Hide
import Derived.Lib.Strings
import Derived.Lib.Join
import Derived.Laws.BytesArg
import Derived.WalkLawsBesides
import Derived.LaidEql
import Derived.Stop.Asserts
import Derived.Below
import Derived.Stop.LaidTwo
import Derived.ChangeVars
import Derived.Deep.DeepHandedRow
import Derived.Deep.RegionWith
import Derived.OneCell
import Derived.Lib.SliceRun
import Derived.Lib.Overlaps
import Derived.Lib.AppendZerosOnto
import Derived.Laws.NewBlocks
import Derived.Laws.IdiomCopy
import Derived.Deep.RegionLaw
/- The code of the errors of a call's arguments. Conditions: the table of kinds, the two sentinels. -/
namespace Go.Proofs.YtibekkfbpmloiaaDoor.Recs
set_option maxRecDepth 100000
open Go.RowKit Paths Errs

/-- An error that a check hands back: none, the sentinel of long arguments, or the one that names a record. -/
inductive EK where
  | fine
  | long
  | bad (i c : Int)
def EK.val (x : Addr) : EK → Value
  | .fine => .nilIface
  | .long => errV x
  | .bad i c => recV i c
def textK (s : ByteArray) : EK := if 65536 < s.size then .long else .fine
theorem checkText_any (s : ByteArray) (x : Addr) (w : World) (hx : w.cell? ⟨0, 0, none⟩ = some (errV x)) :
    Calls Tryd.prog 28 #[.string s] w fun e w' => e = .returned ((textK s).val x) ∧ w = w' := by
  unfold errV at hx
  by_cases h : 65536 < s.size
  · have hd : decide ((65536 : Int) < (s.size : Int)) = true := by simp; omega
    have HE : Hid ((textK s).val x = .iface 128 (.pointer (some x))) := by show _ = _; unfold textK; rw [if_pos h]; rfl
    go_enter Tryd.func28, Tryd.ntmps28
    go_wp2_with fail
    refine (longText_any s _).mono ?_
    rintro e w1 ⟨rfl, rfl⟩
    go_wp2_with fail
    go_ret
    exact ⟨ret_eq HE.out.symm, rfl⟩
  · have hd : decide ((65536 : Int) < (s.size : Int)) = false := by simp; omega
    have HE : Hid ((textK s).val x = .nilIface) := by show _ = _; unfold textK; rw [if_neg h]; rfl
    go_enter Tryd.func28, Tryd.ntmps28
    go_wp2_with fail
    refine (longText_any s _).mono ?_
    rintro e w1 ⟨rfl, rfl⟩
    go_wp2_with fail
    go_ret
    exact ⟨ret_eq HE.out.symm, rfl⟩

end Go.Proofs.YtibekkfbpmloiaaDoor.Recs

/- What is above a path, by its parts: the paths of which the parts are the first parts of it. -/
namespace Go.Proofs.YtibekkfbpmloiaaDoor.Recs
open Go.RowKit Paths

theorem up_below {p : ByteArray} (h : pathB p.data.toList = true) (q : ByteArray) : q ∈ ups p ↔ belowP (cutAt 47 p.data.toList) (cutAt 47 q.data.toList) = true := by
  have hq : 0 < (cutAt 47 q.data.toList).length := by
    rcases Nat.eq_zero_or_pos (cutAt 47 q.data.toList).length with h0 | h0
    · exact absurd (List.eq_nil_of_length_eq_zero h0) (cutAt_ne 47 _)
    · exact h0
  refine path_ind (P := fun p => q ∈ ups p ↔ belowP (cutAt 47 p.data.toList) (cutAt 47 q.data.toList) = true) ?_ ?_ p h
  · intro p hp hn
    rw [ups_step hp, if_pos hn]
    rcases parent_cases hp with ⟨_, h2, _⟩ | ⟨_, _, h3, _⟩
    · rw [h2]
      unfold belowP
      constructor
      · intro hm; cases hm
      · intro hm
        simp only [Bool.and_eq_true, decide_eq_true_eq, List.length_singleton] at hm
        omega
    · exact absurd hn h3
  · intro p hp hn h1 ih
    rw [ups_step hp, if_neg hn]
    rcases parent_cases hp with ⟨h2, _⟩ | ⟨_, h2, _, _, _⟩
    · exact absurd h2 hn
    · have e := cut_parent p.data.toList
      rw [← h2] at e
      have ih' := ih
      rw [parO_data] at ih'
      generalize hA : cutAt 47 (parentL p.data.toList) = A at e ih'
      generalize hB : cutAt 47 q.data.toList = B at ih' hq ⊢
      rw [e]
      rw [List.mem_cons, ih']
      unfold belowP
      simp only [Bool.and_eq_true, decide_eq_true_eq, beq_iff_eq, List.length_append, List.length_singleton]
      constructor
      · rintro (rfl | ⟨h3, h4⟩)
        · rw [parO_data, hA] at hB
          subst hB
          exact ⟨by omega, by simp⟩
        · refine ⟨by omega, ?_⟩
          rw [List.take_append_of_le_length (by omega)]
          exact h4
      · rintro ⟨h3, h4⟩
        rcases Nat.lt_or_ge B.length A.length with h5 | h5
        · rw [List.take_append_of_le_length (by omega)] at h4
          exact .inr ⟨h5, h4⟩
        · left
          have h6 : B.length = A.length := by omega
          rw [h6, List.take_left'  rfl] at h4
          apply bytes_cut
          rw [parO_data, hA, hB, h4]
/-- The same by the strings' own function. -/
theorem isUp_below {p q : ByteArray} (h : pathB p.data.toList = true) : isUp q p = belowL p.data.toList q.data.toList := by
  rw [Bool.eq_iff_iff, isUp_iff, up_below h, below_cut]
end Go.Proofs.YtibekkfbpmloiaaDoor.Recs

/- Layers: UnderOpaque, of the program and of its model. Conditions (of the program's): the table of kinds, the two sentinels. -/
namespace Go.Proofs.YtibekkfbpmloiaaDoor.Recs
set_option maxRecDepth 100000
open Go.RowKit Paths Errs

theorem path_pos {p : ByteArray} (h : pathB p.data.toList = true) : p.size ≠ 0 := fun e => by rw [pathB_empty e] at h; cases h
end Go.Proofs.YtibekkfbpmloiaaDoor.Recs

/- Combining two layers, plain: what the upper one cuts off as the program looks at it; the combination step by step. -/
namespace Go.Proofs.YtibekkfbpmloiaaDoor.Recs
set_option maxRecDepth 100000
open Go.RowKit Paths

/-- A record that stops lies above the path. -/
def cutsI (l : List R) (q : ByteArray) : Bool := l.any fun r => stops r && isBelowB q r.p
theorem cuts_same {l : List R} (hs : Sorted l) (hf : ∀ r ∈ l, r.fault = 0) {q : ByteArray} (hq : pathB q.data.toList = true) : cutsI l q = cutsL l q := by
  unfold cutsI cutsL
  rw [Bool.eq_iff_iff, List.any_eq_true, List.any_eq_true]
  constructor
  · rintro ⟨r, hm, hr⟩
    have hp := (fault_path (hf r hm)).1
    simp only [Bool.and_eq_true] at hr
    rw [below_two (path_pos hp) hq hp, ← isUp_below hq, isUp_iff] at hr
    refine ⟨r.p, hr.2, ?_⟩
    unfold stopsAt
    rw [recAt_of hs hm]
    exact hr.1
  · rintro ⟨a, ha, ho⟩
    unfold stopsAt at ho
    cases hr : recAt l a with
    | none => rw [hr] at ho; cases ho
    | some r =>
      rw [hr] at ho
      obtain ⟨hm, rfl⟩ := recAt_mem hr
      have hp := (fault_path (hf r hm)).1
      refine ⟨r, hm, ?_⟩
      simp only [Bool.and_eq_true]
      refine ⟨ho, ?_⟩
      rw [below_two (path_pos hp) hq hp, ← isUp_below hq, isUp_iff]
      exact ha

end Go.Proofs.YtibekkfbpmloiaaDoor.Recs

/- Cuts of the model. -/
namespace Go.Proofs.YtibekkfbpmloiaaDoor.Recs
set_option maxRecDepth 100000
open Go.RowKit Paths

theorem l06Stops_any (r : R) (w : World) :
    Calls Tryd.prog 24 #[r.val] w fun e w' => e = .returned (.bool (stops r)) ∧ Below w.heap.size w w' := by
  obtain ⟨rk, rm, rp, rb, ro⟩ := r
  unfold R.val
  dsimp only
  have hb : Below w.heap.size w (w.alloc (.cells #[.int .i64 rk, .string rp, .string rb, .int .i64 rm, .bool ro] 25)) := (Below.refl _ _).alloc (Nat.le_refl _) _
  by_cases h3 : rk = 3
  · have q3 : (rk != 3) = false := by simp [h3]
    have HE : Hid (stops ⟨rk, rm, rp, rb, ro⟩ = ro) := (by show _ = _; unfold stops; simp [h3])
    clear h3
    go_enter Tryd.func24, Tryd.ntmps24
    go_wp2_with fail
    go_ret
    exact ⟨ret_bool HE.out.symm, hb⟩
  · have q3 : (rk != 3) = true := by simp [h3]
    have HE : Hid (stops ⟨rk, rm, rp, rb, ro⟩ = true) := (by show _ = _; unfold stops; simp [h3])
    clear h3
    go_enter Tryd.func24, Tryd.ntmps24
    go_wp2_with fail
    go_ret
    exact ⟨ret_bool HE.out.symm, hb⟩

def pmC : Value → Nat
  | .string s => if s.size = 0 then 0 else (cutAt 47 s.data.toList).length
  | _ => 0
theorem parO_sizeC {p : ByteArray} (h : parentL p.data.toList = []) : (parO p).size = 0 := by rw [Lib.size_eq]; show (parentL p.data.toList).toArray.toList.length = 0; rw [h]; rfl
theorem path_posC {p : ByteArray} (h : pathB p.data.toList = true) : p.size ≠ 0 := fun e => by rw [pathB_empty e] at h; cases h
theorem pm_downC {p : ByteArray} (h : pathB p.data.toList = true) : pmC (.string (parO p)) < pmC (.string p) := by
  have h0 := path_posC h
  have h1 : 0 < (cutAt 47 p.data.toList).length := cutAt_pos 47 _
  show (if (parO p).size = 0 then 0 else (cutAt 47 (parO p).data.toList).length) < (if p.size = 0 then 0 else (cutAt 47 p.data.toList).length)
  rw [if_neg h0]
  by_cases hp : parentL p.data.toList = []
  · rw [if_pos (parO_sizeC hp)]; exact h1
  · obtain ⟨h2, h3⟩ := parts_parent h hp
    rw [if_neg (path_posC h2)]
    omega
theorem cuts_step (l : List R) {q : ByteArray} (h : pathB q.data.toList = true) : cutsL l q = if parentL q.data.toList = [] then false else stopsAt l (parO q) || cutsL l (parO q) := by
  unfold cutsL
  rw [ups_step h]
  split <;> rfl
/-- What is still to look at: none, or the path and what is above it. -/
def LeftC (l : List R) (u : Bool) (p : ByteArray) : Prop := (p.size = 0 ∧ u = false) ∨ (pathB p.data.toList = true ∧ u = (stopsAt l p || cutsL l p))
theorem leftC_start {l : List R} {q : ByteArray} (h : pathB q.data.toList = true) : LeftC l (cutsL l q) (parO q) := by
  by_cases hp : parentL q.data.toList = []
  · exact .inl ⟨parO_sizeC hp, by rw [cuts_step l h, if_pos hp]⟩
  · exact .inr ⟨(parts_parent h hp).1, by rw [cuts_step l h, if_neg hp]⟩
theorem leftC_next {l : List R} {u : Bool} {p : ByteArray} (h : pathB p.data.toList = true) (hu : u = (stopsAt l p || cutsL l p)) (ho : stopsAt l p = false) : LeftC l u (parO p) := by
  rw [ho, Bool.false_or] at hu
  rw [hu]
  exact leftC_start h

set_option maxHeartbeats 1600000 in
theorem l06Cuts_any (v : Value) (l : List R) (q : ByteArray) (w : World) (h : RecSl w v l) (hl : l.length ≤ 1048576) (hq : pathB q.data.toList = true) :
    Calls Tryd.prog 35 #[v, .string q] w fun e w' => e = .returned (.bool (cutsL l q)) ∧ Below w.heap.size w w' := by
  have hsl := h
  obtain ⟨A, cap, rfl, hcap, h⟩ := h
  have HS := Lib.hid hsl
  have H := Lib.hid h
  have HL0 := Lib.hid (leftC_start (l := l) hq)
  have hqs := path_short hq
  clear h hsl
  go_enter Tryd.func35, Tryd.ntmps35
  go_wp2_with fail
  refine (l01Parent_any q _ (by unfold maxLen; omega)).mono ?_
  rintro e w1 ⟨rfl, rfl⟩
  go_wp2_with fail
  go_loopw [5] (fun p wr => ∃ P : ByteArray, p = .string P ∧ Below w.heap.size w wr ∧ Hid (LeftC l (cutsL l q) P)) (fun p _ => pmC p)
  case atStart => exact ⟨parO q, rfl, Below.refl _ _, HL0⟩
  case round =>
    obtain ⟨P, rfl, kw, HP⟩ := hrel
    rcases HP.out with ⟨h0, hu⟩ | ⟨hp, hu⟩
    · have HU := Lib.hid hu
      have he := isEmpty_true h0
      clear h0 hu
      go_wp2_with fail
      go_ret
      exact ⟨ret_bool HU.out.symm, kw⟩
    · have HU := Lib.hid hu
      have he := isEmpty_false (Nat.pos_of_ne_zero (path_posC hp))
      have hps := path_short hp
      have HM := Lib.hid (pm_downC hp)
      have HPP := Lib.hid hp
      clear hu hp
      go_wp2_with fail
      refine (l03At_any _ l _ _ (HS.out.below kw) hl).mono ?_
      rintro e w1 ⟨rfl, rfl⟩
      rcases atL_recAt l P with ⟨ha, hn⟩ | ⟨j, hj, ha, hn⟩
      · have HN := Lib.hid (leftC_next HPP.out HU.out (by unfold stopsAt; rw [hn]; rfl))
        rw [ha]
        clear ha hn
        go_wp2_with fail
        refine (l01Parent_any P _ (by unfold maxLen; omega)).mono ?_
        rintro e w1 ⟨rfl, rfl⟩
        go_wp2_with fail
        go_roundw
        case rel => exact ⟨parO P, rfl, kw, HN⟩
        case measure => exact HM.out
      · have HO : Hid (stopsAt l P = stops l[j]) := (by show _ = _; unfold stopsAt; rw [hn]; rfl)
        obtain ⟨b, off, rfl, hb, hcell⟩ := H.out (by omega)
        obtain ⟨f0, f1, f2, f3, f4⟩ := (hcell j l[j] (by simp [hj])).below kw hb
        have j1 : (0 : Int) ≤ (j : Int) := by omega
        have j2 : (j : Int) < (l.length : Int) := by omega
        have j3 : decide ((0 : Int) ≤ (j : Int)) = true := by simp
        have HST := l06Stops_any l[j] wr
        unfold R.val at HST
        rw [ha]
        clear ha hcell hn
        go_wp2_with fail
        refine HST.mono ?_
        rintro e w2 ⟨rfl, hb2⟩
        have k2 := kw.trans (hb2.mono kw.size)
        cases ho : stops l[j] with
        | true =>
          have HF : Hid (cutsL l q = true) := (by show _ = _; rw [HU.out, HO.out, ho]; rfl)
          clear ho
          go_wp2_with fail
          go_ret
          exact ⟨ret_bool HF.out.symm, k2⟩
        | false =>
          have HN := Lib.hid (leftC_next HPP.out HU.out (HO.out.trans ho))
          clear ho
          go_wp2_with fail
          refine (l01Parent_any P _ (by unfold maxLen; omega)).mono ?_
          rintro e w3 ⟨rfl, rfl⟩
          go_wp2_with fail
          go_roundw
          case rel => exact ⟨parO P, rfl, k2, HN⟩
          case measure => exact HM.out

end Go.Proofs.YtibekkfbpmloiaaDoor.Recs

/- What an upper layer cuts off: Cuts, of the program and of its model. Conditions (of the program's): the table of kinds, the two sentinels. -/
namespace Go.Proofs.YtibekkfbpmloiaaDoor.Recs
set_option maxRecDepth 100000
open Go.RowKit Paths Errs

theorem stops_any (r : R) (w : World) :
    Calls Tryd.prog 40 #[r.val] w fun e w' => e = .returned (.bool (stops r)) ∧ Below w.heap.size w w' := by
  obtain ⟨rk, rm, rp, rb, ro⟩ := r
  unfold R.val
  dsimp only
  have hb : Below w.heap.size w (w.alloc (.cells #[.int .i64 rk, .string rp, .string rb, .int .i64 rm, .bool ro] 25)) := (Below.refl _ _).alloc (Nat.le_refl _) _
  by_cases h3 : rk = 3
  · have q3 : (rk != 3) = false := by simp [h3]
    have HE : Hid (stops ⟨rk, rm, rp, rb, ro⟩ = ro) := (by show _ = _; unfold stops; simp [h3])
    clear h3
    go_enter Tryd.func40, Tryd.ntmps40
    go_wp2_with fail
    go_ret
    exact ⟨ret_bool HE.out.symm, hb⟩
  · have q3 : (rk != 3) = true := by simp [h3]
    have HE : Hid (stops ⟨rk, rm, rp, rb, ro⟩ = true) := (by show _ = _; unfold stops; simp [h3])
    clear h3
    go_enter Tryd.func40, Tryd.ntmps40
    go_wp2_with fail
    go_ret
    exact ⟨ret_bool HE.out.symm, hb⟩

theorem cut_test (r : R) (c : Nat) (q : ByteArray) (w : World) (h : w.cell? ⟨c, 0, none⟩ = some (.string q)) (hq : q.size ≤ maxLen) (hr : r.p.size ≤ maxLen) :
    Calls Tryd.prog 56 #[r.val, .pointer (some ⟨c, 0, none⟩)] w fun e w' => e = .returned (.bool (stops r && isBelowB q r.p)) ∧ Below w.heap.size w w' := by
  have hcl := World.block_lt_of_cell? w _ h
  have hb0 : Below w.heap.size w (w.alloc (.cells #[.int .i64 r.k, .string r.p, .string r.b, .int .i64 r.m, .bool r.o] 25)) := (Below.refl _ _).alloc (Nat.le_refl _) _
  have HST := stops_any r (w.alloc (.cells #[.int .i64 r.k, .string r.p, .string r.b, .int .i64 r.m, .bool r.o] 25))
  have hq0 : (w.alloc (.cells #[.int .i64 r.k, .string r.p, .string r.b, .int .i64 r.m, .bool r.o] 25)).cell? ⟨c, 0, none⟩ = some (.string q) := cell?_alloc_old _ h
  have hp0 : (w.alloc (.cells #[.int .i64 r.k, .string r.p, .string r.b, .int .i64 r.m, .bool r.o] 25)).cell? ⟨w.heap.size, 1, none⟩ = some (.string r.p) := by go_simp
  have HQ0 := Lib.hid hq0
  have HP0 := Lib.hid hp0
  clear hq0 hp0 h
  unfold R.val at HST ⊢
  rcases Bool.eq_false_or_eq_true (stops r) with ho | ho
  · rw [ho] at HST ⊢
    go_enter Tryd.func56, Tryd.ntmps56
    go_wp2_with fail
    refine HST.mono ?_
    rintro e w1 ⟨rfl, hb1⟩
    have hq1 : w1.cell? ⟨c, 0, none⟩ = some (.string q) := (hb1.cell (p := ⟨c, 0, none⟩) (by simp; omega)).trans HQ0.out
    have hp1 : w1.cell? ⟨w.heap.size, 1, none⟩ = some (.string r.p) := (hb1.cell (p := ⟨w.heap.size, 1, none⟩) (by simp)).trans HP0.out
    have c1 := hb0.trans (hb1.mono hb0.size)
    go_wp2_with fail
    refine (isBelow_impl _ _ _ hq hr).mono ?_
    rintro e w2 ⟨rfl, hb2⟩
    go_wp2_with fail
    go_ret
    exact ⟨rfl, c1.trans (hb2.mono c1.size)⟩
  · rw [ho] at HST ⊢
    go_enter Tryd.func56, Tryd.ntmps56
    go_wp2_with fail
    refine HST.mono ?_
    rintro e w1 ⟨rfl, hb1⟩
    go_wp2_with fail
    go_ret
    exact ⟨rfl, hb0.trans (hb1.mono hb0.size)⟩

set_option maxHeartbeats 800000 in
theorem indexFunc_cut (v : Value) (l : List R) (c : Addr) (P : R → Bool) (w : World) (h : RecSl w v l) (hl : l.length ≤ 1048576)
    (HF : ∀ r ∈ l, ∀ w', Below w.heap.size w w' → Calls Tryd.prog 56 #[r.val, .pointer (some c)] w' fun e w'' => e = .returned (.bool (P r)) ∧ Below w'.heap.size w' w'') :
    Calls Tryd.prog 59 #[v, .func (.func 56) #[] #[.pointer (some c)]] w fun e w' => e = .returned (.int .i64 (idxFrom P l 0)) ∧ Below w.heap.size w w' := by
  obtain ⟨A, cap, rfl, hcap, h⟩ := h
  have H := Lib.hid h
  have HFh := Lib.hid HF
  clear h HF
  go_enter Tryd.func59, Tryd.ntmps59
  go_wp2
  go_loopw [8] (fun i wr => ∃ k : Nat, k ≤ l.length ∧ i = .int .i64 k ∧ Hid (idxFrom P l 0 = idxFrom P (l.drop k) k) ∧ Below w.heap.size w wr) (fun i _ => l.length - (intOf i).toNat)
  case atStart => exact ⟨0, by omega, rfl, rfl, Below.refl _ _⟩
  case round =>
    obtain ⟨k, hk, rfl, HK, hbw⟩ := hrel
    by_cases hlt : k < l.length
    · obtain ⟨b, off, rfl, hb, hcell⟩ := H.out (by omega)
      obtain ⟨c0, c1, c2, c3, c4⟩ := (hcell k l[k] (by simp [hlt])).below hbw hb
      have HS := Lib.hid (HK.out.trans (idx_step hlt))
      clear hcell HK
      have hi1 : (k : Int) < (l.length : Int) := by omega
      have hi0 : (0 : Int) ≤ (k : Int) := by omega
      have HC := HFh.out l[k] (List.getElem_mem hlt) _ hbw
      unfold R.val at HC
      rcases Bool.eq_false_or_eq_true (P l[k]) with he | he
      · have HE : Hid (idxFrom P l 0 = k) := by show _ = _; rw [HS.out, if_pos he]
        go_wp2_with (go_at_call 56; refine HC.mono ?_; rintro e w1 ⟨rfl, hb1⟩)
        go_ret
        exact ⟨ret_int HE.out.symm, hbw.trans (hb1.mono hbw.size)⟩
      · have HE : Hid (idxFrom P l 0 = idxFrom P (l.drop (k + 1)) (k + 1)) := by show _ = _; rw [HS.out, if_neg (by rw [he]; decide)]
        go_wp2_with (go_at_call 56; refine HC.mono ?_; rintro e w1 ⟨rfl, hb1⟩)
        exact ⟨⟨k + 1, by omega, by go_num, HE, hbw.trans (hb1.mono hbw.size)⟩, by simp [intOf]; omega⟩
    · have HE := Lib.hid (HK.out.trans (idx_end (by omega)))
      go_wp2
      go_ret
      exact ⟨ret_int HE.out.symm, hbw⟩

theorem containsFunc_cut (v f : Value) (n : Int) (w : World)
    (HC : Calls Tryd.prog 59 #[v, f] w fun e w' => e = .returned (.int .i64 n) ∧ Below w.heap.size w w') :
    Calls Tryd.prog 55 #[v, f] w fun e w' => e = .returned (.bool (decide (0 ≤ n))) ∧ Below w.heap.size w w' := by
  go_enter Tryd.func55, Tryd.ntmps55
  go_wp2_with fail
  refine HC.mono ?_
  rintro e w1 ⟨rfl, hb1⟩
  go_wp2_with fail
  go_ret
  exact ⟨rfl, hb1⟩

theorem cutsOff_any (v : Value) (l : List R) (q : ByteArray) (w : World) (h : RecSl w v l) (hl : l.length ≤ 1048576) (hq : q.size ≤ maxLen) (hr : ∀ r ∈ l, r.p.size ≤ maxLen) :
    Calls Tryd.prog 44 #[v, .string q] w fun e w' => e = .returned (.bool (cutsI l q)) ∧ Below w.heap.size w w' := by
  have hb0 : Below w.heap.size w (w.alloc (.cells #[.string q] 9)) := (Below.refl _ _).alloc (Nat.le_refl _) _
  have hc0 : (w.alloc (.cells #[.string q] 9)).cell? ⟨w.heap.size, 0, none⟩ = some (.string q) := by go_simp
  have h0 := h.below hb0
  have HC := indexFunc_cut v l ⟨w.heap.size, 0, none⟩ (fun r => stops r && isBelowB q r.p) (w.alloc (.cells #[.string q] 9)) h0 hl
    (fun r hm w' hb => cut_test r w.heap.size q w' ((hb.cell (p := ⟨w.heap.size, 0, none⟩) (by simp)).trans hc0) hq (hr r hm))
  have HD := containsFunc_cut _ _ _ _ HC
  rw [idx_any] at HD
  obtain ⟨A, cap, rfl, _⟩ := h
  go_enter Tryd.func44, Tryd.ntmps44
  go_wp2_with fail
  refine HD.mono ?_
  rintro e w1 ⟨rfl, hb1⟩
  go_wp2_with fail
  go_ret
  exact ⟨rfl, hb0.trans (hb1.mono hb0.size)⟩
end Go.Proofs.YtibekkfbpmloiaaDoor.Recs

/- Trees as plain lists of nodes (records of which Opaque is false): the model's check, record by record, and what it says at once. -/
namespace Go.Proofs.YtibekkfbpmloiaaDoor.Recs
open Go.RowKit Paths

/-- What a tree is. -/
structure Tree (t : List R) : Prop where
  len : t.length ≤ 24
  kind : ∀ r ∈ t, r.k ≠ 4
  fault : ∀ r ∈ t, r.fault = 0
  sorted : Sorted t
  housed : Housed t
theorem Tree.is {t : List R} (h : Tree t) : IsTree t := ⟨h.sorted, h.housed, fun x hx => (fault_path (h.fault x hx)).1⟩
end Go.Proofs.YtibekkfbpmloiaaDoor.Recs

/- Resolving a path in a tree, part by part, and what comes out at once. -/
namespace Go.Proofs.YtibekkfbpmloiaaDoor.Recs
open Go.RowKit Paths

/-- The first i + 1 parts of a path. -/
def pre (q : ByteArray) (i : Nat) : ByteArray := ⟨(Lib.join ((cutAt 47 q.data.toList).take (i + 1)) [47]).toArray⟩
end Go.Proofs.YtibekkfbpmloiaaDoor.Recs

/- A tree in memory: what each branch holds; finding a child of a branch, resolving parts. -/
namespace Go.Proofs.YtibekkfbpmloiaaDoor.Recs
set_option maxRecDepth 100000
open Go.RowKit Paths

section
variable {w w' : World} {base : Nat} {A : ByteArray → Nat} {S : ByteArray → Value} {t : List R} {r : R}
end

/-- A slice that reads as parts. -/
def PartSl (w : World) (v : Value) (L : List (List UInt8)) : Prop :=
  ∃ A cap, v = .slice A L.length cap ∧ L.length ≤ cap ∧ (0 < L.length → ∃ g, A = some ⟨g, 0, none⟩ ∧ g < w.heap.size ∧ ∀ i (hi : i < L.length), w.cell? ⟨g, i, none⟩ = some (strV L[i]))
theorem PartSl.below {w w' : World} {v : Value} {L : List (List UInt8)} (h : PartSl w v L) (hb : Below w.heap.size w w') : PartSl w' v L := by
  obtain ⟨A, cap, rfl, hc, h⟩ := h
  refine ⟨A, cap, rfl, hc, fun hn => ?_⟩
  obtain ⟨g, rfl, hlt, hcell⟩ := h hn
  exact ⟨g, rfl, Nat.lt_of_lt_of_le hlt hb.size, fun i hi => (hb.cell (p := ⟨g, i, none⟩) hlt).trans (hcell i hi)⟩
theorem PartSl.take {w : World} {sA : Option Addr} {cap : Nat} {L : List (List UInt8)} (h : PartSl w (.slice sA L.length cap) L) {k : Nat} (hk : k ≤ L.length) : PartSl w (.slice sA k cap) (L.take k) := by
  obtain ⟨A', cap', e, hc, h⟩ := h
  cases e
  refine ⟨sA, cap, by rw [List.length_take, Nat.min_eq_left hk], by rw [List.length_take]; omega, fun hn => ?_⟩
  rw [List.length_take] at hn
  obtain ⟨g, e, hb, hcell⟩ := h (by omega)
  refine ⟨g, e, hb, fun i hi => ?_⟩
  rw [List.length_take] at hi
  rw [hcell i (by omega), List.getElem_take]

end Go.Proofs.YtibekkfbpmloiaaDoor.Recs

/- Nodes: opening one and a slice of them; the laws' own size, copy and comparison of a node. A node is a record of which Opaque is false. -/
namespace Go.Proofs.YtibekkfbpmloiaaDoor.Recs
set_option maxRecDepth 100000
open Go.RowKit Paths Go.WideShapes Go.ChangeShapes

section
variable {H : Type} {enc : TypeId × Value → H} {w : World} {base : Nat} {spare : Nat → Bool} {held : Bool}
end

/-- The four cells of a node, from a place on; it hides nothing. -/
def NodCells (w : World) (b off : Nat) (r : R) : Prop :=
  w.cell? ⟨b, off, none⟩ = some (.int .i64 r.k) ∧ w.cell? ⟨b, off + 1, none⟩ = some (.string r.p) ∧ w.cell? ⟨b, off + 2, none⟩ = some (.string r.b) ∧ w.cell? ⟨b, off + 3, none⟩ = some (.int .i64 r.m)
theorem NodCells.below {w w' : World} {B b off : Nat} {r : R} (h : NodCells w b off r) (hb : Below B w w') (hB : b < B) : NodCells w' b off r := by
  obtain ⟨h0, h1, h2, h3⟩ := h
  exact ⟨(hb.cell (p := ⟨b, off, none⟩) hB).trans h0, (hb.cell (p := ⟨b, off + 1, none⟩) hB).trans h1, (hb.cell (p := ⟨b, off + 2, none⟩) hB).trans h2, (hb.cell (p := ⟨b, off + 3, none⟩) hB).trans h3⟩
/-- A slice that reads as the nodes L, wherever it lies. -/
def NodSl (w : World) (v : Value) (L : List R) : Prop :=
  (∀ r ∈ L, r.o = false) ∧ ∃ A cap, v = .slice A L.length cap ∧ L.length ≤ cap ∧ (0 < L.length → ∃ b off, A = some ⟨b, off, none⟩ ∧ b < w.heap.size ∧ ∀ i r, L[i]? = some r → NodCells w b (off + i * 4) r)
theorem NodSl.below {w w' : World} {v : Value} {L : List R} (h : NodSl w v L) (hb : Below w.heap.size w w') : NodSl w' v L := by
  obtain ⟨ho, A, cap, rfl, hc, h⟩ := h
  refine ⟨ho, A, cap, rfl, hc, fun hn => ?_⟩
  obtain ⟨b, off, rfl, hlt, hcell⟩ := h hn
  exact ⟨b, off, rfl, Nat.lt_of_lt_of_le hlt hb.size, fun i r hi => (hcell i r hi).below hb hlt⟩

section
variable {H : Type} {enc : TypeId × Value → H} {w : World} {base : Nat} {spare : Nat → Bool} {held : Bool}

end
end Go.Proofs.YtibekkfbpmloiaaDoor.Recs

/- growTree, of the program: the errors, or the tree in memory. Conditions: the table of kinds, the two sentinels. -/
namespace Go.Proofs.YtibekkfbpmloiaaDoor.Recs
set_option maxRecDepth 100000
open Go.RowKit Paths Errs

/-- An error that a check hands back: none, the sentinel of long arguments, the one of invalid ones. -/
inductive EN where
  | fine
  | long
  | inv
def EN.val (x y : Addr) : EN → Value
  | .fine => .nilIface
  | .long => errV x
  | .inv => errV y
end Go.Proofs.YtibekkfbpmloiaaDoor.Recs

/- The code of the errors of a call's arguments, whichever check they come from. Conditions: the table of kinds, the two sentinels. -/
namespace Go.Proofs.YtibekkfbpmloiaaDoor.Recs
set_option maxRecDepth 100000
open Go.RowKit Paths Errs

/-- An error that a check hands back: none, one of the two sentinels, or the one that names a record. -/
inductive EU where
  | fine
  | long
  | inv
  | bad (i c : Int)
def EU.val (x y : Addr) : EU → Value
  | .fine => .nilIface
  | .long => errV x
  | .inv => errV y
  | .bad i c => recV i c
def EN.u : EN → EU
  | .fine => .fine
  | .long => .long
  | .inv => .inv
theorem EN.u_val (e : EN) (x y : Addr) : e.u.val x y = e.val x y := by cases e <;> rfl
def euFrom : List EU → Int → Int
  | [], c => c
  | .fine :: t, c => euFrom t c
  | .long :: _, _ => 2
  | .inv :: t, _ => euFrom t 1
  | .bad _ _ :: t, _ => euFrom t 1
theorem eu_end {L : List EU} {k : Nat} {c : Int} (h : L.length ≤ k) : euFrom (L.drop k) c = c := by rw [List.drop_eq_nil_of_le h]; rfl
theorem eu_fine {L : List EU} {k : Nat} {c : Int} (h : k < L.length) (he : L[k] = .fine) : euFrom (L.drop k) c = euFrom (L.drop (k + 1)) c := by rw [List.drop_eq_getElem_cons h, he]; rfl
theorem eu_long {L : List EU} {k : Nat} {c : Int} (h : k < L.length) (he : L[k] = .long) : euFrom (L.drop k) c = 2 := by rw [List.drop_eq_getElem_cons h, he]; rfl
theorem eu_inv {L : List EU} {k : Nat} {c : Int} (h : k < L.length) (he : L[k] = .inv) : euFrom (L.drop k) c = euFrom (L.drop (k + 1)) 1 := by rw [List.drop_eq_getElem_cons h, he]; rfl
theorem eu_bad {L : List EU} {k : Nat} {c i d : Int} (h : k < L.length) (he : L[k] = .bad i d) : euFrom (L.drop k) c = euFrom (L.drop (k + 1)) 1 := by rw [List.drop_eq_getElem_cons h, he]; rfl

set_option maxHeartbeats 1600000 in
theorem argumentU_any (g : Nat) (L : List EU) (x y : Addr) (w : World) (hT : Three w x y) (hg : g < w.heap.size) (hn : L.length ≤ 1000) (hc : ∀ k (h : k < L.length), w.cell? ⟨g, k, none⟩ = some (L[k].val x y)) :
    Calls Tryd.prog 26 #[.slice (some ⟨g, 0, none⟩) L.length L.length] w fun e w' => e = .returned (.int .i64 (euFrom L 0)) ∧ Below w.heap.size w w' := by
  have HC := Lib.hid hc
  have HT := Lib.hid hT
  clear hc hT
  go_enter Tryd.func26, Tryd.ntmps26
  go_wp2
  go_loopw [3, 8] (fun c i wr => ∃ (k : Nat) (d : Int), k ≤ L.length ∧ i = .int .i64 k ∧ c = .int .i64 d ∧ Hid (euFrom L 0 = euFrom (L.drop k) d) ∧ Below w.heap.size w wr) (fun _ i _ => L.length - (intOf i).toNat)
  case atStart => exact ⟨0, 0, by omega, rfl, rfl, rfl, Below.refl _ _⟩
  case round =>
    obtain ⟨k, d, hk, rfl, rfl, HK, hbw⟩ := hrel
    by_cases hlt : k < L.length
    · have hcell : wr.cell? ⟨g, k, none⟩ = some (L[k].val x y) := (hbw.cell (p := ⟨g, k, none⟩) hg).trans (HC.out k hlt)
      have hTr := HT.out.below hbw (Nat.le_refl _)
      have hx := hTr.long
      have hy := hTr.bad
      have hi1 : (k : Int) < (L.length : Int) := by omega
      have hi0 : (0 : Int) ≤ (k : Int) := by omega
      cases hE : L[k] with
      | fine =>
        have HF := Lib.hid (HK.out.trans (eu_fine hlt hE))
        rw [hE] at hcell
        unfold EU.val at hcell
        have H1 := is_nil x wr
        have H2 := is_nil y wr
        unfold errV at hx hy H1 H2
        go_wp2_with fail
        refine H1.mono ?_
        rintro e w1 ⟨rfl, rfl⟩
        go_wp2_with fail
        refine H2.mono ?_
        rintro e w2 ⟨rfl, rfl⟩
        go_wp2_with fail
        exact ⟨⟨k + 1, d, by omega, by go_num, rfl, HF, hbw⟩, by simp [intOf]; omega⟩
      | long =>
        have HF := Lib.hid (HK.out.trans (eu_long hlt hE))
        rw [hE] at hcell
        unfold EU.val at hcell
        have H1 := is_same x wr
        unfold errV at hx hy H1 hcell
        go_wp2_with fail
        refine H1.mono ?_
        rintro e w1 ⟨rfl, rfl⟩
        go_wp2_with fail
        go_ret
        exact ⟨ret_int HF.out.symm, hbw⟩
      | inv =>
        have HF := Lib.hid (HK.out.trans (eu_inv hlt hE))
        rw [hE] at hcell
        unfold EU.val at hcell
        obtain ⟨cx, tx, rx⟩ := hTr.rowx
        obtain ⟨cy, ty, ry⟩ := hTr.rowy
        have H1 := is_other y x _ _ _ _ wr (Ne.symm hTr.ne) ry rx
        have H2 := is_same y wr
        unfold errV at hx hy H1 H2 hcell
        go_wp2_with fail
        refine H1.mono ?_
        rintro e w1 ⟨rfl, rfl⟩
        go_wp2_with fail
        refine H2.mono ?_
        rintro e w2 ⟨rfl, rfl⟩
        go_wp2_with fail
        exact ⟨⟨k + 1, 1, by omega, by go_num, rfl, HF, hbw⟩, by simp [intOf]; omega⟩
      | bad i c =>
        have HF := Lib.hid (HK.out.trans (eu_bad hlt hE))
        rw [hE] at hcell
        unfold EU.val at hcell
        obtain ⟨cx, tx, rx⟩ := hTr.rowx
        obtain ⟨cy, ty, ry⟩ := hTr.rowy
        have H1 := is_rec_other i c y x _ _ _ _ wr hy (Ne.symm hTr.ne) ry rx
        have hxl := World.block_lt_of_cell? wr _ hx
        have hyl := World.block_lt_of_cell? wr _ hy
        have hye := hy
        unfold recV at hcell H1
        unfold errV at hx hy H1
        go_wp2_with fail
        refine H1.mono ?_
        rintro e w1 ⟨rfl, hb1⟩
        have hy1 : w1.cell? ⟨1, 0, none⟩ = some (errV y) := (hb1.cell (p := ⟨1, 0, none⟩) hyl).trans hye
        have H2 := is_rec_same i c y w1 hy1
        unfold recV at H2
        unfold errV at hy1 H2
        go_wp2_with fail
        refine H2.mono ?_
        rintro e w2 ⟨rfl, hb2⟩
        go_wp2_with fail
        exact ⟨⟨k + 1, 1, by omega, by go_num, rfl, HF, (hbw.trans (hb1.mono hbw.size)).trans (hb2.mono (hbw.trans (hb1.mono hbw.size)).size)⟩, by simp [intOf]; omega⟩
    · have HE := Lib.hid (HK.out.trans (eu_end (by omega)))
      go_wp2
      go_ret
      exact ⟨ret_int HE.out.symm, hbw⟩

/-- The arguments' errors, as the call of a variadic function lays them. -/
theorem argU2_any (a b : EU) (x y : Addr) (w : World) (hT : Three w x y) :
    Calls Tryd.prog 26 #[.slice (some ⟨w.heap.size, 0, none⟩) 2 2] (w.alloc (.cells #[a.val x y, b.val x y] 56)) fun e w' => e = .returned (.int .i64 (euFrom [a, b] 0)) ∧ Below w.heap.size w w' := by
  have hb0 : Below w.heap.size w (w.alloc (.cells #[a.val x y, b.val x y] 56)) := (Below.refl _ _).alloc (Nat.le_refl _) _
  have := argumentU_any w.heap.size [a, b] x y (w.alloc (.cells #[a.val x y, b.val x y] 56)) (hT.below hb0 (Nat.le_refl _)) (by simp) (by simp) (fun k hk => by
    have hk2 : k < 2 := hk
    match k, hk2 with
    | 0, _ => go_simp
    | 1, _ => go_simp)
  refine this.mono ?_
  rintro e w1 ⟨rfl, hb1⟩
  exact ⟨rfl, hb0.trans (hb1.mono hb0.size)⟩
end Go.Proofs.YtibekkfbpmloiaaDoor.Recs

/- Rows of nodes: parts of a row as the source of an append; a copy of a list of nodes that is never nil. -/
namespace Go.Proofs.YtibekkfbpmloiaaDoor.Recs
set_option maxRecDepth 100000
open Go.RowKit Paths

theorem own_down {w : World} {base base' : Nat} {e : TypeId} {size : Nat} {v : Value} {n : Nat} {xs : List Value} (h : w.ownsRow base e size v n xs) (hb : base' ≤ base) : w.ownsRow base' e size v n xs := by
  obtain ⟨h1, h2⟩ := h
  refine ⟨h1, ?_⟩
  rcases h2 with h2 | ⟨g, cap', cur, a, b, c⟩
  · exact .inl h2
  · exact .inr ⟨g, cap', cur, a, Nat.le_trans hb b, c⟩
end Go.Proofs.YtibekkfbpmloiaaDoor.Recs

/- Stacks: slices of slices of records: what the memory holds; one that came in; the laws' own size, copy and comparison of them. -/
namespace Go.Proofs.YtibekkfbpmloiaaDoor.Recs
set_option maxRecDepth 100000
open Go.RowKit Paths Go.WideShapes Go.ChangeShapes

/-- A slice of slices that reads as the lists LL. -/
def StkSl (w : World) (v : Value) (LL : List (List R)) : Prop :=
  ∃ A cap, v = .slice A LL.length cap ∧ LL.length ≤ cap ∧ (0 < LL.length → ∃ b off, A = some ⟨b, off, none⟩ ∧ b < w.heap.size ∧ ∀ i l, LL[i]? = some l → ∃ u, w.cell? ⟨b, off + i, none⟩ = some u ∧ RecSl w u l)
theorem StkSl.below {w w' : World} {v : Value} {LL : List (List R)} (h : StkSl w v LL) (hb : Below w.heap.size w w') : StkSl w' v LL := by
  obtain ⟨A, cap, rfl, hc, h⟩ := h
  refine ⟨A, cap, rfl, hc, fun hn => ?_⟩
  obtain ⟨b, off, rfl, hlt, hcell⟩ := h hn
  refine ⟨b, off, rfl, Nat.lt_of_lt_of_le hlt hb.size, fun i l hi => ?_⟩
  obtain ⟨u, h1, h2⟩ := hcell i l hi
  exact ⟨u, (hb.cell (p := ⟨b, off + i, none⟩) hlt).trans h1, h2.below hb⟩

section
variable {H : Type} {enc : TypeId × Value → H} {w : World} {base : Nat} {spare : Nat → Bool} {held : Bool}
theorem cSS : Tryd.prog.cellsOf 34 = 1 := by kernel_rfl
/-- The lists of a slice of slices of records that came in. -/
theorem open_stk {t : TypeId} {fuel : Nat} {cs : List Value} {x : DataW H × List MemPlace} (ht : Tryd.prog.underlying t = some (.slice 34))
    (h : DataW.trod enc Tryd.prog w base spare held fuel t cs = some x) :
    ∃ (v : Value) (LL : List (List R)), cs = [v] ∧ StkSl w v LL ∧ LL.length ≤ maxLen ∧ ∀ l ∈ LL, l.length ≤ maxLen ∧ ∀ r ∈ l, r.p.size ≤ maxLen ∧ r.b.size ≤ maxLen := by
  rcases DataW.trod_slice ht h with ⟨rfl, _⟩ | ⟨a, len, cap, elems, rest, n, _, rfl, _, _, hl, hm0, hel, hat, _, _⟩
  · exact ⟨_, [], rfl, ⟨none, 0, rfl, Nat.le_refl _, fun h => by cases h⟩, Nat.zero_le _, fun r hr => by cases hr⟩
  · rw [cSS] at hat
    have hone : ∀ i, i < len → ∃ (l : List R) (u : Value), w.cells? base (a.add (i * 1)) 1 = some [u] ∧ RecSl w u l ∧ l.length ≤ maxLen ∧ ∀ r ∈ l, r.p.size ≤ maxLen ∧ r.b.size ≤ maxLen := by
      intro i hi
      have h1 := hat i hi
      rw [List.getElem?_eq_getElem (by omega)] at h1
      obtain ⟨cs', hc, htr⟩ := Option.bind_eq_some_iff.1 h1
      obtain ⟨u, l, rfl, h1, h2, h3⟩ := open_recs Tryd.underlying34 htr
      exact ⟨l, u, hc, h1, h2, h3⟩
    have hall : ∀ m, m ≤ len → ∃ LL : List (List R), LL.length = m ∧ (∀ i l, LL[i]? = some l → ∃ u, w.cells? base (a.add (i * 1)) 1 = some [u] ∧ RecSl w u l) ∧ ∀ l ∈ LL, l.length ≤ maxLen ∧ ∀ r ∈ l, r.p.size ≤ maxLen ∧ r.b.size ≤ maxLen := by
      intro m
      induction m with
      | zero => exact fun _ => ⟨[], rfl, fun i r hi => by simp at hi, fun r hr => by cases hr⟩
      | succ m ih =>
        intro hm
        obtain ⟨LL, hL, h1, h2⟩ := ih (by omega)
        obtain ⟨l, u, hc, hu, hs1, hs2⟩ := hone m (by omega)
        refine ⟨LL ++ [l], by simp [hL], fun i q hi => ?_, fun q hq => ?_⟩
        · rcases Nat.lt_trichotomy i m with hj | hj | hj
          · rw [List.getElem?_append_left (by omega)] at hi
            exact h1 i q hi
          · subst hj
            rw [List.getElem?_append_right (by omega), hL] at hi
            simp at hi
            subst hi
            exact ⟨u, hc, hu⟩
          · rw [List.getElem?_append_right (by omega)] at hi
            rw [List.getElem?_eq_none (by simp; omega)] at hi
            cases hi
        · rcases List.mem_append.1 hq with hq | hq
          · exact h2 q hq
          · rw [List.mem_singleton.1 hq]; exact ⟨hs1, hs2⟩
    obtain ⟨LL, hL, hc, hs⟩ := hall len (Nat.le_refl _)
    subst hL
    refine ⟨_, LL, rfl, ⟨some a, cap, rfl, hl, fun hn => ?_⟩, Nat.le_trans hl hm0, hs⟩
    obtain ⟨b, off, spot⟩ := a
    obtain ⟨u0, hfirst, _⟩ := hc 0 LL[0] (by simp [hn])
    obtain ⟨_, _, hcell⟩ := World.cells?_some hfirst
    have h0 := hcell 0 (by omega)
    have hspot : spot = none := by simpa [Addr.add] using World.cell?_spot (h0.trans (by rfl))
    subst hspot
    refine ⟨b, off, rfl, World.block_lt_of_cell? w _ (h0.trans (by rfl)), fun i l hi => ?_⟩
    obtain ⟨u, hcu, hu⟩ := hc i l hi
    obtain ⟨_, _, hcell⟩ := World.cells?_some hcu
    have c0 := hcell 0 (by omega)
    simp [Addr.add_lit] at c0
    exact ⟨u, c0, hu⟩
end

set_option maxHeartbeats 800000 in
theorem eqRecordSS_same (v1 v2 : Value) (LL : List (List R)) (w : World) (h1 : StkSl w v1 LL) (h2 : StkSl w v2 LL) (hl : LL.length ≤ 1048576) (hll : ∀ l ∈ LL, l.length ≤ 1048576) :
    Calls Tryd.prog 9 #[v1, v2] w fun e w' => e = .returned (.bool true) ∧ Below w.heap.size w w' := by
  obtain ⟨A1, cap1, rfl, hcap1, h1⟩ := h1
  obtain ⟨A2, cap2, rfl, hcap2, h2⟩ := h2
  have H1 := Lib.hid h1
  have H2 := Lib.hid h2
  have HL := Lib.hid hll
  clear h1 h2 hll
  go_enter Tryd.func9, Tryd.ntmps9
  go_wp2
  go_loopw [5] (fun i wr => ∃ (j : Nat), j ≤ LL.length ∧ i = .int .i64 j ∧ Below w.heap.size w wr) (fun i _ => LL.length - (intOf i).toNat)
  case atStart => exact ⟨0, by omega, rfl, Below.refl _ _⟩
  case round =>
    obtain ⟨j, hj, rfl, hbw⟩ := hrel
    by_cases hlt : j < LL.length
    · obtain ⟨b1, off1, rfl, hb1, hcell1⟩ := H1.out (by omega)
      obtain ⟨b2, off2, rfl, hb2, hcell2⟩ := H2.out (by omega)
      obtain ⟨u1, c1, hu1⟩ := hcell1 j LL[j] (by simp [hlt])
      obtain ⟨u2, c2, hu2⟩ := hcell2 j LL[j] (by simp [hlt])
      have c1' := (hbw.cell (p := ⟨b1, off1 + j, none⟩) hb1).trans c1
      have c2' := (hbw.cell (p := ⟨b2, off2 + j, none⟩) hb2).trans c2
      have HE : ∀ w', Below w.heap.size w w' → Calls Tryd.prog 17 #[u1, u2] w' fun e w'' => e = .returned (.bool true) ∧ Below w'.heap.size w' w'' := fun w' hb => eqRecordS_same u1 u2 LL[j] w' (hu1.below hb) (hu2.below hb) (HL.out _ (List.getElem_mem hlt))
      obtain ⟨x1, d1, rfl, _⟩ := hu1
      obtain ⟨x2, d2, rfl, _⟩ := hu2
      clear hcell1 hcell2 c1 c2
      have HEE := Lib.hid HE
      clear HE
      have hi1 : (j : Int) < (LL.length : Int) := by omega
      have hi0 : (0 : Int) ≤ (j : Int) := by omega
      go_wp2_with fail
      go_still_tail 8, (by kernel_rfl)
      change wpList _ _ _ _ _ wr.drew
      have hbw' : Below w.heap.size w wr.drew := hbw.drew
      clear hbw
      generalize wr.drew = W2 at *
      go_wp2_with fail
      refine (HEE.out _ hbw').mono ?_
      rintro e w1 ⟨rfl, hb1⟩
      go_wp2_with fail
      go_roundw
      case rel => exact ⟨j + 1, by omega, by go_num, hbw'.trans (hb1.mono hbw'.size)⟩
      case measure => simp [intOf]; omega
    · obtain rfl : j = LL.length := by omega
      go_wp2
      go_ret
      exact ⟨rfl, hbw⟩
end Go.Proofs.YtibekkfbpmloiaaDoor.Recs
