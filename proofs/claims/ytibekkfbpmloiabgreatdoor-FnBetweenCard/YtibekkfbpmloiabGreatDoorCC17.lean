/- Parts of several texts of mine in one file (each begins with its own remark). -/
import Derived.Test.YtibekkfbpmloiabGreatDoorCA1
import Derived.Test.YtibekkfbpmloiabGreatDoorCA13
import Derived.Test.YtibekkfbpmloiabGreatDoorCA15
import Derived.Test.YtibekkfbpmloiabGreatDoorCA16
import Derived.Test.YtibekkfbpmloiabGreatDoorCA18
import Derived.Test.YtibekkfbpmloiabGreatDoorCA2
import Derived.Test.YtibekkfbpmloiabGreatDoorCA22
import Derived.Test.YtibekkfbpmloiabGreatDoorCA3
import Derived.Test.YtibekkfbpmloiabGreatDoorCA4
import Derived.Test.YtibekkfbpmloiabGreatDoorCA5
import Derived.Test.YtibekkfbpmloiabGreatDoorCA6
import Derived.Test.YtibekkfbpmloiabGreatDoorCA7
import Derived.Test.YtibekkfbpmloiabGreatDoorCC1
import Derived.Test.YtibekkfbpmloiabGreatDoorCC10
import Derived.Test.YtibekkfbpmloiabGreatDoorCC11
import Derived.Test.YtibekkfbpmloiabGreatDoorCC12
import Derived.Test.YtibekkfbpmloiabGreatDoorCC14
import Derived.Test.YtibekkfbpmloiabGreatDoorCC15
import Derived.Test.YtibekkfbpmloiabGreatDoorCC6
import Derived.Test.YtibekkfbpmloiabGreatDoorCC7
import Derived.Test.YtibekkfbpmloiabGreatDoorCC8
import Derived.Test.YtibekkfbpmloiabGreatDoorCC9
import Derived.Test.YtibekkfbpmloiabGreatDoorChecked
import Derived.Test.YtibekkfbpmloiabGreatDoorShelf
import Derived.Test.YtibekkfbpmloiabGreatDoorProg
import Derived.Test.YtibekkfbpmloiabGreatDoorRows
import Derived.Test.YtibekkfbpmloiabGreatDoorShelf2
import Derived.Deep.Slices
import Derived.OpenShut
import Derived.ShutString
import Derived.ChangeArms
import Derived.WideShapes
import Derived.Lib.LaidTab
import Derived.BigQuiet
import Derived.Deep.QuietTactic
import Derived.Deep.RegionHeld3
import Derived.StillTailTactics
import Derived.Deep.Draws
import Derived.Deep.LoopGhost
import Derived.WalkKit
import Derived.WalkSpells
import Derived.WalkSmall
import Derived.Lib.OthersKept
import Derived.Lib.Hide
import Derived.Lib.Strings
import Derived.Lib.Join
import Derived.WalkLawsBesides
import Derived.Laws.BytesArg
import Derived.Laws.OwnMore
import Derived.BigRegion
import Derived.Stop.LaidErr
import Derived.LaidEql
import Derived.Stop.Asserts
import Derived.Below
import Derived.Stop.LaidTwo
import Derived.Deep.RegionWith
import Derived.Laws.AppendOwnNone
import Derived.RegionTactic
import Derived.Deep.Cut
import Derived.Deep.CutRange
import Derived.Deep.CutBlock
import Derived.Maps.OwnIn
import Derived.RangeFuncNested
import Derived.RangeFuncBound
import Derived.RangeFuncCalls
import Derived.RangeFuncLeaves
import Derived.RangeFuncBox
import Derived.Shelf.Abstract
import Derived.Shelf.RegionOpen
import Derived.OwnWalkIn
import Derived.TacticsInMore
import Derived.LoopNIn
import Derived.LoopIn
import Derived.ChangeVars
import Derived.Deep.DeepHandedRow
import Derived.OneCell
import Derived.Lib.SliceRun
import Derived.Lib.Overlaps
import Derived.Lib.AppendZerosOnto
import Derived.Laws.NewBlocks
import Derived.Laws.IdiomCopy
import Derived.Deep.RegionLaw
import Derived.Laws.IdiomRangeMap
import Derived.Maps.RangeWalk
import Derived.Maps.Ext
import Derived.Lib.SlMapFilter
import Derived.Deep.AppendLies
import Derived.Laws.EntriesVeiled
import Derived.Shelf.SlSortCmp.NoneTotal
import Derived.Sort.OwnSorted
import Derived.Maps.AppendAt
import Derived.Sort.MapsRangeIn
import Derived.Sort.KeysCollected
import Derived.Sort.Grow
/- Differences of trees, plain: the layer between two trees makes the one of the other; it is a canonical layer. -/
namespace Go.Proofs.YtibekkfbpmloiabGreatDoor.Recs
set_option maxRecDepth 100000
open Go.RowKit Paths

theorem need_pathB {A B : List R} (ha : IsTree A) (hb : IsTree B) {q : ByteArray} (h : Need B (chgs A B) q) : pathB q.data.toList = true := by
  obtain ⟨c, hc, _, rfl | hu⟩ := h
  · exact chg_path ha.path hb.path ((chg_mem A B ha.sorted hb.sorted c).1 hc)
  · exact ups_path (chg_path ha.path hb.path ((chg_mem A B ha.sorted hb.sorted c).1 hc)) q hu
/-- What is above a wanted path is a directory of B, and wanted, too. -/
theorem need_up {A B : List R} (ha : IsTree A) (hb : IsTree B) {q a : ByteArray} (h : Need B (chgs A B) q) (hu : a ∈ ups q) : Need B (chgs A B) a ∧ ∃ n, recAt B a = some n ∧ n.k = 3 := by
  obtain ⟨c, hc, hh, hq⟩ := h
  have hcp := chg_path ha.path hb.path ((chg_mem A B ha.sorted hb.sorted c).1 hc)
  have hac : a ∈ ups c.1 := by
    rcases hq with rfl | hq
    · exact hu
    · exact ups_trans hcp a q hq hu
  exact ⟨⟨c, hc, hh, .inr hac⟩, homed_up hb hcp hh a hac⟩
theorem white_fault {q : ByteArray} (h : pathB q.data.toList = true) : (whiteR q).fault = 0 := by
  unfold R.fault whiteR faultI
  simp [h]
theorem recB_fault {B : List R} (hf : ∀ r ∈ B, r.fault = 0) {q : ByteArray} (h : pathB q.data.toList = true) : (recB B q).fault = 0 := by
  cases hr : recAt B q with
  | none => rw [recB_none hr]; exact white_fault h
  | some n => rw [recB_some hr]; exact nodeOf_fault (hf n (recAt_mem hr).1)
theorem bet_fault {A B : List R} (ha : IsTree A) (hb : IsTree B) (hf : ∀ r ∈ B, r.fault = 0) : ∀ r ∈ betP A B, r.fault = 0 := fun r hr => by
  obtain ⟨q, hn, rfl⟩ := ((bet_inv ha hb).mem r).1 hr
  exact recB_fault hf (need_pathB ha hb hn)
theorem bet_housed {A B : List R} (ha : IsTree A) (hb : IsTree B) : Housed (betP A B) := by
  intro r hr hp
  obtain ⟨q, hn, rfl⟩ := ((bet_inv ha hb).mem r).1 hr
  rw [recB_p] at hp ⊢
  obtain ⟨h1, n, h2, h3⟩ := need_up ha hb hn (parent_up (need_pathB ha hb hn) hp)
  exact ⟨recB B (parO q), ((bet_inv ha hb).mem _).2 ⟨_, h1, rfl⟩, recB_p B _, by rw [recB_some h2]; exact h3⟩
theorem bet_layer {A B : List R} (ha : IsTree A) (hb : IsTree B) (hf : ∀ r ∈ B, r.fault = 0) (hl : (betP A B).length ≤ 16) : layerOK (betP A B) = true :=
  layerOK_of hl (bet_fault ha hb hf) (bet_inv ha hb).sorted (bet_housed ha hb)
theorem bet_is {A B : List R} (ha : IsTree A) (hb : IsTree B) (hf : ∀ r ∈ B, r.fault = 0) : IsLayer (betP A B) :=
  ⟨(bet_inv ha hb).sorted, bet_housed ha hb, fun r hr => (fault_path (bet_fault ha hb hf r hr)).1⟩
theorem bet_flag {A B : List R} (ha : IsTree A) (hb : IsTree B) : ∀ r ∈ betP A B, r.o = false := fun r hr => by
  obtain ⟨q, _, rfl⟩ := ((bet_inv ha hb).mem r).1 hr
  exact recB_o B q
theorem canon_flagless {l : List R} (ho : ∀ r ∈ l, r.o = false) : canonL l = l := by
  have hop : ∀ q, opaqueAt l q = false := fun q => by
    rw [opaqueAt_eq]
    cases h : recAt l q with
    | none => rfl
    | some r => simp [ho r (recAt_mem h).1]
  have hu : ∀ q, underL l q = false := fun q => by
    rw [underL_any]
    rw [List.any_eq_false]
    intro a _
    rw [hop]
    decide
  unfold canonL
  have : ∀ r ∈ l, canonR l r = some r := fun r hr => by
    unfold canonR
    rw [hu]
    have := ho r hr
    obtain ⟨k, m, p, b, o⟩ := r
    simp only at this
    subst this
    simp
  clear ho hop hu
  suffices h : ∀ s : List R, (∀ r ∈ s, canonR l r = some r) → s.filterMap (canonR l) = s from h l this
  intro s
  induction s with
  | nil => intro _; rfl
  | cons x s ih =>
    intro h
    rw [List.filterMap_cons, h x (by simp), ih (fun r hr => h r (List.mem_cons_of_mem _ hr))]
theorem bet_canon {A B : List R} (ha : IsTree A) (hb : IsTree B) : canonL (betP A B) = betP A B := canon_flagless (bet_flag ha hb)
theorem bet_at {A B : List R} (ha : IsTree A) (hb : IsTree B) (q : ByteArray) : (Need B (chgs A B) q ∧ recAt (betP A B) q = some (recB B q)) ∨ (¬ Need B (chgs A B) q ∧ recAt (betP A B) q = none) := by
  by_cases hn : Need B (chgs A B) q
  · refine .inl ⟨hn, ?_⟩
    have := recAt_of (bet_inv ha hb).sorted (((bet_inv ha hb).mem _).2 ⟨q, hn, rfl⟩)
    rw [recB_p] at this
    exact this
  · refine .inr ⟨hn, ?_⟩
    cases h : recAt (betP A B) q with
    | none => rfl
    | some r =>
      obtain ⟨hm, hp⟩ := recAt_mem h
      obtain ⟨q', hq', rfl⟩ := ((bet_inv ha hb).mem r).1 hm
      rw [recB_p] at hp
      exact absurd (hp ▸ hq') hn
theorem need_of {A B : List R} (ha : IsTree A) (hb : IsTree B) {q : ByteArray} (hne : recAt A q ≠ recAt B q) (hh : homed B q = true) : Need B (chgs A B) q :=
  ⟨(q, (recAt A q).getD zR, (recAt B q).getD zR), (chg_mem A B ha.sorted hb.sorted _).2 ⟨hne, rfl⟩, hh, .inl rfl⟩
theorem homed_in {B : List R} (hb : IsTree B) {n : R} (hn : n ∈ B) : homed B n.p = true := by
  unfold homed
  by_cases hp : parentL n.p.data.toList = []
  · rw [decide_eq_true hp]; rfl
  · obtain ⟨x, hx, hxp, hxk⟩ := hb.housed n hn hp
    rw [← hxp, recAt_of hb.sorted hx]
    simp [hxk]
/-- What stands in A where its parent is no directory of B is cut off by a record of the layer. -/
theorem cut_homeless {A B : List R} (ha : IsTree A) (hb : IsTree B) {q : ByteArray} (hq : pathB q.data.toList = true) (hA : ∀ a ∈ ups q, ∃ n, recAt A a = some n ∧ n.k = 3) (hh : homed B q = false) : cutsL (betP A B) q = true := by
  revert hA hh
  refine path_ind (P := fun q => (∀ a ∈ ups q, ∃ n, recAt A a = some n ∧ n.k = 3) → homed B q = false → cutsL (betP A B) q = true) ?_ ?_ q hq
  · intro q _ hp _ hh
    unfold homed at hh
    rw [decide_eq_true hp] at hh
    cases hh
  · intro q hq hp h1 ih hA hh
    have hup := parent_up hq hp
    obtain ⟨m, hm, hmk⟩ := hA _ hup
    have hnd : ∀ n, recAt B (parO q) = some n → n.k ≠ 3 := fun n hn hk => by
      unfold homed at hh
      rw [hn, decide_eq_false hp] at hh
      simp [hk] at hh
    cases hp2 : homed B (parO q) with
    | false => exact cuts_up hq hup (ih (fun a hau => hA a (ups_trans hq a _ hup hau)) hp2)
    | true =>
      have hne : recAt A (parO q) ≠ recAt B (parO q) := fun e => by
        rw [hm] at e
        exact hnd m e.symm hmk
      have hn := need_of ha hb hne hp2
      rcases bet_at ha hb (parO q) with ⟨_, h2⟩ | ⟨h2, _⟩
      · refine cuts_at hup h2 ?_
        cases hr : recAt B (parO q) with
        | none => rw [recB_none hr]; rfl
        | some n =>
          rw [recB_some hr]
          unfold stops
          rw [decide_eq_true (show (nodeOf n).k ≠ 3 from hnd n hr)]
          rfl
      · exact absurd hn h2
theorem apply_bet {A B : List R} (ha : IsTree A) (hb : IsTree B) (hkB : ∀ r ∈ B, r.k ≠ 4) (hoB : ∀ r ∈ B, r.o = false) (hfB : ∀ r ∈ B, r.fault = 0) : applyL (betP A B) A = B := by
  have hL := bet_is ha hb hfB
  have hno : ∀ n ∈ B, nodeOf n = n := fun n hn => by
    have := hoB n hn
    obtain ⟨k, m, p, b, o⟩ := n
    simp only at this
    subst this
    rfl
  refine sorted_ext _ _ (apply_sorted _ ha.sorted) hb.sorted fun x => ?_
  rw [mem_apply ha _ hL.sorted hL.path]
  constructor
  · rintro (⟨r, hr, hk, rfl⟩ | ⟨hx, hn, hc⟩)
    · obtain ⟨q, _, rfl⟩ := ((bet_inv ha hb).mem r).1 hr
      cases hq : recAt B q with
      | none => rw [recB_none hq] at hk; exact absurd rfl hk
      | some n =>
        obtain ⟨hm, _⟩ := recAt_mem hq
        rw [recB_some hq]
        show nodeOf n ∈ B
        rw [hno n hm]
        exact hm
    · have hxA := recAt_of ha.sorted hx
      have hxp := ha.path x hx
      cases hh : homed B x.p with
      | false =>
        rw [cut_homeless ha hb hxp (fun a hau => by
          obtain ⟨n, hn, hnp, hnk⟩ := housed_ups ha.housed hxp x hx rfl a hau
          exact ⟨n, by rw [← hnp]; exact recAt_of ha.sorted hn, hnk⟩) hh] at hc
        cases hc
      | true =>
        have hnn : ¬ Need B (chgs A B) x.p := fun h => by
          rcases bet_at ha hb x.p with ⟨_, h2⟩ | ⟨h2, _⟩
          · rw [hn] at h2; cases h2
          · exact h2 h
        have he : recAt A x.p = recAt B x.p := Classical.byContradiction fun h => hnn (need_of ha hb h hh)
        rw [hxA] at he
        exact (recAt_mem he.symm).1
  · intro hx
    have hxB := recAt_of hb.sorted hx
    rcases bet_at ha hb x.p with ⟨h1, h2⟩ | ⟨h1, h2⟩
    · refine .inl ⟨recB B x.p, (recAt_mem h2).1, ?_, ?_⟩
      · rw [recB_some hxB]; exact hkB x hx
      · rw [recB_some hxB, hno x hx, hno x hx]
    · have he : recAt A x.p = recAt B x.p := Classical.byContradiction fun h => h1 (need_of ha hb h (homed_in hb hx))
      rw [hxB] at he
      refine .inr ⟨(recAt_mem he).1, h2, ?_⟩
      unfold cutsL
      rw [List.any_eq_false]
      intro a hau hs
      unfold stopsAt at hs
      rcases bet_at ha hb a with ⟨h3, h4⟩ | ⟨_, h4⟩
      · rw [h4] at hs
        obtain ⟨n, hn, hnp, hnk⟩ := housed_ups hb.housed (hb.path x hx) x hx rfl a hau
        have hna : recAt B a = some n := by rw [← hnp]; exact recAt_of hb.sorted hn
        rw [recB_some hna] at hs
        unfold stops at hs
        simp [nodeOf, hnk] at hs
      · rw [h4] at hs; cases hs
end Go.Proofs.YtibekkfbpmloiabGreatDoor.Recs

/- Differences of trees, plain: what LayerBetween, UndoOf and Rebase answer of trees and layers that are drawn. -/
namespace Go.Proofs.YtibekkfbpmloiabGreatDoor.Recs
open Go.RowKit Paths

theorem nn_trees {A B : List R} (ha : Tree A) (hb : Tree B) : codeNN A B = 0 := by
  have h1 := ha.len
  have h2 := hb.len
  exact nn_fine (by omega) (by rw [treeOK_of ha, treeOK_of hb]; rfl)
theorem short_path {t : List R} (h : ∀ x ∈ t, pathB x.p.data.toList = true) : ∀ r ∈ t, r.p.size ≤ maxLen := fun r hr => by
  have h35 : r.p.size ≤ 35 := by rw [Lib.size_eq]; exact pathB_len (h r hr)
  unfold maxLen
  omega
/-- The layer between two trees, where it is small enough: a layer, canonical, that makes one of the other. -/
theorem between_facts {A B : List R} (ha : Tree A) (hb : Tree B) (ho : ∀ r ∈ B, r.o = false) (h16 : ¬ 16 < (betP A B).length) :
    lbC A B = 0 ∧ lbR A B = betP A B ∧ layerOK (betP A B) = true ∧ isCan (betP A B) = true ∧ appC (betP A B) A = 0 ∧ appR (betP A B) A = B ∧ codeL (betP A B) = 0 := by
  obtain ⟨h1, h2⟩ := lb_ok (nn_trees ha hb) h16
  have hok := bet_layer ha.is hb.is hb.fault (by omega)
  have hap := apply_bet ha.is hb.is hb.kind ho hb.fault
  have hla := ha.len
  have hlb := hb.len
  have hln := ln_fine (l := betP A B) (t := A) (by omega) hok (treeOK_of ha)
  obtain ⟨e1, e2⟩ := app_fine hln
  rw [hap] at e1 e2
  refine ⟨h1, h2, hok, ?_, ?_, ?_, ?_⟩
  · unfold isCan okL
    rw [hok, bet_canon ha.is hb.is]
    simp
    omega
  · rw [e1]; unfold limC; rw [if_neg (by omega)]
  · rw [e2]; unfold limL; rw [if_neg (by omega)]
  · unfold codeL
    rw [if_neg (by omega), if_pos hok]
theorem between_many {A B : List R} (ha : Tree A) (hb : Tree B) (h16 : 16 < (betP A B).length) : lbC A B = 6 ∧ lbR A B = [] := lb_many (nn_trees ha hb) h16
/-- Whatever a layer makes of a tree, where it is small enough. -/
theorem app_cases {l t : List R} (hl : layerOK l = true) (ht : Tree t) (ho : ∀ r ∈ t, r.o = false) :
    (appC l t = 7 ∧ appR l t = []) ∨ (appC l t = 0 ∧ appR l t = applyL l t ∧ Tree (applyL l t) ∧ ∀ r ∈ applyL l t, r.o = false) := by
  have h1 := layer_len hl
  have h2 := ht.len
  obtain ⟨e1, e2⟩ := app_fine (ln_fine (by omega) hl (treeOK_of ht))
  by_cases h24 : 24 < (applyL l t).length
  · refine .inl ⟨?_, ?_⟩
    · rw [e1]; unfold limC; rw [if_pos h24]
    · rw [e2]; unfold limL; rw [if_pos h24]
  · refine .inr ⟨?_, ?_, apply_full hl ht (by omega), apply_flag ho (layer_is hl) ht.is⟩
    · rw [e1]; unfold limC; rw [if_neg h24]
    · rw [e2]; unfold limL; rw [if_neg h24]
end Go.Proofs.YtibekkfbpmloiabGreatDoor.Recs
