/- Parts of several texts of mine in one file (each begins with its own remark). -/
import Derived.Test.YtcbmnihepeefaaaGreatDoorCA1
import Derived.Test.YtcbmnihepeefaaaGreatDoorCA10
import Derived.Test.YtcbmnihepeefaaaGreatDoorCA3
import Derived.Test.YtcbmnihepeefaaaGreatDoorCA4
import Derived.Test.YtcbmnihepeefaaaGreatDoorCA5
import Derived.Test.YtcbmnihepeefaaaGreatDoorCA6
import Derived.Test.YtcbmnihepeefaaaGreatDoorCA7
import Derived.Test.YtcbmnihepeefaaaGreatDoorCB1
import Derived.Test.YtcbmnihepeefaaaGreatDoorCB12
import Derived.Test.YtcbmnihepeefaaaGreatDoorCB2
import Derived.Test.YtcbmnihepeefaaaGreatDoorCB3
import Derived.Test.YtcbmnihepeefaaaGreatDoorCB5
import Derived.Test.YtcbmnihepeefaaaGreatDoorCB8
import Derived.Test.YtcbmnihepeefaaaGreatDoorCH2
import Derived.Test.YtcbmnihepeefaaaGreatDoorCH4
import Derived.Test.YtcbmnihepeefaaaGreatDoorCH6
import Derived.Test.YtcbmnihepeefaaaGreatDoorCH7
import Derived.Test.YtcbmnihepeefaaaGreatDoorCH9
import Derived.Test.YtcbmnihepeefaaaGreatDoorChecked
import Derived.Test.YtcbmnihepeefaaaGreatDoorShelf
import Derived.Test.YtcbmnihepeefaaaGreatDoorProg
import Derived.Test.YtcbmnihepeefaaaGreatDoorRows
import Derived.Test.YtcbmnihepeefaaaGreatDoorShelf2
import Derived.Deep.Slices
import Derived.OpenShut
import Derived.ShutString
import Derived.ChangeArms
import Derived.WideShapes
import Derived.Lib.LaidTab
import Derived.BigQuiet
import Derived.Deep.QuietTactic
import Derived.Deep.RegionHeld3
import Derived.StillTailTactics
import Derived.Deep.Draws
import Derived.Deep.LoopGhost
import Derived.WalkKit
import Derived.WalkSpells
import Derived.WalkSmall
import Derived.Lib.OthersKept
import Derived.Lib.Hide
import Derived.Lib.Strings
import Derived.Lib.Join
import Derived.WalkLawsBesides
import Derived.Laws.BytesArg
import Derived.Deep.RegionWith
import Derived.Laws.OwnMore
import Derived.BigRegion
import Derived.Stop.LaidErr
import Derived.LaidEql
import Derived.Stop.Asserts
import Derived.Below
import Derived.Stop.LaidTwo
import Derived.OneCell
import Derived.Lib.SliceRun
import Derived.Lib.Overlaps
import Derived.Lib.AppendZerosOnto
import Derived.Laws.NewBlocks
import Derived.Laws.IdiomCopy
import Derived.Deep.RegionLaw
import Derived.ChangeVars
import Derived.Deep.DeepHandedRow
import Derived.Deep.AppendLies
import Derived.Laws.EntriesVeiled
import Derived.Shelf.SlSortCmp.NoneTotal
import Derived.Sort.OwnSorted
import Derived.RangeFuncNested
import Derived.RangeFuncBound
import Derived.RangeFuncCalls
import Derived.RangeFuncLeaves
import Derived.RangeFuncBox
import Derived.Shelf.Abstract
import Derived.Shelf.RegionOpen
import Derived.OwnWalkIn
import Derived.TacticsInMore
import Derived.LoopNIn
import Derived.LoopIn
import Derived.Maps.OwnIn
import Derived.Maps.AppendAt
import Derived.Sort.MapsRangeIn
import Derived.Sort.KeysCollected
import Derived.Laws.IdiomRangeMap
import Derived.Maps.RangeWalk
import Derived.Maps.Ext
import Derived.Lib.SlMapFilter
import Derived.Sort.Grow
/- What the law of trees asks, of lists alone. -/
namespace Go.Proofs.YtcbmnihepeefaaaGreatDoor.Recs
open Paths

theorem add_facts {t : List R} {n : R} (ht : Tree t) (hp : pathB n.p.data.toList = true) : Tree (addR t n) ∧ (addC t n = 0 → addR t n = putL t n ∧ recAt t n.p = none) := by
  unfold addC addR
  by_cases h : codeTN t n = 0
  · have hne : ¬ (codeTN t n ≠ 0) := fun hx => hx h
    rw [if_neg hne, if_neg hne]
    obtain ⟨_, h4, hf⟩ := codeTN_zero h
    by_cases hd : addD t n = 0
    · rw [if_pos hd]
      have hpc : placeC t n.p = 0 := by
        unfold addD at hd
        split at hd
        · rename_i hx; exact absurd hd hx
        · rename_i hx; simpa using hx
      have hl : t.length ≠ 24 := by
        unfold addD at hd
        have hne2 : ¬ (placeC t n.p ≠ 0) := fun hx => hx hpc
        rw [if_neg hne2] at hd
        split at hd
        · omega
        · assumption
      have h24 := ht.len
      exact ⟨put_tree ht h4 hf (place_ok hpc).1 (place_home hp hpc).2 (by omega), fun _ => ⟨rfl, (place_ok hpc).1⟩⟩
    · rw [if_neg hd]
      exact ⟨ht, fun e => absurd e hd⟩
  · rw [if_pos h, if_pos h]
    exact ⟨tree_nil, fun e => absurd e h⟩
theorem tt_fine {T : List R} (h : Tree T) {q : ByteArray} (hq : q.size ≤ 35) : codeTT T q = 0 := by
  have := h.len
  unfold codeTT
  rw [if_neg (by omega), if_pos (treeOK_of h)]
theorem rm_fine {T : List R} (h : Tree T) {q : ByteArray} (hq : q.size ≤ 35) (hp : pathB q.data.toList = true) : rmC T q = (findT T q).2 ∧ remR T q = if (findT T q).2 = 0 then withoutL T q true else T := by
  have h0 := tt_fine h hq
  have h1 : remC T q = (findT T q).2 := by unfold remC; rw [hp, if_pos rfl]
  unfold rmC remR
  have hne : ¬ (codeTT T q ≠ 0) := fun hx => hx h0
  rw [if_neg hne, if_neg hne, h1]
  exact ⟨rfl, rfl⟩
theorem add_done_facts {t : List R} {n : R} (ht : Tree t) (hp : pathB n.p.data.toList = true) (hc : addC t n = 0) : findT (addR t n) n.p = (n, 0) ∧ (addR t n).length = t.length + 1 ∧ withoutL (addR t n) n.p true = t := by
  obtain ⟨e, hn⟩ := (add_facts ht hp).2 hc
  rw [e]
  exact ⟨put_find ht.sorted n, put_len ht.sorted hn, without_put ht.is hn⟩
theorem atL_some (T : List R) (q : ByteArray) : decide ((0 : Int) ≤ atL T q) = (recAt T q).isSome := by
  rcases atL_recAt T q with ⟨ha, hn⟩ | ⟨j, hj, ha, hn⟩
  · rw [ha, hn]; rfl
  · rw [ha, hn]; simp
theorem rest_at {T : List R} (h : Tree T) {q : ByteArray} (hq : pathB q.data.toList = true) {x : R} (hx : x ∈ T) : decide ((0 : Int) ≤ atL (withoutL T q true) x.p) = !(decide (x.p = q) || isBelowB x.p q) := by
  rw [atL_some, without_at h.sorted hx, isUp_isBelow (h.is.path x hx) hq, Bool.not_or, Bool.and_comm]
/-- A short tree without marks is a layer, and the layer makes the tree. -/
theorem lay_fine {t : List R} (h : Tree t) (hl : layerOK t = true) : layC t = 0 ∧ layR t = t ∧ sameC t t = true := by
  have h16 := layer_len hl
  have h0 : layC t = 0 := by unfold layC; rw [if_neg (by omega), if_pos (treeOK_of h), if_neg (by omega)]
  refine ⟨h0, layR_yes h0, ?_⟩
  unfold sameC okL
  simp [hl]
  omega
theorem same_fine {t : List R} (h : Tree t) : sameT t t = true := by
  unfold sameT
  rw [treeOK_of h]
  simp
theorem app_none {t : List R} (h : Tree t) (ho : ∀ r ∈ t, r.o = false) (hl : layerOK t = true) : appC t [] = 0 ∧ appR t [] = t := by
  have h16 := layer_len hl
  have h0 : codeLN t [] = 0 := ln_fine (by simp; omega) hl (treeOK_of tree_nil)
  obtain ⟨e1, e2⟩ := app_fine h0
  rw [apply_none h.is h.kind ho] at e1 e2
  rw [e1, e2]
  unfold limC limL
  rw [if_neg (by omega), if_neg (by omega)]
  exact ⟨rfl, rfl⟩
end Go.Proofs.YtcbmnihepeefaaaGreatDoor.Recs
