/- Parts of several texts of mine in one file (each begins with its own remark). -/
import Derived.Test.YtcbmnihepeefaaaGreatDoorCA10
import Derived.Test.YtcbmnihepeefaaaGreatDoorCA3
import Derived.Test.YtcbmnihepeefaaaGreatDoorCA5
import Derived.Test.YtcbmnihepeefaaaGreatDoorCA6
import Derived.Test.YtcbmnihepeefaaaGreatDoorChecked
import Derived.Test.YtcbmnihepeefaaaGreatDoorShelf
import Derived.Test.YtcbmnihepeefaaaGreatDoorProg
import Derived.Test.YtcbmnihepeefaaaGreatDoorRows
import Derived.Stop.LaidErr
import Derived.StillTailTactics
import Derived.Laws.OwnMore
import Derived.BigQuiet
import Derived.BigRegion
import Derived.Deep.QuietTactic
import Derived.Deep.RegionHeld3
import Derived.Deep.Slices
import Derived.OpenShut
import Derived.ShutString
import Derived.ChangeArms
import Derived.WideShapes
import Derived.Lib.LaidTab
import Derived.Deep.Draws
import Derived.Deep.LoopGhost
import Derived.WalkKit
import Derived.WalkSpells
import Derived.WalkSmall
import Derived.Lib.OthersKept
import Derived.Lib.Hide
import Derived.Lib.Strings
import Derived.Lib.Join
import Derived.Laws.BytesArg
import Derived.WalkLawsBesides
import Derived.LaidEql
import Derived.Stop.Asserts
import Derived.Below
import Derived.Stop.LaidTwo
import Derived.ChangeVars
import Derived.Deep.DeepHandedRow
/- Combining two layers, plain: what the upper one cuts off as the program looks at it; the combination step by step. -/
namespace Go.Proofs.YtcbmnihepeefaaaGreatDoor.Recs
set_option maxRecDepth 100000
open Go.RowKit Paths

theorem two_end (u : List R) : twoL u [] [] = [] := by rw [twoL]
theorem two_up (u : List R) (y : R) (b : List R) : twoL u [] (y :: b) = y :: twoL u [] b := by rw [twoL, twoL]
theorem two_cut0 {u : List R} {x : R} {a : List R} (hc : cutsL u x.p = true) : twoL u (x :: a) [] = twoL u a [] := by rw [twoL, if_pos hc]
theorem two_take0 {u : List R} {x : R} {a : List R} (hc : cutsL u x.p = false) : twoL u (x :: a) [] = x :: twoL u a [] := by rw [twoL, if_neg (by rw [hc]; decide)]
theorem two_cut1 {u : List R} {x y : R} {a b : List R} (hl : lessR x y = true) (hc : cutsL u x.p = true) : twoL u (x :: a) (y :: b) = twoL u a (y :: b) := by rw [twoL, if_pos hl, if_pos hc]
theorem two_take1 {u : List R} {x y : R} {a b : List R} (hl : lessR x y = true) (hc : cutsL u x.p = false) : twoL u (x :: a) (y :: b) = x :: twoL u a (y :: b) := by rw [twoL, if_pos hl, if_neg (by rw [hc]; decide)]
theorem two_high {u : List R} {x y : R} {a b : List R} (hl : lessR x y = false) (hn : x.p ≠ y.p) : twoL u (x :: a) (y :: b) = y :: twoL u (x :: a) b := by
  rw [twoL, if_neg (by rw [hl]; decide), if_pos]
  rcases less_or hn with h | h
  · rw [hl] at h; cases h
  · exact h
theorem less_self {x y : R} (h : x.p = y.p) : lessR x y = false := by unfold lessR; rw [h, lessP_irrefl]
theorem two_eq {u : List R} {x y : R} {a b : List R} (h : x.p = y.p) : twoL u (x :: a) (y :: b) = overR x y :: twoL u a b := by
  rw [twoL, if_neg (by rw [less_self h]; decide), if_neg (by rw [less_self h.symm]; decide)]

end Go.Proofs.YtcbmnihepeefaaaGreatDoor.Recs
