/- Parts of several texts of mine in one file (each begins with its own remark). -/
import Derived.Test.YtibekkfbpmloiabGreatDoorCA1
import Derived.Test.YtibekkfbpmloiabGreatDoorCA14
import Derived.Test.YtibekkfbpmloiabGreatDoorCA15
import Derived.Test.YtibekkfbpmloiabGreatDoorCA16
import Derived.Test.YtibekkfbpmloiabGreatDoorCA22
import Derived.Test.YtibekkfbpmloiabGreatDoorCA3
import Derived.Test.YtibekkfbpmloiabGreatDoorCA4
import Derived.Test.YtibekkfbpmloiabGreatDoorCA9
import Derived.Test.YtibekkfbpmloiabGreatDoorCC1
import Derived.Test.YtibekkfbpmloiabGreatDoorCC10
import Derived.Test.YtibekkfbpmloiabGreatDoorCC11
import Derived.Test.YtibekkfbpmloiabGreatDoorCC6
import Derived.Test.YtibekkfbpmloiabGreatDoorChecked
import Derived.Test.YtibekkfbpmloiabGreatDoorShelf
import Derived.Test.YtibekkfbpmloiabGreatDoorProg
import Derived.Test.YtibekkfbpmloiabGreatDoorRows
import Derived.Deep.RegionHeld3
import Derived.BigRegion
import Derived.StillTailTactics
import Derived.Deep.Slices
import Derived.OpenShut
import Derived.ShutString
import Derived.ChangeArms
import Derived.WideShapes
import Derived.Lib.LaidTab
import Derived.BigQuiet
import Derived.Deep.QuietTactic
import Derived.Deep.Draws
import Derived.Deep.LoopGhost
import Derived.WalkKit
import Derived.WalkSpells
import Derived.WalkSmall
import Derived.Lib.OthersKept
import Derived.Lib.Hide
import Derived.Lib.Strings
import Derived.Lib.Join
import Derived.WalkLawsBesides
import Derived.Laws.BytesArg
import Derived.Laws.OwnMore
import Derived.Stop.LaidErr
import Derived.LaidEql
import Derived.Stop.Asserts
import Derived.Below
import Derived.Stop.LaidTwo
import Derived.RangeFuncNested
import Derived.RangeFuncBound
import Derived.RangeFuncCalls
import Derived.RangeFuncLeaves
import Derived.RangeFuncBox
import Derived.Shelf.Abstract
import Derived.Shelf.RegionOpen
import Derived.OwnWalkIn
import Derived.TacticsInMore
import Derived.LoopNIn
import Derived.LoopIn
import Derived.ChangeVars
import Derived.Deep.DeepHandedRow
import Derived.Deep.RegionWith
import Derived.OneCell
import Derived.Lib.SliceRun
import Derived.Lib.Overlaps
import Derived.Lib.AppendZerosOnto
import Derived.Laws.NewBlocks
import Derived.Laws.IdiomCopy
import Derived.Deep.RegionLaw
/- Touched, of the program. Conditions: the table of kinds, the two sentinels. -/
namespace Go.Proofs.YtibekkfbpmloiabGreatDoor.Recs
set_option maxRecDepth 100000
open Go.RowKit Paths Errs Go.Shelf
attribute [local go_sem] Oper.semAt_some

/-- The code of a call with two trees. -/
def codeNN (A B : List R) : Int := if 4096 < A.length ∨ 4096 < B.length then 2 else if treeOK A && treeOK B then 0 else 1
theorem arg_nn (A B : List R) : enFrom [growK A, growK B] 0 = codeNN A B := by
  by_cases h1 : 4096 < A.length <;> by_cases h2 : 4096 < B.length <;> cases h3 : treeOK A <;> cases h4 : treeOK B <;> simp [growK, codeNN, enFrom, h1, h2, h3, h4]
theorem nn_ok {A B : List R} (h : codeNN A B = 0) : treeOK A = true ∧ treeOK B = true := by
  unfold codeNN at h
  split at h
  · cases h
  · split at h
    · rename_i hk
      rw [Bool.and_eq_true] at hk
      exact hk
    · cases h
theorem nn_fine {A B : List R} (h : ¬ (4096 < A.length ∨ 4096 < B.length)) (hb : (treeOK A && treeOK B) = true) : codeNN A B = 0 := by unfold codeNN; rw [if_neg h, hb]; rfl
theorem grow_ok2 {A : List R} (h : treeOK A = true) : growK A = .fine := grow_ok.2 h

theorem cbN_own {q : ByteArray} {x y : R} (B : Nat) {X Y : World} {row : Option Nat} (h : CbN X B q x y) (hg : X.grownBy Y row) (hr : ∀ r, row = some r → ∃ o : Obj, X.heap[r]? = some o ∧ o.isCells = false) : CbN Y B q x y := by
  refine (hg.block B h.lt fun e => ?_).trans h
  obtain ⟨o, ho, hc⟩ := hr B e.symm
  rw [show X.heap[B]? = _ from h] at ho
  cases ho
  cases hc
theorem CbN.alloc {W : World} {B : Nat} {q : ByteArray} {x y : R} (h : CbN W B q x y) (o : Obj) : CbN (W.alloc o) B q x y := ((World.grownBy_alloc W o none).block B h.lt (by simp)).trans h
theorem nodSl_form {w : World} {v : Value} {L : List R} (h : NodSl w v L) : ∃ A cap, v = .slice A L.length cap := by
  obtain ⟨_, A, cap, rfl, _⟩ := h
  exact ⟨A, cap, rfl⟩

end Go.Proofs.YtibekkfbpmloiabGreatDoor.Recs

/- Touched, of the model; the model's check of two trees. -/
namespace Go.Proofs.YtibekkfbpmloiabGreatDoor.Recs
set_option maxRecDepth 100000
open Go.RowKit Paths Errs

theorem pth_64 {p : ByteArray} (h : pathB p.data.toList = true) : p.size ≤ 65536 := by
  have := path_short h
  omega
end Go.Proofs.YtibekkfbpmloiabGreatDoor.Recs
