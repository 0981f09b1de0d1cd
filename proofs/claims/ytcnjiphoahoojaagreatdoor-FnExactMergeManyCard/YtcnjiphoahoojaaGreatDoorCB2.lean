/- Parts of several texts of mine in one file (each begins with its own remark). -/
import Derived.Test.YtcnjiphoahoojaaGreatDoorCA11
import Derived.Test.YtcnjiphoahoojaaGreatDoorCA12
import Derived.Test.YtcnjiphoahoojaaGreatDoorCA13
import Derived.Test.YtcnjiphoahoojaaGreatDoorCA14
import Derived.Test.YtcnjiphoahoojaaGreatDoorCA15
import Derived.Test.YtcnjiphoahoojaaGreatDoorCA16
import Derived.Test.YtcnjiphoahoojaaGreatDoorCA19
import Derived.Test.YtcnjiphoahoojaaGreatDoorCA2
import Derived.Test.YtcnjiphoahoojaaGreatDoorCA21
import Derived.Test.YtcnjiphoahoojaaGreatDoorCA23
import Derived.Test.YtcnjiphoahoojaaGreatDoorCA24
import Derived.Test.YtcnjiphoahoojaaGreatDoorCA26
import Derived.Test.YtcnjiphoahoojaaGreatDoorCA3
import Derived.Test.YtcnjiphoahoojaaGreatDoorCA4
import Derived.Test.YtcnjiphoahoojaaGreatDoorCA6
import Derived.Test.YtcnjiphoahoojaaGreatDoorCA9
import Derived.Test.YtcnjiphoahoojaaGreatDoorCB1
import Derived.Test.YtcnjiphoahoojaaGreatDoorChecked
import Derived.Test.YtcnjiphoahoojaaGreatDoorShelf
import Derived.Test.YtcnjiphoahoojaaGreatDoorProg
import Derived.Test.YtcnjiphoahoojaaGreatDoorRows
import Derived.Deep.AppendLies
import Derived.Laws.IdiomCopy
import Derived.BigRegion
import Derived.StillTailTactics
import Derived.Deep.Slices
import Derived.OpenShut
import Derived.ShutString
import Derived.ChangeArms
import Derived.WideShapes
import Derived.Lib.LaidTab
import Derived.BigQuiet
import Derived.Deep.QuietTactic
import Derived.Deep.RegionHeld3
import Derived.Deep.Draws
import Derived.Deep.LoopGhost
import Derived.WalkKit
import Derived.WalkSpells
import Derived.WalkSmall
import Derived.Lib.OthersKept
import Derived.Lib.Hide
import Derived.Lib.Strings
import Derived.Lib.Join
import Derived.Laws.OwnMore
import Derived.Laws.BytesArg
import Derived.Stop.LaidErr
import Derived.WalkLawsBesides
import Derived.LaidEql
import Derived.Stop.Asserts
import Derived.Below
import Derived.Stop.LaidTwo
import Derived.ChangeVars
import Derived.Deep.DeepHandedRow
import Derived.Deep.RegionWith
import Derived.OneCell
import Derived.Lib.SliceRun
import Derived.Lib.Overlaps
import Derived.Lib.AppendZerosOnto
import Derived.Laws.NewBlocks
import Derived.Deep.RegionLaw
import Derived.RangeFuncNested
import Derived.RangeFuncBound
import Derived.RangeFuncCalls
import Derived.RangeFuncLeaves
import Derived.RangeFuncBox
import Derived.Shelf.Abstract
import Derived.Shelf.RegionOpen
import Derived.OwnWalkIn
import Derived.TacticsInMore
import Derived.LoopNIn
import Derived.LoopIn
/- MergeTrace, MergeMany of the model. -/
namespace Go.Proofs.YtcnjiphoahoojaaGreatDoor.Recs
set_option maxRecDepth 100000
open Go.RowKit Paths Errs

set_option maxHeartbeats 1600000 in
theorem mergeMany_spec (v : Value) (LL : List (List R)) (w : World) (h : StkSl w v LL) (hl : LL.length ≤ 1048576) (hll : ∀ l ∈ LL, l.length ≤ 1048576) :
    Calls Tryz.prog 15 #[v] w fun e w' => ∃ z, e = .returned (.tuple #[z, .int .i64 (mmC LL)]) ∧ Below w.heap.size w w' ∧ RowOf w' w.heap.size z (mmR LL).length (mmR LL) := by
  have HS := Lib.hid h
  obtain ⟨vA, vcap, rfl⟩ := h.form
  have HOK := l05Stack_any _ LL w h hl hll
  have E0 : Hid (∀ W, Below w.heap.size w W → (W.alloc (.cells #[] 60)).ownsRow w.heap.size 60 5 (.slice (some ⟨W.heap.size, 0, none⟩) 0 0) 0 []) := fun W hW => World.ownsRow_lit W #[] 0 hW.size (Nat.zero_le _) rfl
  by_cases h1 : 4096 < LL.length
  · have hd : decide ((4096 : Int) < (LL.length : Int)) = true := by simp; omega
    have HQ := Lib.hid (mm_bad (s_long h1) (by decide))
    clear h1
    go_enter Tryz.func15, Tryz.ntmps15
    go_wp2_with fail
    go_ret2
    exact ⟨_, by rw [HQ.out.1]; rfl, (Below.refl _ _).alloc (Nat.le_refl _) _, by rw [HQ.out.2]; exact ⟨rfl, E0.out _ (Below.refl _ _)⟩⟩
  have hd1 : decide ((4096 : Int) < (LL.length : Int)) = false := by simp; omega
  cases ho : stackOK LL with
  | false =>
    have HQ := Lib.hid (mm_bad (s_bad h1 ho) (by decide))
    rw [ho] at HOK
    clear h1 ho
    go_enter Tryz.func15, Tryz.ntmps15
    go_wp2_with fail
    refine HOK.mono ?_
    rintro e w1 ⟨rfl, c0⟩
    go_wp2_with fail
    go_ret2
    exact ⟨_, by rw [HQ.out.1]; rfl, c0.alloc c0.size _, by rw [HQ.out.2]; exact ⟨rfl, E0.out _ c0⟩⟩
  | true =>
    have H0 := Lib.hid (s_ok h1 ho)
    have hst := stack_of ho
    have HAL := fun w' hb => l07Merge_any (.slice vA LL.length vcap) LL w' (HS.out.below hb) hst.1 hst.2
    rw [ho] at HOK
    clear h1 ho hst
    go_enter Tryz.func15, Tryz.ntmps15
    go_wp2_with fail
    refine HOK.mono ?_
    rintro e w1 ⟨rfl, c0⟩
    go_wp2_with fail
    refine (HAL _ c0).mono ?_
    rintro e w4 ⟨f, z, rfl, hb4, hf, hz⟩
    have c4 := c0.trans (hb4.mono c0.size)
    obtain ⟨fA, fcap, rfl⟩ := hf.form
    have HF := Lib.hid hf
    clear hf hz
    by_cases h16 : 16 < (mmL LL).length
    · have HQ := Lib.hid (mm_full H0.out h16)
      have hd : decide ((16 : Int) < ((mmL LL).length : Int)) = true := by simp; omega
      clear h16
      go_wp2_with fail
      go_ret2
      exact ⟨_, by rw [HQ.out.1]; rfl, c4.alloc c4.size _, by rw [HQ.out.2]; exact ⟨rfl, E0.out _ c4⟩⟩
    · have HQ := Lib.hid (mm_fine H0.out h16)
      have hd : decide ((16 : Int) < ((mmL LL).length : Int)) = false := by simp; omega
      clear h16
      go_wp2_with fail
      go_ret2
      exact ⟨_, by rw [HQ.out.1]; rfl, c4, by rw [HQ.out.2]; exact ⟨HF.out.1, own_le HF.out.2 c0.size⟩⟩
end Go.Proofs.YtcnjiphoahoojaaGreatDoor.Recs
