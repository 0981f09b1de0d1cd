/- Parts of several texts of mine in one file (each begins with its own remark). -/
import Derived.Test.YtcnjiphoahoojaaGreatDoorEA1
import Derived.Test.YtcnjiphoahoojaaGreatDoorEA10
import Derived.Test.YtcnjiphoahoojaaGreatDoorEA12
import Derived.Test.YtcnjiphoahoojaaGreatDoorEA13
import Derived.Test.YtcnjiphoahoojaaGreatDoorEA14
import Derived.Test.YtcnjiphoahoojaaGreatDoorEA15
import Derived.Test.YtcnjiphoahoojaaGreatDoorEA16
import Derived.Test.YtcnjiphoahoojaaGreatDoorEA17
import Derived.Test.YtcnjiphoahoojaaGreatDoorEA19
import Derived.Test.YtcnjiphoahoojaaGreatDoorEA2
import Derived.Test.YtcnjiphoahoojaaGreatDoorEA3
import Derived.Test.YtcnjiphoahoojaaGreatDoorEA4
import Derived.Test.YtcnjiphoahoojaaGreatDoorEA5
import Derived.Test.YtcnjiphoahoojaaGreatDoorEA6
import Derived.Test.YtcnjiphoahoojaaGreatDoorEA7
import Derived.Test.YtcnjiphoahoojaaGreatDoorEA8
import Derived.Test.YtcnjiphoahoojaaGreatDoorEA9
import Derived.Test.YtcnjiphoahoojaaGreatDoorChecked
import Derived.Test.YtcnjiphoahoojaaGreatDoorShelf
import Derived.Test.YtcnjiphoahoojaaGreatDoorProg
import Derived.Test.YtcnjiphoahoojaaGreatDoorRows
import Derived.Deep.RegionHeld3
import Derived.BigRegion
import Derived.StillTailTactics
import Derived.Deep.Slices
import Derived.OpenShut
import Derived.ShutString
import Derived.ChangeArms
import Derived.WideShapes
import Derived.Lib.LaidTab
import Derived.BigQuiet
import Derived.Deep.QuietTactic
import Derived.Deep.Draws
import Derived.Deep.LoopGhost
import Derived.WalkKit
import Derived.WalkSpells
import Derived.WalkSmall
import Derived.Lib.OthersKept
import Derived.Lib.Hide
import Derived.Lib.Strings
import Derived.Lib.Join
import Derived.WalkLawsBesides
import Derived.Laws.BytesArg
import Derived.Laws.OwnMore
import Derived.Stop.LaidErr
import Derived.LaidEql
import Derived.Stop.Asserts
import Derived.Below
import Derived.Stop.LaidTwo
import Derived.RangeFuncNested
import Derived.RangeFuncBound
import Derived.RangeFuncCalls
import Derived.RangeFuncLeaves
import Derived.RangeFuncBox
import Derived.Shelf.Abstract
import Derived.Shelf.RegionOpen
import Derived.OwnWalkIn
import Derived.TacticsInMore
import Derived.LoopNIn
import Derived.LoopIn
import Derived.ChangeVars
import Derived.Deep.DeepHandedRow
import Derived.Deep.RegionWith
import Derived.OneCell
import Derived.Lib.SliceRun
import Derived.Lib.Overlaps
import Derived.Lib.AppendZerosOnto
import Derived.Laws.NewBlocks
import Derived.Laws.IdiomCopy
import Derived.Deep.RegionLaw
/- Touched, of the program. Conditions: the table of kinds, the two sentinels. -/
namespace Go.Proofs.YtcnjiphoahoojaaGreatDoor.Recs
set_option maxRecDepth 100000
open Go.RowKit Paths Errs Go.Shelf
attribute [local go_sem] Oper.semAt_some

/-- The code of a call with two trees. -/
def codeNN (A B : List R) : Int := if 4096 < A.length ∨ 4096 < B.length then 2 else if treeOK A && treeOK B then 0 else 1
theorem arg_nn (A B : List R) : enFrom [growK A, growK B] 0 = codeNN A B := by
  by_cases h1 : 4096 < A.length <;> by_cases h2 : 4096 < B.length <;> cases h3 : treeOK A <;> cases h4 : treeOK B <;> simp [growK, codeNN, enFrom, h1, h2, h3, h4]
theorem nn_ok {A B : List R} (h : codeNN A B = 0) : treeOK A = true ∧ treeOK B = true := by
  unfold codeNN at h
  split at h
  · cases h
  · split at h
    · rename_i hk
      rw [Bool.and_eq_true] at hk
      exact hk
    · cases h
theorem nn_long {A B : List R} (h : 4096 < A.length ∨ 4096 < B.length) : codeNN A B = 2 := if_pos h
theorem nn_bad {A B : List R} (h : ¬ (4096 < A.length ∨ 4096 < B.length)) (hb : (treeOK A && treeOK B) = false) : codeNN A B = 1 := by unfold codeNN; rw [if_neg h, hb]; rfl
theorem nn_fine {A B : List R} (h : ¬ (4096 < A.length ∨ 4096 < B.length)) (hb : (treeOK A && treeOK B) = true) : codeNN A B = 0 := by unfold codeNN; rw [if_neg h, hb]; rfl
theorem grow_ok2 {A : List R} (h : treeOK A = true) : growK A = .fine := grow_ok.2 h

theorem cbN_own {q : ByteArray} {x y : R} (B : Nat) {X Y : World} {row : Option Nat} (h : CbN X B q x y) (hg : X.grownBy Y row) (hr : ∀ r, row = some r → ∃ o : Obj, X.heap[r]? = some o ∧ o.isCells = false) : CbN Y B q x y := by
  refine (hg.block B h.lt fun e => ?_).trans h
  obtain ⟨o, ho, hc⟩ := hr B e.symm
  rw [show X.heap[B]? = _ from h] at ho
  cases ho
  cases hc
theorem CbN.alloc {W : World} {B : Nat} {q : ByteArray} {x y : R} (h : CbN W B q x y) (o : Obj) : CbN (W.alloc o) B q x y := ((World.grownBy_alloc W o none).block B h.lt (by simp)).trans h
theorem nodSl_form {w : World} {v : Value} {L : List R} (h : NodSl w v L) : ∃ A cap, v = .slice A L.length cap := by
  obtain ⟨_, A, cap, rfl, _⟩ := h
  exact ⟨A, cap, rfl⟩

end Go.Proofs.YtcnjiphoahoojaaGreatDoor.Recs

/- Touched, of the model; the model's check of two trees. -/
namespace Go.Proofs.YtcnjiphoahoojaaGreatDoor.Recs
set_option maxRecDepth 100000
open Go.RowKit Paths Errs

theorem pth_64 {p : ByteArray} (h : pathB p.data.toList = true) : p.size ≤ 65536 := by
  have := path_short h
  omega
set_option maxHeartbeats 800000 in
theorem l08Ask_any (v1 v2 : Value) (A B : List R) (w : World) (h1 : NodSl w v1 A) (h2 : NodSl w v2 B) (hl1 : A.length ≤ 1048576) (hl2 : B.length ≤ 1048576) :
    Calls Tryz.prog 39 #[v1, v2] w fun e w' => e = .returned (.int .i64 (codeNN A B)) ∧ Below w.heap.size w w' := by
  have HC1 := l04OK_any v1 A w h1 hl1
  have HC2 := fun w1 (hb : Below w.heap.size w w1) => l04OK_any v2 B w1 (h2.below hb) hl2
  obtain ⟨a1, cap1, rfl⟩ := nodSl_form h1
  obtain ⟨a2, cap2, rfl⟩ := nodSl_form h2
  clear h1 h2
  by_cases k1 : 4096 < A.length
  · have hd : decide ((4096 : Int) < (A.length : Int)) = true := by simp; omega
    have HQ := Lib.hid (nn_long (A := A) (B := B) (.inl k1))
    clear k1
    go_enter Tryz.func39, Tryz.ntmps39
    go_wp2_with fail
    go_ret
    exact ⟨by rw [HQ.out]; rfl, Below.refl _ _⟩
  have hd1 : decide ((4096 : Int) < (A.length : Int)) = false := by simp; omega
  by_cases k2 : 4096 < B.length
  · have hd : decide ((4096 : Int) < (B.length : Int)) = true := by simp; omega
    have HQ := Lib.hid (nn_long (A := A) (B := B) (.inr k2))
    clear k1 k2
    go_enter Tryz.func39, Tryz.ntmps39
    go_wp2_with fail
    go_ret
    exact ⟨by rw [HQ.out]; rfl, Below.refl _ _⟩
  have hd2 : decide ((4096 : Int) < (B.length : Int)) = false := by simp; omega
  have hkk : ¬ (4096 < A.length ∨ 4096 < B.length) := by omega
  cases ha : treeOK A with
  | false =>
    rw [ha] at HC1
    have HQ := Lib.hid (nn_bad hkk (by rw [ha]; rfl))
    clear k1 k2 hkk ha
    go_enter Tryz.func39, Tryz.ntmps39
    go_wp2_with fail
    refine HC1.mono ?_
    rintro e w1 ⟨rfl, hb1⟩
    go_wp2_with fail
    go_ret
    exact ⟨by rw [HQ.out]; rfl, hb1⟩
  | true =>
    cases hb : treeOK B with
    | false =>
      rw [ha] at HC1
      rw [hb] at HC2
      have HQ := Lib.hid (nn_bad hkk (by rw [ha, hb]; rfl))
      clear k1 k2 hkk ha hb
      go_enter Tryz.func39, Tryz.ntmps39
      go_wp2_with fail
      refine HC1.mono ?_
      rintro e w1 ⟨rfl, hb1⟩
      go_wp2_with fail
      refine (HC2 _ hb1).mono ?_
      rintro e w2 ⟨rfl, hb2⟩
      go_wp2_with fail
      go_ret
      exact ⟨by rw [HQ.out]; rfl, hb1.trans (hb2.mono hb1.size)⟩
    | true =>
      rw [ha] at HC1
      rw [hb] at HC2
      have HQ := Lib.hid (nn_fine hkk (by rw [ha, hb]; rfl))
      clear k1 k2 hkk ha hb
      go_enter Tryz.func39, Tryz.ntmps39
      go_wp2_with fail
      refine HC1.mono ?_
      rintro e w1 ⟨rfl, hb1⟩
      go_wp2_with fail
      refine (HC2 _ hb1).mono ?_
      rintro e w2 ⟨rfl, hb2⟩
      go_wp2_with fail
      go_ret
      exact ⟨by rw [HQ.out]; rfl, hb1.trans (hb2.mono hb1.size)⟩

end Go.Proofs.YtcnjiphoahoojaaGreatDoor.Recs
