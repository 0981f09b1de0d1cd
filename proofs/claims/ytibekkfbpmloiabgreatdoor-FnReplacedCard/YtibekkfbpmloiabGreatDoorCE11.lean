/- Parts of several texts of mine in one file (each begins with its own remark). -/
import Derived.Test.YtibekkfbpmloiabGreatDoorCA10
import Derived.Test.YtibekkfbpmloiabGreatDoorCA11
import Derived.Test.YtibekkfbpmloiabGreatDoorCA13
import Derived.Test.YtibekkfbpmloiabGreatDoorCA14
import Derived.Test.YtibekkfbpmloiabGreatDoorCA15
import Derived.Test.YtibekkfbpmloiabGreatDoorCA16
import Derived.Test.YtibekkfbpmloiabGreatDoorCA17
import Derived.Test.YtibekkfbpmloiabGreatDoorCA2
import Derived.Test.YtibekkfbpmloiabGreatDoorCA20
import Derived.Test.YtibekkfbpmloiabGreatDoorCA21
import Derived.Test.YtibekkfbpmloiabGreatDoorCA22
import Derived.Test.YtibekkfbpmloiabGreatDoorCA3
import Derived.Test.YtibekkfbpmloiabGreatDoorCA4
import Derived.Test.YtibekkfbpmloiabGreatDoorCA5
import Derived.Test.YtibekkfbpmloiabGreatDoorCA7
import Derived.Test.YtibekkfbpmloiabGreatDoorCA9
import Derived.Test.YtibekkfbpmloiabGreatDoorCB1
import Derived.Test.YtibekkfbpmloiabGreatDoorCE10
import Derived.Test.YtibekkfbpmloiabGreatDoorCE2
import Derived.Test.YtibekkfbpmloiabGreatDoorCE3
import Derived.Test.YtibekkfbpmloiabGreatDoorCE4
import Derived.Test.YtibekkfbpmloiabGreatDoorCE7
import Derived.Test.YtibekkfbpmloiabGreatDoorCE8
import Derived.Test.YtibekkfbpmloiabGreatDoorCE9
import Derived.Test.YtibekkfbpmloiabGreatDoorCards
import Derived.Test.YtibekkfbpmloiabGreatDoorTie
import Derived.Test.YtibekkfbpmloiabGreatDoorChecked
import Derived.Test.YtibekkfbpmloiabGreatDoorShelf
import Derived.Test.YtibekkfbpmloiabGreatDoorProg
import Derived.Test.YtibekkfbpmloiabGreatDoorRows
import Derived.Test.YtibekkfbpmloiabGreatDoorShelf2
import Derived.Deep.Cut
import Derived.Deep.CutRange
import Derived.Deep.RegionHeld3
import Derived.WalkKit
import Derived.ProofKit
import Derived.OpenShut
import Derived.ShutString
import Derived.ChangeOld
import Derived.ChangeVars
import Derived.OpenVars
import Derived.Below
import Derived.Lay
import Derived.LaidMore
import Derived.Stop.Joined
import Derived.SevenTiedAt
import Derived.Deep.DeepHandedRow
import Derived.Lib.LaidTab
import Derived.Deep.Slices
import Derived.ChangeArms
import Derived.WideShapes
import Derived.BigQuiet
import Derived.Deep.QuietTactic
import Derived.StillTailTactics
import Derived.Deep.Draws
import Derived.Deep.LoopGhost
import Derived.WalkSpells
import Derived.WalkSmall
import Derived.Lib.OthersKept
import Derived.Lib.Hide
import Derived.Lib.Strings
import Derived.Lib.Join
import Derived.Laws.OwnMore
import Derived.BigRegion
import Derived.Laws.BytesArg
import Derived.Deep.AppendLies
import Derived.Laws.IdiomCopy
import Derived.Stop.LaidErr
import Derived.WalkLawsBesides
import Derived.LaidEql
import Derived.Stop.Asserts
import Derived.Stop.LaidTwo
import Derived.Deep.RegionWith
import Derived.OneCell
import Derived.Lib.SliceRun
import Derived.Lib.Overlaps
import Derived.Lib.AppendZerosOnto
import Derived.Laws.NewBlocks
import Derived.Deep.RegionLaw
import Derived.RangeFuncNested
import Derived.RangeFuncBound
import Derived.RangeFuncCalls
import Derived.RangeFuncLeaves
import Derived.RangeFuncBox
import Derived.Shelf.Abstract
import Derived.Shelf.RegionOpen
import Derived.OwnWalkIn
import Derived.TacticsInMore
import Derived.LoopNIn
import Derived.LoopIn
import Derived.Deep.CutBlock
import Derived.Laws.AppendOwnNone
import Derived.Shelf.SlSortCmp.NoneTotal
import Derived.Sort.OwnSorted
import Derived.Maps.OwnIn
import Derived.Maps.AppendAt
import Derived.Sort.MapsRangeIn
import Derived.Sort.KeysCollected
import Derived.Laws.IdiomRangeMap
import Derived.Maps.RangeWalk
import Derived.Maps.Ext
import Derived.Lib.SlMapFilter
import Derived.Sort.Grow
import Derived.Laws.EntriesVeiled
import Derived.RegionTactic
import Derived.IntWalk
/- For all two slices of bytes, FnReplaced answers true. Conditions: the table of kinds and the two sentinels hold what their own initialisers lay (tied to the program's text by the given tie). -/
namespace Go.Proofs.YtibekkfbpmloiabGreatDoor.LawFnReplaced0
open Go.ChangeShapes Go.WideShapes Go.ChangeAt Go.RowKit
open Go.ChangeMaps (open_string shut_string)
open Recs Paths Draw
set_option linter.unusedVariables false
set_option maxRecDepth 100000

set_option maxHeartbeats 16000000 in
theorem walk_small (a0 : Option Addr) (len0 cap0 : Nat) (a1 : Option Addr) (len1 cap1 : Nat) (f1 : Nat → Nat) (w : World) (B0 : Byts w w.heap.size a0 len0) (c0 : len0 ≤ cap0) (h0 : len0 ≤ 1048576) (V1 : Vals w a1 len1 f1) (c1 : len1 ≤ cap1) (h1 : len1 ≤ 1048576) (x y : Addr) (hT : Three w x y) :
    Calls Tryz.prog 7 #[.slice a0 len0 cap0, .slice a1 len1 cap1] w fun e w' => e = .returned (.bool true) ∧ Below w.heap.size w w' := by
  have HB0 := Lib.hid B0
  have HV1 := Lib.hid V1
  have HT := Lib.hid hT
  have hd0 : decide ((1048576 : Int) < (len0 : Int)) = false := by simp; omega
  have hd1 : decide ((1048576 : Int) < (len1 : Int)) = false := by simp; omega
  clear B0 V1 hT
  go_enter Tryz.func7, Tryz.ntmps7
  go_wp2_with fail
  refine (stackDrawn_any w a0 len0 cap0 HB0.out c0).mono ?_
  rintro e w1 ⟨v, LL, rfl, hl3, hok, hb1, hst, hnv⟩
  obtain ⟨sg, scap, rfl, hcp⟩ := hst.atom hnv
  have HOK := Lib.hid hok
  have HSTK := Lib.hid (stk_small (LL := LL) (by omega) hok)
  have HSH := Lib.hid (stk_short hok)
  have HG : Hid (∀ W, Below w1.heap.size w1 W → StkGood W (.slice (some ⟨sg, 0, none⟩) LL.length scap) LL) := fun W hW => hst.good.below hW
  have HTT : Hid (∀ W, Below w1.heap.size w1 W → Three W x y) := fun W hW => HT.out.below (hb1.trans (hW.mono hb1.size)) (Nat.le_refl _)
  have HVV : Hid (∀ W, Below w1.heap.size w1 W → Vals W a1 len1 f1) := fun W hW => HV1.out.below (hb1.trans (hW.mono hb1.size))
  have hl5 : LL.length ≤ 1048576 := by omega
  have b1 := Below.refl w1.heap.size w1
  clear hok hst hnv HB0 HT HV1
  obtain ⟨hJ0, hJ1⟩ := atK_range (f := f1) (n := len1) (i := 0) (k := (LL.length : Int) + 1) (by omega)
  have HAT := at_all w1 a1 len1 cap1 f1 0 ((LL.length : Int) + 1) (HVV.out _ b1) (by omega) (by omega)
  obtain ⟨ff, hjff⟩ : ∃ q : Nat, atK f1 len1 0 ((LL.length : Int) + 1) = (q : Int) := ⟨_, (Int.toNat_of_nonneg hJ0).symm⟩
  rw [hjff] at HAT hJ0 hJ1
  clear hjff
  have hf0 : ff ≤ LL.length := by omega
  go_wp2_with fail
  refine HAT.mono ?_
  rintro e w2 ⟨rfl, n2, hw2⟩
  clear HAT hJ0 hJ1
  have hb2 : Below w1.heap.size w1 w2 := by rw [hw2]; exact below_drewN (Below.refl _ _) n2
  clear hw2
  have b2 := b1.trans (hb2.mono b1.size)
  obtain ⟨hJ0, hJ1⟩ := atK_range (f := f1) (n := len1) (i := 1) (k := (LL.length : Int) - (ff : Int) + 1) (by omega)
  have HAT := at_all w2 a1 len1 cap1 f1 1 ((LL.length : Int) - (ff : Int) + 1) (HVV.out _ b2) (by omega) (by omega)
  obtain ⟨tt, hjtt⟩ : ∃ q : Nat, atK f1 len1 1 ((LL.length : Int) - (ff : Int) + 1) = (q : Int) := ⟨_, (Int.toNat_of_nonneg hJ0).symm⟩
  rw [hjtt] at HAT hJ0 hJ1
  clear hjtt
  have ht0 : ff + tt ≤ LL.length := by omega
  go_wp2_with fail
  refine HAT.mono ?_
  rintro e w3 ⟨rfl, n3, hw3⟩
  clear HAT hJ0 hJ1
  have hb3 : Below w2.heap.size w2 w3 := by rw [hw3]; exact below_drewN (Below.refl _ _) n3
  clear hw3
  have b3 := b2.trans (hb3.mono b2.size)
  obtain ⟨t, ht⟩ : ∃ t, ff + tt = t := ⟨_, rfl⟩
  have htc : ((ff : Int) + (tt : Int)) = (t : Int) := by omega
  have hft : ff ≤ t := by omega
  have htl : t ≤ LL.length := by omega
  have HRC := Lib.hid (replaced_cases (LL := LL) (by omega) HOK.out hft htl)
  have hrl := repR_len LL (ff : Int) (t : Int)
  have hre := repR_each LL (ff : Int) (t : Int)
  have HRX : Hid (∀ l ∈ repR LL (ff : Int) (t : Int), l.length ≤ 1048576) := hre
  obtain ⟨rc, hrc⟩ : ∃ rc, repC LL (ff : Int) (t : Int) = rc := ⟨_, rfl⟩
  obtain ⟨Q, hQ⟩ : ∃ Q, repR LL (ff : Int) (t : Int) = Q := ⟨_, rfl⟩
  have HTC := Lib.hid htc
  rw [hrc, hQ] at HRC
  rw [hQ] at hrl HRX
  have ERC := Lib.hid hrc
  have EQ := Lib.hid hQ
  have hrcc : (rc != rc) = false := by simp
  have hwt : IntKind.i64.wrap ((ff : Int) + (tt : Int)) = (t : Int) := by rw [htc]; exact IntWalk.i64_in _ (by omega)
  have hvl : (viewR LL).length ≤ 1048576 := view_len LL
  obtain ⟨VV, hVV⟩ : ∃ VV, viewR LL = VV := ⟨_, rfl⟩
  have EVV := Lib.hid hVV
  have hlast : (LL.length : Int) - ((t : Int) - (ff : Int)) + 1 = ((LL.length - (t - ff) + 1 : Nat) : Int) := by omega
  have HLAST := Lib.hid hlast
  rw [hVV] at hvl
  clear htc hrc hQ hre hVV hlast ht
  have HK := replaced_impl _ LL (ff : Int) (t : Int) x y w3 (HG.out _ b3) hl5 HSH.out.1 (HTT.out _ b3)
  rw [ERC.out, EQ.out] at HK
  go_wp2_with fail
  refine HK.mono ?_
  rintro e w4 ⟨r1, rfl, hb4, hr1⟩
  clear HK
  have b4 := b3.trans (hb4.mono b3.size)
  obtain ⟨r1A, r1c, rfl⟩ := hr1.sl.form
  have HK := replaced_spec _ LL (ff : Int) (t : Int) w4 (HG.out _ b4) hl5 HSH.out.2
  rw [ERC.out, EQ.out] at HK
  go_wp2_with fail
  refine HK.mono ?_
  rintro e w5 ⟨r2, rfl, hb5, hr2⟩
  clear HK
  have b5 := b4.trans (hb5.mono b4.size)
  replace hr1 := hr1.below hb5
  obtain ⟨r2A, r2c, rfl⟩ := hr2.sl.form
  have HK := sameStacks_same _ _ Q w5 hr1.sl hr2.sl hrl HRX.out
  go_wp2_with fail
  refine HK.mono ?_
  rintro e w6 ⟨rfl, n6, hw6⟩
  clear HK
  have hb6 : Below w5.heap.size w5 w6 := by rw [hw6]; exact below_drewN (Below.refl _ _) n6
  clear hw6
  have b6 := b5.trans (hb6.mono b5.size)
  replace hr1 := hr1.below hb6
  replace hr2 := hr2.below hb6
  rcases HRC.out with ⟨rfl, rfl⟩ | ⟨rfl, hq2, hq3, hq4, hq5⟩
  · as_aux_lemma =>
      go_wp2_with fail
      go_ret
      exact ⟨rfl, hb1.trans (b6.mono hb1.size)⟩
  · as_aux_lemma =>
      have hq5' : viewR Q = VV := hq5.trans EVV.out
      have HQV := Lib.hid hq5'
      have hql : Q.length ≤ 5 := by rw [hq3]; omega
      have HQS := Lib.hid (stk_small hql hq4)
      have HQH := Lib.hid (stk_short hq4)
      have HQ3 := Lib.hid hq3
      clear hq2 hq3 hq4 hq5 hq5' HRC
      have HK := viewOf_impl _ Q x y w6 hr1.sl (by omega) HQH.out.1 (HTT.out _ b6)
      rw [HQS.out.2, HQV.out] at HK
      go_wp2_with fail
      refine HK.mono ?_
      rintro e w7 ⟨z1, rfl, hb7, hz1⟩
      clear HK
      have b7 := b6.trans (hb7.mono b6.size)
      replace hr1 := hr1.below hb7
      replace hr2 := hr2.below hb7
      obtain ⟨z1A, z1c, rfl⟩ := own_form hz1.2.1
      have HK := viewOf_impl _ LL x y w7 (HG.out _ b7).sl hl5 HSH.out.1 (HTT.out _ b7)
      rw [HSTK.out.2, EVV.out] at HK
      go_wp2_with fail
      refine HK.mono ?_
      rintro e w8 ⟨z2, rfl, hb8, hz2⟩
      clear HK
      have b8 := b7.trans (hb8.mono b7.size)
      replace hr1 := hr1.below hb8
      replace hr2 := hr2.below hb8
      replace hz1 := hz1.below hb8
      obtain ⟨z2A, z2c, rfl⟩ := own_form hz2.2.1
      have HK := viewOf_spec _ LL w8 (HG.out _ b8).sl hl5 HSH.out.2
      rw [HSTK.out.2, EVV.out] at HK
      go_wp2_with fail
      refine HK.mono ?_
      rintro e w9 ⟨z3, rfl, hb9, hz3⟩
      clear HK
      have b9 := b8.trans (hb9.mono b8.size)
      replace hr1 := hr1.below hb9
      replace hr2 := hr2.below hb9
      replace hz1 := hz1.below hb9
      replace hz2 := hz2.below hb9
      obtain ⟨z3A, z3c, rfl⟩ := own_form hz3.2.1
      have HK := stackOK_impl _ Q x y w9 hr1.sl (by omega) HQH.out.1 (HTT.out _ b9)
      rw [HQS.out.1] at HK
      go_wp2_with fail
      refine HK.mono ?_
      rintro e w10 ⟨rfl, hb10⟩
      clear HK
      have b10 := b9.trans (hb10.mono b9.size)
      replace hr1 := hr1.below hb10
      replace hr2 := hr2.below hb10
      replace hz1 := hz1.below hb10
      replace hz2 := hz2.below hb10
      replace hz3 := hz3.below hb10
      have hlq : ((Q.length : Int) == (LL.length : Int) - ((t : Int) - (ff : Int)) + 1) = true := by rw [HLAST.out, HQ3.out]; simp
      have HK := sameNodes_any _ _ VV VV w10 hz1.sl hz3.sl hvl
      rw [decide_eq_true rfl] at HK
      go_wp2_with fail
      refine HK.mono ?_
      rintro e w11 ⟨rfl, n11, hw11⟩
      clear HK
      have hb11 : Below w10.heap.size w10 w11 := by rw [hw11]; exact below_drewN (Below.refl _ _) n11
      clear hw11
      have b11 := b10.trans (hb11.mono b10.size)
      replace hr1 := hr1.below hb11
      replace hr2 := hr2.below hb11
      replace hz1 := hz1.below hb11
      replace hz2 := hz2.below hb11
      replace hz3 := hz3.below hb11
      have HK := sameNodes_any _ _ VV VV w11 hz2.sl hz3.sl hvl
      rw [decide_eq_true rfl] at HK
      go_wp2_with fail
      refine HK.mono ?_
      rintro e w12 ⟨rfl, n12, hw12⟩
      clear HK
      have hb12 : Below w11.heap.size w11 w12 := by rw [hw12]; exact below_drewN (Below.refl _ _) n12
      clear hw12
      have b12 := b11.trans (hb12.mono b11.size)
      replace hr1 := hr1.below hb12
      replace hr2 := hr2.below hb12
      replace hz1 := hz1.below hb12
      replace hz2 := hz2.below hb12
      replace hz3 := hz3.below hb12
      go_wp2_with fail
      go_ret
      exact ⟨rfl, hb1.trans (b12.mono hb1.size)⟩

theorem walk (a0 : Option Addr) (len0 cap0 : Nat) (z0 : List Int) (a1 : Option Addr) (len1 cap1 : Nat) (z1 : List Int) (w : World) (r0 : IsRow .u8 w a0 len0 cap0 z0) (r1 : IsRow .u8 w a1 len1 cap1 z1) (hT : ∃ x y, Three w x y) :
    Calls Tryz.prog 7 #[.slice a0 len0 cap0, .slice a1 len1 cap1] w fun e w' => e = .returned (.bool true) ∧ Below w.heap.size w w' := by
  obtain ⟨x, y, hT⟩ := hT
  by_cases h0 : len0 ≤ 1048576
  · by_cases h1 : len1 ≤ 1048576
    · obtain ⟨v0, c0, _⟩ := r0.vals h0
      obtain ⟨v1, c1, n1⟩ := r1.vals h1
      exact walk_small a0 len0 cap0 a1 len1 cap1 _ w v0.byts c0 h0 v1 c1 h1 x y hT
    · have hd0 : decide ((1048576 : Int) < (len0 : Int)) = false := by simp; omega
      have hd1 : decide ((1048576 : Int) < (len1 : Int)) = true := by simp; omega
      clear r0 r1
      go_enter Tryz.func7, Tryz.ntmps7
      go_wp2_with fail
      go_ret
      exact ⟨rfl, Below.refl _ _⟩
  · have hd0 : decide ((1048576 : Int) < (len0 : Int)) = true := by simp; omega
    clear r0 r1
    go_enter Tryz.func7, Tryz.ntmps7
    go_wp2_with fail
    go_ret
    exact ⟨rfl, Below.refl _ _⟩
end Go.Proofs.YtibekkfbpmloiabGreatDoor.LawFnReplaced0
