/- Parts of several texts of mine in one file (each begins with its own remark). -/
import Derived.Test.YtibekkfbpmloiabGreatDoorGA1
import Derived.Test.YtibekkfbpmloiabGreatDoorGA11
import Derived.Test.YtibekkfbpmloiabGreatDoorGA12
import Derived.Test.YtibekkfbpmloiabGreatDoorGA14
import Derived.Test.YtibekkfbpmloiabGreatDoorGA15
import Derived.Test.YtibekkfbpmloiabGreatDoorGA16
import Derived.Test.YtibekkfbpmloiabGreatDoorGA19
import Derived.Test.YtibekkfbpmloiabGreatDoorGA2
import Derived.Test.YtibekkfbpmloiabGreatDoorGA20
import Derived.Test.YtibekkfbpmloiabGreatDoorGA23
import Derived.Test.YtibekkfbpmloiabGreatDoorGA25
import Derived.Test.YtibekkfbpmloiabGreatDoorGA29
import Derived.Test.YtibekkfbpmloiabGreatDoorGA3
import Derived.Test.YtibekkfbpmloiabGreatDoorGA30
import Derived.Test.YtibekkfbpmloiabGreatDoorGA31
import Derived.Test.YtibekkfbpmloiabGreatDoorGA33
import Derived.Test.YtibekkfbpmloiabGreatDoorGA34
import Derived.Test.YtibekkfbpmloiabGreatDoorGA36
import Derived.Test.YtibekkfbpmloiabGreatDoorGA37
import Derived.Test.YtibekkfbpmloiabGreatDoorGA38
import Derived.Test.YtibekkfbpmloiabGreatDoorGA4
import Derived.Test.YtibekkfbpmloiabGreatDoorGA6
import Derived.Test.YtibekkfbpmloiabGreatDoorGA8
import Derived.Test.YtibekkfbpmloiabGreatDoorGA9
import Derived.Test.YtibekkfbpmloiabGreatDoorCards
import Derived.Test.YtibekkfbpmloiabGreatDoorTie
import Derived.Test.YtibekkfbpmloiabGreatDoorChecked
import Derived.Test.YtibekkfbpmloiabGreatDoorShelf
import Derived.Test.YtibekkfbpmloiabGreatDoorProg
import Derived.Test.YtibekkfbpmloiabGreatDoorRows
import Derived.Test.YtibekkfbpmloiabGreatDoorShelf2
import Derived.Deep.Cut
import Derived.Deep.CutRange
import Derived.Deep.RegionHeld3
import Derived.WalkKit
import Derived.ProofKit
import Derived.OpenShut
import Derived.ShutString
import Derived.ChangeOld
import Derived.ChangeVars
import Derived.OpenVars
import Derived.Below
import Derived.Lay
import Derived.LaidMore
import Derived.Stop.Joined
import Derived.SevenTiedAt
import Derived.Deep.DeepHandedRow
import Derived.Lib.LaidTab
import Derived.Deep.Slices
import Derived.ChangeArms
import Derived.WideShapes
import Derived.BigQuiet
import Derived.Deep.QuietTactic
import Derived.StillTailTactics
import Derived.Deep.Draws
import Derived.Deep.LoopGhost
import Derived.WalkSpells
import Derived.WalkSmall
import Derived.Lib.OthersKept
import Derived.Lib.Hide
import Derived.Lib.Strings
import Derived.Lib.Join
import Derived.Laws.OwnMore
import Derived.BigRegion
import Derived.Laws.BytesArg
import Derived.Deep.AppendLies
import Derived.Laws.IdiomCopy
import Derived.Stop.LaidErr
import Derived.WalkLawsBesides
import Derived.LaidEql
import Derived.Stop.Asserts
import Derived.Stop.LaidTwo
import Derived.Deep.RegionWith
import Derived.OneCell
import Derived.Lib.SliceRun
import Derived.Lib.Overlaps
import Derived.Lib.AppendZerosOnto
import Derived.Laws.NewBlocks
import Derived.Deep.RegionLaw
import Derived.RangeFuncNested
import Derived.RangeFuncBound
import Derived.RangeFuncCalls
import Derived.RangeFuncLeaves
import Derived.RangeFuncBox
import Derived.Shelf.Abstract
import Derived.Shelf.RegionOpen
import Derived.OwnWalkIn
import Derived.TacticsInMore
import Derived.LoopNIn
import Derived.LoopIn
import Derived.Deep.CutBlock
import Derived.Laws.AppendOwnNone
import Derived.Shelf.SlSortCmp.NoneTotal
import Derived.Sort.OwnSorted
import Derived.Maps.OwnIn
import Derived.Maps.AppendAt
import Derived.Sort.MapsRangeIn
import Derived.Sort.KeysCollected
import Derived.Laws.IdiomRangeMap
import Derived.Maps.RangeWalk
import Derived.Maps.Ext
import Derived.Lib.SlMapFilter
import Derived.Sort.Grow
import Derived.Laws.EntriesVeiled
import Derived.RegionTactic
import Derived.IntWalk
/- For all two slices of bytes, FnOrder answers true. Conditions: the table of kinds and the two sentinels hold what their own initialisers lay (tied to the program's text by the given tie). -/
namespace Go.Proofs.YtibekkfbpmloiabGreatDoor.LawFnOrder0
open Go.ChangeShapes Go.WideShapes Go.ChangeAt Go.RowKit
open Go.ChangeMaps (open_string shut_string)
open Recs Paths Draw
set_option linter.unusedVariables false
set_option maxRecDepth 100000

theorem short_row {t : List R} (h : ∀ x ∈ t, pathB x.p.data.toList = true) : ∀ r ∈ t, r.p.size ≤ maxLen := fun r hr => by
  have h35 : r.p.size ≤ 35 := by rw [Lib.size_eq]; exact pathB_len (h r hr)
  unfold maxLen
  omega

set_option maxHeartbeats 16000000 in
theorem walk_small (a0 : Option Addr) (len0 cap0 : Nat) (a1 : Option Addr) (len1 cap1 : Nat) (f1 : Nat → Nat) (w : World) (B0 : Byts w w.heap.size a0 len0) (c0 : len0 ≤ cap0) (h0 : len0 ≤ 1048576) (V1 : Vals w a1 len1 f1) (c1 : len1 ≤ cap1) (h1 : len1 ≤ 1048576) (x y : Addr) (hT : Three w x y) :
    Calls Tryz.prog 5 #[.slice a0 len0 cap0, .slice a1 len1 cap1] w fun e w' => e = .returned (.bool true) ∧ Below w.heap.size w w' := by
  have HB0 := Lib.hid B0
  have HV1 := Lib.hid V1
  have HT := Lib.hid hT
  have hd0 : decide ((1048576 : Int) < (len0 : Int)) = false := by simp; omega
  have hd1 : decide ((1048576 : Int) < (len1 : Int)) = false := by simp; omega
  clear B0 V1 hT
  go_enter Tryz.func5, Tryz.ntmps5
  go_wp2_with fail
  refine (stackDrawn_any w a0 len0 cap0 HB0.out c0).mono ?_
  rintro e w1 ⟨v, LL, rfl, hl3, hok, hb1, hst, hnv⟩
  obtain ⟨sg, scap, rfl, hcp⟩ := hst.atom hnv
  have HOK := Lib.hid hok
  have HSTK := Lib.hid (stk_small (LL := LL) (by omega) hok)
  have HSH := Lib.hid (stk_short hok)
  have HG : Hid (∀ W, Below w1.heap.size w1 W → StkGood W (.slice (some ⟨sg, 0, none⟩) LL.length scap) LL) := fun W hW => hst.good.below hW
  have HTT : Hid (∀ W, Below w1.heap.size w1 W → Three W x y) := fun W hW => HT.out.below (hb1.trans (hW.mono hb1.size)) (Nat.le_refl _)
  have HVV : Hid (∀ W, Below w1.heap.size w1 W → Vals W a1 len1 f1) := fun W hW => HV1.out.below (hb1.trans (hW.mono hb1.size))
  have hl5 : LL.length ≤ 1048576 := by omega
  have b1 := Below.refl w1.heap.size w1
  clear hok hst hnv HB0 HT HV1
  have HALL := Lib.hid (all_cases (LL := LL) (by omega) HOK.out)
  have HMRG := Lib.hid (merge_all (LL := LL) (by omega) HOK.out)
  have hsl := sqaR_len LL
  obtain ⟨sc, hsc⟩ : ∃ sc, sqaC LL = sc := ⟨_, rfl⟩
  obtain ⟨S, hS⟩ : ∃ S, sqaR LL = S := ⟨_, rfl⟩
  have ESC := Lib.hid hsc
  have ES := Lib.hid hS
  have EMC : Hid (mmC LL = sc) := HMRG.out.1.trans hsc
  have EM : Hid (mmR LL = S) := HMRG.out.2.trans hS
  rw [hS] at hsl
  have hscc : (sc != sc) = false := by simp
  clear hsc hS HMRG
  have HK := squashAll_impl _ LL x y w1 (HG.out _ b1).sl hl5 HSH.out.1 (HTT.out _ b1)
  rw [ESC.out, ES.out] at HK
  go_wp2_with fail
  refine HK.mono ?_
  rintro e w2 ⟨s1, rfl, hb2, hs1⟩
  clear HK
  have b2 := b1.trans (hb2.mono b1.size)
  obtain ⟨s1A, s1c, rfl⟩ := hs1.form
  have HK := squashAll_spec _ LL w2 (HG.out _ b2).sl hl5 HSH.out.2
  rw [ESC.out, ES.out] at HK
  go_wp2_with fail
  refine HK.mono ?_
  rintro e w3 ⟨s2, rfl, hb3, hs2⟩
  clear HK
  have b3 := b2.trans (hb3.mono b2.size)
  replace hs1 := hs1.below hb3
  obtain ⟨s2A, s2c, rfl⟩ := hs2.form
  have HK := mergeMany_impl _ LL x y w3 (HG.out _ b3).sl hl5 HSH.out.1 (HTT.out _ b3)
  rw [EMC.out, EM.out] at HK
  go_wp2_with fail
  refine HK.mono ?_
  rintro e w4 ⟨s3, rfl, hb4, hs3⟩
  clear HK
  have b4 := b3.trans (hb4.mono b3.size)
  replace hs1 := hs1.below hb4
  replace hs2 := hs2.below hb4
  obtain ⟨s3A, s3c, rfl⟩ := hs3.form
  have HK := mergeMany_spec _ LL w4 (HG.out _ b4).sl hl5 HSH.out.2
  rw [EMC.out, EM.out] at HK
  go_wp2_with fail
  refine HK.mono ?_
  rintro e w5 ⟨s4, rfl, hb5, hs4⟩
  clear HK
  have b5 := b4.trans (hb5.mono b4.size)
  replace hs1 := hs1.below hb5
  replace hs2 := hs2.below hb5
  replace hs3 := hs3.below hb5
  obtain ⟨s4A, s4c, rfl⟩ := hs4.form
  have HK := sameRecords_any _ _ S S w5 hs1.sl hs2.sl hsl
  rw [decide_eq_true rfl] at HK
  go_wp2_with fail
  refine HK.mono ?_
  rintro e w6 ⟨rfl, n6, hw6⟩
  clear HK
  have hb6 : Below w5.heap.size w5 w6 := by rw [hw6]; exact below_drewN (Below.refl _ _) n6
  clear hw6
  have b6 := b5.trans (hb6.mono b5.size)
  replace hs1 := hs1.below hb6
  replace hs2 := hs2.below hb6
  replace hs3 := hs3.below hb6
  replace hs4 := hs4.below hb6
  have HK := sameRecords_any _ _ S S w6 hs3.sl hs4.sl hsl
  rw [decide_eq_true rfl] at HK
  go_wp2_with fail
  refine HK.mono ?_
  rintro e w7 ⟨rfl, n7, hw7⟩
  clear HK
  have hb7 : Below w6.heap.size w6 w7 := by rw [hw7]; exact below_drewN (Below.refl _ _) n7
  clear hw7
  have b7 := b6.trans (hb7.mono b6.size)
  replace hs1 := hs1.below hb7
  replace hs2 := hs2.below hb7
  replace hs3 := hs3.below hb7
  replace hs4 := hs4.below hb7
  have HK := sameRecords_any _ _ S S w7 hs4.sl hs2.sl hsl
  rw [decide_eq_true rfl] at HK
  go_wp2_with fail
  refine HK.mono ?_
  rintro e w8 ⟨rfl, n8, hw8⟩
  clear HK
  have hb8 : Below w7.heap.size w7 w8 := by rw [hw8]; exact below_drewN (Below.refl _ _) n8
  clear hw8
  have b8 := b7.trans (hb8.mono b7.size)
  replace hs1 := hs1.below hb8
  replace hs2 := hs2.below hb8
  replace hs3 := hs3.below hb8
  replace hs4 := hs4.below hb8
  clear hs1 hs3 hs4
  have HK := stackOK_impl _ LL x y w8 (HG.out _ b8).sl hl5 HSH.out.1 (HTT.out _ b8)
  rw [HSTK.out.1] at HK
  go_wp2_with fail
  refine HK.mono ?_
  rintro e w9 ⟨rfl, hb9⟩
  clear HK
  have b9 := b8.trans (hb9.mono b8.size)
  replace hs2 := hs2.below hb9
  obtain ⟨hJ0, hJ1⟩ := atK_range (f := f1) (n := len1) (i := 0) (k := (LL.length : Int) + 1) (by omega)
  have HAT := at_all w9 a1 len1 cap1 f1 0 ((LL.length : Int) + 1) (HVV.out _ b9) (by omega) (by omega)
  obtain ⟨j, hj⟩ : ∃ j : Nat, atK f1 len1 0 ((LL.length : Int) + 1) = (j : Int) := ⟨_, (Int.toNat_of_nonneg hJ0).symm⟩
  rw [hj] at HAT hJ0 hJ1
  clear hj
  have hjl : j ≤ LL.length := by omega
  go_wp2_with fail
  refine HAT.mono ?_
  rintro e w10 ⟨rfl, n10, hw10⟩
  clear HAT
  have hb10 : Below w9.heap.size w9 w10 := by rw [hw10]; exact below_drewN (Below.refl _ _) n10
  clear hw10
  have b10 := b9.trans (hb10.mono b9.size)
  replace hs2 := hs2.below hb10
  have HLO : Hid (∀ W, Below w1.heap.size w1 W → StkSl W (.slice (some ⟨sg, 0, none⟩) j scap) (LL.take j)) := fun W hW => ((HG.out W hW).take hjl).sl
  have HHI := Lib.hid (fun W (hW : Below w1.heap.size w1 W) => (HG.out W hW).rest hjl rfl hcp)
  have hla : ∀ l ∈ LL.take j, layerOK l = true := fun l hl => HOK.out l (List.mem_of_mem_take hl)
  have hlb : ∀ l ∈ LL.drop j, layerOK l = true := fun l hl => HOK.out l (List.mem_of_mem_drop hl)
  have hAl : (LL.take j).length ≤ 3 := by rw [List.length_take]; omega
  have hBl : (LL.drop j).length ≤ 3 := by rw [List.length_drop]; omega
  have HSA := Lib.hid (stk_short hla)
  have HSB := Lib.hid (stk_short hlb)
  have HCA := Lib.hid (all_cases (LL := LL.take j) (by omega) hla)
  have HCB := Lib.hid (all_cases (LL := LL.drop j) (by omega) hlb)
  have HPA := Lib.hid (fun ha hb => parts_all (LL := LL) (by omega) HOK.out j ha hb)
  have hal := sqaR_len (LL.take j)
  have hbl := sqaR_len (LL.drop j)
  obtain ⟨ca, hca⟩ : ∃ ca, sqaC (LL.take j) = ca := ⟨_, rfl⟩
  obtain ⟨Aq, hAq⟩ : ∃ Aq, sqaR (LL.take j) = Aq := ⟨_, rfl⟩
  obtain ⟨cb, hcb⟩ : ∃ cb, sqaC (LL.drop j) = cb := ⟨_, rfl⟩
  obtain ⟨Bq, hBq⟩ : ∃ Bq, sqaR (LL.drop j) = Bq := ⟨_, rfl⟩
  have HABC : Hid ((ca = 7) ∨ (ca = 0 ∧ cb = 7) ∨ (ca = 0 ∧ cb = 0 ∧ layerOK Aq = true ∧ layerOK Bq = true ∧ sqC Aq Bq = sc ∧ sqR Aq Bq = S)) := by
    rcases HCA.out with ⟨h1, h2⟩ | ⟨h1, h2, h3⟩
    · exact .inl (hca.symm.trans h1)
    · rcases HCB.out with ⟨k1, k2⟩ | ⟨k1, k2, k3⟩
      · exact .inr (.inl ⟨hca.symm.trans h1, hcb.symm.trans k1⟩)
      · obtain ⟨p1, p2⟩ := HPA.out h3 k3
        refine .inr (.inr ⟨hca.symm.trans h1, hcb.symm.trans k1, ?_, ?_, ?_, ?_⟩)
        · rw [← hAq, h2]; exact h3
        · rw [← hBq, k2]; exact k3
        · rw [← hAq, ← hBq, h2, k2]; exact p1.trans ESC.out
        · rw [← hAq, ← hBq, h2, k2]; exact p2.trans ES.out
  rw [hAq] at hal
  rw [hBq] at hbl
  have ECA := Lib.hid hca
  have EA := Lib.hid hAq
  have ECB := Lib.hid hcb
  have EB := Lib.hid hBq
  have hcaa : (ca != ca) = false := by simp
  have hcbb : (cb != cb) = false := by simp
  have hj0 : (0 : Int) ≤ (j : Int) := by omega
  have hj1 : (j : Int) ≤ (LL.length : Int) := by omega
  have hj2 : (LL.length : Int) ≤ (scap : Int) := by omega
  have hj3 : (j : Int) ≤ (scap : Int) := by omega
  clear hla hlb hca hAq hcb hBq HCA HCB HPA HALL
  by_cases hcj : scap = j
  · have hcq := hcj.symm
    clear hcj
    subst hcq
    have HHJ : Hid (∀ W, Below w1.heap.size w1 W → StkSl W (.slice (some ⟨sg, 0, none⟩) 0 0) (LL.drop j)) := fun W hW => by
      have e : j - j = 0 := by omega
      have e2 : LL.length - j = 0 := by omega
      have h2 := (HHI.out W hW).1 rfl
      rw [e2] at h2
      rw [e] at h2
      exact h2
    clear HHI
    have HK := squashAll_impl _ (LL.take j) x y w10 (HLO.out _ b10) (by omega) HSA.out.1 (HTT.out _ b10)
    rw [ECA.out, EA.out] at HK
    go_wp2_with fail
    refine HK.mono ?_
    rintro e w11 ⟨q1, rfl, hb11, hq1⟩
    clear HK
    have b11 := b10.trans (hb11.mono b10.size)
    replace hs2 := hs2.below hb11
    obtain ⟨q1A, q1c, rfl⟩ := hq1.form
    have HK := squashAll_impl _ (LL.drop j) x y w11 (HHJ.out _ b11) (by omega) HSB.out.1 (HTT.out _ b11)
    rw [ECB.out, EB.out] at HK
    go_wp2_with fail
    refine HK.mono ?_
    rintro e w12 ⟨q2, rfl, hb12, hq2⟩
    clear HK
    have b12 := b11.trans (hb12.mono b11.size)
    replace hs2 := hs2.below hb12
    replace hq1 := hq1.below hb12
    obtain ⟨q2A, q2c, rfl⟩ := hq2.form
    have HK := squashAll_spec _ (LL.take j) w12 (HLO.out _ b12) (by omega) HSA.out.2
    rw [ECA.out, EA.out] at HK
    go_wp2_with fail
    refine HK.mono ?_
    rintro e w13 ⟨q3, rfl, hb13, hq3⟩
    clear HK
    have b13 := b12.trans (hb13.mono b12.size)
    replace hs2 := hs2.below hb13
    replace hq1 := hq1.below hb13
    replace hq2 := hq2.below hb13
    obtain ⟨q3A, q3c, rfl⟩ := hq3.form
    have HK := squashAll_spec _ (LL.drop j) w13 (HHJ.out _ b13) (by omega) HSB.out.2
    rw [ECB.out, EB.out] at HK
    go_wp2_with fail
    refine HK.mono ?_
    rintro e w14 ⟨q4, rfl, hb14, hq4⟩
    clear HK
    have b14 := b13.trans (hb14.mono b13.size)
    replace hs2 := hs2.below hb14
    replace hq1 := hq1.below hb14
    replace hq2 := hq2.below hb14
    replace hq3 := hq3.below hb14
    obtain ⟨q4A, q4c, rfl⟩ := hq4.form
    have HK := sameRecords_any _ _ Aq Aq w14 hq1.sl hq3.sl hal
    rw [decide_eq_true rfl] at HK
    go_wp2_with fail
    refine HK.mono ?_
    rintro e w15 ⟨rfl, n15, hw15⟩
    clear HK
    have hb15 : Below w14.heap.size w14 w15 := by rw [hw15]; exact below_drewN (Below.refl _ _) n15
    clear hw15
    have b15 := b14.trans (hb15.mono b14.size)
    replace hs2 := hs2.below hb15
    replace hq1 := hq1.below hb15
    replace hq2 := hq2.below hb15
    replace hq3 := hq3.below hb15
    replace hq4 := hq4.below hb15
    have HK := sameRecords_any _ _ Bq Bq w15 hq2.sl hq4.sl hbl
    rw [decide_eq_true rfl] at HK
    go_wp2_with fail
    refine HK.mono ?_
    rintro e w16 ⟨rfl, n16, hw16⟩
    clear HK
    have hb16 : Below w15.heap.size w15 w16 := by rw [hw16]; exact below_drewN (Below.refl _ _) n16
    clear hw16
    have b16 := b15.trans (hb16.mono b15.size)
    replace hs2 := hs2.below hb16
    replace hq1 := hq1.below hb16
    replace hq2 := hq2.below hb16
    replace hq3 := hq3.below hb16
    replace hq4 := hq4.below hb16
    clear hq3 hq4
    rcases HABC.out with rfl | ⟨rfl, rfl⟩ | ⟨rfl, rfl, hla, hlb, hs1, hs2⟩
    · as_aux_lemma =>
        go_wp2_with fail
        go_ret
        exact ⟨rfl, hb1.trans (b16.mono hb1.size)⟩
    · as_aux_lemma =>
        go_wp2_with fail
        go_ret
        exact ⟨rfl, hb1.trans (b16.mono hb1.size)⟩
    · as_aux_lemma =>
        have HS1 := Lib.hid hs1
        have HS2 := Lib.hid hs2
        have ha16 := layer_len hla
        have hb16 := layer_len hlb
        have HAP := Lib.hid (short_row (layer_is hla).path)
        have HBP := Lib.hid (short_row (layer_is hlb).path)
        clear hla hlb hs1 hs2 HABC
        have HK := squash_impl _ _ Aq Bq x y w16 hq1.sl hq2.sl (by omega) (by omega) HAP.out HBP.out (HTT.out _ b16)
        rw [HS1.out, HS2.out] at HK
        have hsce : (sc == sc) = true := by simp
        go_wp2_with fail
        refine HK.mono ?_
        rintro e w17 ⟨u1, rfl, hb17, hu1⟩
        clear HK
        have b17 := b16.trans (hb17.mono b16.size)
        replace hs2 := hs2.below hb17
        replace hq1 := hq1.below hb17
        replace hq2 := hq2.below hb17
        obtain ⟨u1A, u1c, rfl⟩ := hu1.form
        have HK := sameRecords_any _ _ S S w17 hu1.sl hs2.sl hsl
        rw [decide_eq_true rfl] at HK
        go_wp2_with fail
        refine HK.mono ?_
        rintro e w18 ⟨rfl, n18, hw18⟩
        clear HK
        have hb18 : Below w17.heap.size w17 w18 := by rw [hw18]; exact below_drewN (Below.refl _ _) n18
        clear hw18
        have b18 := b17.trans (hb18.mono b17.size)
        replace hs2 := hs2.below hb18
        replace hq1 := hq1.below hb18
        replace hq2 := hq2.below hb18
        replace hu1 := hu1.below hb18
        go_wp2_with fail
        go_ret
        exact ⟨rfl, hb1.trans (b18.mono hb1.size)⟩
  · have HHJ : Hid (∀ W, Below w1.heap.size w1 W → StkSl W (.slice (some ⟨sg, j, none⟩) (LL.length - j) (scap - j)) (LL.drop j)) := fun W hW => (HHI.out W hW).2 hcj
    have HCJ := Lib.hid hcj
    clear hcj HHI
    have HK := squashAll_impl _ (LL.take j) x y w10 (HLO.out _ b10) (by omega) HSA.out.1 (HTT.out _ b10)
    rw [ECA.out, EA.out] at HK
    go_wp2_with fail
    refine HK.mono ?_
    rintro e w11 ⟨q1, rfl, hb11, hq1⟩
    clear HK
    have b11 := b10.trans (hb11.mono b10.size)
    replace hs2 := hs2.below hb11
    obtain ⟨q1A, q1c, rfl⟩ := hq1.form
    have HK := squashAll_impl _ (LL.drop j) x y w11 (HHJ.out _ b11) (by omega) HSB.out.1 (HTT.out _ b11)
    rw [ECB.out, EB.out] at HK
    go_wp2_with fail
    refine HK.mono ?_
    rintro e w12 ⟨q2, rfl, hb12, hq2⟩
    clear HK
    have b12 := b11.trans (hb12.mono b11.size)
    replace hs2 := hs2.below hb12
    replace hq1 := hq1.below hb12
    obtain ⟨q2A, q2c, rfl⟩ := hq2.form
    have HK := squashAll_spec _ (LL.take j) w12 (HLO.out _ b12) (by omega) HSA.out.2
    rw [ECA.out, EA.out] at HK
    go_wp2_with fail
    refine HK.mono ?_
    rintro e w13 ⟨q3, rfl, hb13, hq3⟩
    clear HK
    have b13 := b12.trans (hb13.mono b12.size)
    replace hs2 := hs2.below hb13
    replace hq1 := hq1.below hb13
    replace hq2 := hq2.below hb13
    obtain ⟨q3A, q3c, rfl⟩ := hq3.form
    have HK := squashAll_spec _ (LL.drop j) w13 (HHJ.out _ b13) (by omega) HSB.out.2
    rw [ECB.out, EB.out] at HK
    go_wp2_with fail
    refine HK.mono ?_
    rintro e w14 ⟨q4, rfl, hb14, hq4⟩
    clear HK
    have b14 := b13.trans (hb14.mono b13.size)
    replace hs2 := hs2.below hb14
    replace hq1 := hq1.below hb14
    replace hq2 := hq2.below hb14
    replace hq3 := hq3.below hb14
    obtain ⟨q4A, q4c, rfl⟩ := hq4.form
    have HK := sameRecords_any _ _ Aq Aq w14 hq1.sl hq3.sl hal
    rw [decide_eq_true rfl] at HK
    go_wp2_with fail
    refine HK.mono ?_
    rintro e w15 ⟨rfl, n15, hw15⟩
    clear HK
    have hb15 : Below w14.heap.size w14 w15 := by rw [hw15]; exact below_drewN (Below.refl _ _) n15
    clear hw15
    have b15 := b14.trans (hb15.mono b14.size)
    replace hs2 := hs2.below hb15
    replace hq1 := hq1.below hb15
    replace hq2 := hq2.below hb15
    replace hq3 := hq3.below hb15
    replace hq4 := hq4.below hb15
    have HK := sameRecords_any _ _ Bq Bq w15 hq2.sl hq4.sl hbl
    rw [decide_eq_true rfl] at HK
    go_wp2_with fail
    refine HK.mono ?_
    rintro e w16 ⟨rfl, n16, hw16⟩
    clear HK
    have hb16 : Below w15.heap.size w15 w16 := by rw [hw16]; exact below_drewN (Below.refl _ _) n16
    clear hw16
    have b16 := b15.trans (hb16.mono b15.size)
    replace hs2 := hs2.below hb16
    replace hq1 := hq1.below hb16
    replace hq2 := hq2.below hb16
    replace hq3 := hq3.below hb16
    replace hq4 := hq4.below hb16
    clear hq3 hq4
    rcases HABC.out with rfl | ⟨rfl, rfl⟩ | ⟨rfl, rfl, hla, hlb, hs1, hs2⟩
    · as_aux_lemma =>
        go_wp2_with fail
        go_ret
        exact ⟨rfl, hb1.trans (b16.mono hb1.size)⟩
    · as_aux_lemma =>
        go_wp2_with fail
        go_ret
        exact ⟨rfl, hb1.trans (b16.mono hb1.size)⟩
    · as_aux_lemma =>
        have HS1 := Lib.hid hs1
        have HS2 := Lib.hid hs2
        have ha16 := layer_len hla
        have hb16 := layer_len hlb
        have HAP := Lib.hid (short_row (layer_is hla).path)
        have HBP := Lib.hid (short_row (layer_is hlb).path)
        clear hla hlb hs1 hs2 HABC
        have HK := squash_impl _ _ Aq Bq x y w16 hq1.sl hq2.sl (by omega) (by omega) HAP.out HBP.out (HTT.out _ b16)
        rw [HS1.out, HS2.out] at HK
        have hsce : (sc == sc) = true := by simp
        go_wp2_with fail
        refine HK.mono ?_
        rintro e w17 ⟨u1, rfl, hb17, hu1⟩
        clear HK
        have b17 := b16.trans (hb17.mono b16.size)
        replace hs2 := hs2.below hb17
        replace hq1 := hq1.below hb17
        replace hq2 := hq2.below hb17
        obtain ⟨u1A, u1c, rfl⟩ := hu1.form
        have HK := sameRecords_any _ _ S S w17 hu1.sl hs2.sl hsl
        rw [decide_eq_true rfl] at HK
        go_wp2_with fail
        refine HK.mono ?_
        rintro e w18 ⟨rfl, n18, hw18⟩
        clear HK
        have hb18 : Below w17.heap.size w17 w18 := by rw [hw18]; exact below_drewN (Below.refl _ _) n18
        clear hw18
        have b18 := b17.trans (hb18.mono b17.size)
        replace hs2 := hs2.below hb18
        replace hq1 := hq1.below hb18
        replace hq2 := hq2.below hb18
        replace hu1 := hu1.below hb18
        go_wp2_with fail
        go_ret
        exact ⟨rfl, hb1.trans (b18.mono hb1.size)⟩

theorem walk (a0 : Option Addr) (len0 cap0 : Nat) (z0 : List Int) (a1 : Option Addr) (len1 cap1 : Nat) (z1 : List Int) (w : World) (r0 : IsRow .u8 w a0 len0 cap0 z0) (r1 : IsRow .u8 w a1 len1 cap1 z1) (hT : ∃ x y, Three w x y) :
    Calls Tryz.prog 5 #[.slice a0 len0 cap0, .slice a1 len1 cap1] w fun e w' => e = .returned (.bool true) ∧ Below w.heap.size w w' := by
  obtain ⟨x, y, hT⟩ := hT
  by_cases h0 : len0 ≤ 1048576
  · by_cases h1 : len1 ≤ 1048576
    · obtain ⟨v0, c0, _⟩ := r0.vals h0
      obtain ⟨v1, c1, n1⟩ := r1.vals h1
      exact walk_small a0 len0 cap0 a1 len1 cap1 _ w v0.byts c0 h0 v1 c1 h1 x y hT
    · have hd0 : decide ((1048576 : Int) < (len0 : Int)) = false := by simp; omega
      have hd1 : decide ((1048576 : Int) < (len1 : Int)) = true := by simp; omega
      clear r0 r1
      go_enter Tryz.func5, Tryz.ntmps5
      go_wp2_with fail
      go_ret
      exact ⟨rfl, Below.refl _ _⟩
  · have hd0 : decide ((1048576 : Int) < (len0 : Int)) = true := by simp; omega
    clear r0 r1
    go_enter Tryz.func5, Tryz.ntmps5
    go_wp2_with fail
    go_ret
    exact ⟨rfl, Below.refl _ _⟩
end Go.Proofs.YtibekkfbpmloiabGreatDoor.LawFnOrder0
