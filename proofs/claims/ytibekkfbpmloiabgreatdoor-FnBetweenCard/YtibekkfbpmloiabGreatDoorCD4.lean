/- Parts of several texts of mine in one file (each begins with its own remark). -/
import Derived.Test.YtibekkfbpmloiabGreatDoorCA10
import Derived.Test.YtibekkfbpmloiabGreatDoorCA11
import Derived.Test.YtibekkfbpmloiabGreatDoorCA13
import Derived.Test.YtibekkfbpmloiabGreatDoorCA14
import Derived.Test.YtibekkfbpmloiabGreatDoorCA15
import Derived.Test.YtibekkfbpmloiabGreatDoorCA16
import Derived.Test.YtibekkfbpmloiabGreatDoorCA17
import Derived.Test.YtibekkfbpmloiabGreatDoorCA2
import Derived.Test.YtibekkfbpmloiabGreatDoorCA20
import Derived.Test.YtibekkfbpmloiabGreatDoorCA21
import Derived.Test.YtibekkfbpmloiabGreatDoorCA22
import Derived.Test.YtibekkfbpmloiabGreatDoorCA3
import Derived.Test.YtibekkfbpmloiabGreatDoorCA4
import Derived.Test.YtibekkfbpmloiabGreatDoorCA5
import Derived.Test.YtibekkfbpmloiabGreatDoorCA6
import Derived.Test.YtibekkfbpmloiabGreatDoorCA7
import Derived.Test.YtibekkfbpmloiabGreatDoorCA9
import Derived.Test.YtibekkfbpmloiabGreatDoorCB1
import Derived.Test.YtibekkfbpmloiabGreatDoorCC10
import Derived.Test.YtibekkfbpmloiabGreatDoorCC11
import Derived.Test.YtibekkfbpmloiabGreatDoorCC13
import Derived.Test.YtibekkfbpmloiabGreatDoorCC14
import Derived.Test.YtibekkfbpmloiabGreatDoorCC15
import Derived.Test.YtibekkfbpmloiabGreatDoorCC17
import Derived.Test.YtibekkfbpmloiabGreatDoorCC7
import Derived.Test.YtibekkfbpmloiabGreatDoorCC8
import Derived.Test.YtibekkfbpmloiabGreatDoorCC9
import Derived.Test.YtibekkfbpmloiabGreatDoorCD1
import Derived.Test.YtibekkfbpmloiabGreatDoorCD2
import Derived.Test.YtibekkfbpmloiabGreatDoorCD3
import Derived.Test.YtibekkfbpmloiabGreatDoorCards
import Derived.Test.YtibekkfbpmloiabGreatDoorTie
import Derived.Test.YtibekkfbpmloiabGreatDoorShelf2
import Derived.Test.YtibekkfbpmloiabGreatDoorChecked
import Derived.Test.YtibekkfbpmloiabGreatDoorShelf
import Derived.Test.YtibekkfbpmloiabGreatDoorRows
import Derived.Test.YtibekkfbpmloiabGreatDoorProg
import Derived.Deep.Cut
import Derived.Deep.CutRange
import Derived.Deep.RegionHeld3
import Derived.WalkKit
import Derived.ProofKit
import Derived.OpenShut
import Derived.ShutString
import Derived.ChangeOld
import Derived.ChangeVars
import Derived.OpenVars
import Derived.Below
import Derived.Lay
import Derived.LaidMore
import Derived.Stop.Joined
import Derived.SevenTiedAt
import Derived.Deep.DeepHandedRow
import Derived.Lib.LaidTab
import Derived.Shelf.SlSortCmp.NoneTotal
import Derived.Sort.OwnSorted
import Derived.RangeFuncNested
import Derived.RangeFuncBound
import Derived.RangeFuncCalls
import Derived.RangeFuncLeaves
import Derived.RangeFuncBox
import Derived.Shelf.Abstract
import Derived.Shelf.RegionOpen
import Derived.OwnWalkIn
import Derived.TacticsInMore
import Derived.LoopNIn
import Derived.LoopIn
import Derived.Maps.OwnIn
import Derived.Maps.AppendAt
import Derived.Sort.MapsRangeIn
import Derived.Sort.KeysCollected
import Derived.Laws.IdiomRangeMap
import Derived.StillTailTactics
import Derived.Deep.Slices
import Derived.ChangeArms
import Derived.WideShapes
import Derived.BigQuiet
import Derived.Deep.QuietTactic
import Derived.Deep.Draws
import Derived.Deep.LoopGhost
import Derived.WalkSpells
import Derived.WalkSmall
import Derived.Lib.OthersKept
import Derived.Lib.Hide
import Derived.Lib.Strings
import Derived.Maps.RangeWalk
import Derived.Maps.Ext
import Derived.Lib.SlMapFilter
import Derived.Laws.OwnMore
import Derived.BigRegion
import Derived.Lib.Join
import Derived.Laws.BytesArg
import Derived.WalkLawsBesides
import Derived.Deep.RegionWith
import Derived.OneCell
import Derived.Lib.SliceRun
import Derived.Lib.Overlaps
import Derived.Lib.AppendZerosOnto
import Derived.Laws.NewBlocks
import Derived.Laws.IdiomCopy
import Derived.Deep.RegionLaw
import Derived.LaidEql
import Derived.Stop.Asserts
import Derived.Stop.LaidErr
import Derived.Stop.LaidTwo
import Derived.Deep.CutBlock
import Derived.Sort.Grow
import Derived.Deep.AppendLies
import Derived.Laws.EntriesVeiled
import Derived.Laws.AppendOwnNone
import Derived.RegionTactic
import Derived.IntWalk
/- For all two slices of bytes, FnBetween answers true. Conditions: the table of kinds and the two sentinels hold what their own initialisers lay (tied to the program's text by the given tie). -/
namespace Go.Proofs.YtibekkfbpmloiabGreatDoor.LawFnBetween0
open Go.ChangeShapes Go.WideShapes Go.ChangeAt Go.RowKit
open Go.ChangeMaps (open_string shut_string)
open Recs Paths Draw
set_option linter.unusedVariables false
set_option maxRecDepth 100000

theorem tch_size {A B : List R} : (tchR A B).length ≤ 1048576 := tch_len A B

set_option maxHeartbeats 16000000 in
theorem walk_small (a0 : Option Addr) (len0 cap0 : Nat) (a1 : Option Addr) (len1 cap1 : Nat) (f1 : Nat → Nat) (w : World) (B0 : Byts w w.heap.size a0 len0) (c0 : len0 ≤ cap0) (h0 : len0 ≤ 1048576) (V1 : Vals w a1 len1 f1) (c1 : len1 ≤ cap1) (h1 : len1 ≤ 1048576) (x y : Addr) (hT : Three w x y) :
    Calls Tryz.prog 3 #[.slice a0 len0 cap0, .slice a1 len1 cap1] w fun e w' => e = .returned (.bool true) ∧ Below w.heap.size w w' := by
  have HB0 := Lib.hid B0
  have HV1 := Lib.hid V1
  have HT := Lib.hid hT
  have hd0 : decide ((1048576 : Int) < (len0 : Int)) = false := by simp; omega
  have hd1 : decide ((1048576 : Int) < (len1 : Int)) = false := by simp; omega
  clear B0 V1 hT
  go_enter Tryz.func3, Tryz.ntmps3
  go_wp2_with fail
  refine (treeDrawn_any w a0 len0 cap0 HB0.out c0).mono ?_
  rintro e w1 ⟨v, a, rfl, hta, hoa, hb1, hra, _, _⟩
  obtain ⟨vA, vcap, rfl⟩ := own_form hra.2.1
  have HTA := Lib.hid hta
  have HOA := Lib.hid hoa
  have HRA := Lib.hid hra
  have HTD := treeDrawn_any w1 a1 len1 cap1 (HV1.out.below hb1).byts c1
  clear hta hoa hra
  go_wp2_with fail
  refine HTD.mono ?_
  rintro e w2 ⟨u, b, rfl, htb, hob, hb2, hrb, _, _⟩
  obtain ⟨uA, ucap, rfl⟩ := own_form hrb.2.1
  have c2 := hb1.trans (hb2.mono hb1.size)
  have HTB := Lib.hid htb
  have HOB := Lib.hid hob
  have HRB := Lib.hid hrb
  have HLD := layerDrawn_any w2 a1 len1 cap1 (HV1.out.below c2).byts c1
  clear htb hob hrb HTD
  go_wp2_with fail
  refine HLD.mono ?_
  rintro e w3 ⟨q, g, rfl, hog, hb3, hrg, _⟩
  obtain ⟨qA, qcap, rfl⟩ := hrg.form
  have c3 := c2.trans (hb3.mono c2.size)
  have HOG := Lib.hid hog
  have HRG := Lib.hid hrg
  have hg16 := layer_len hog
  have ha24 := HTA.out.len
  have hb24 := HTB.out.len
  have HPC := Lib.hid (app_cases HOG.out HTA.out HOA.out)
  have HAS := apply_spec _ _ g a _ w3 HRG.out.sl ((HRA.out.below hb2).below hb3) (by omega) (by omega)
  have hal := app_len g a (by omega)
  obtain ⟨ac, hac⟩ : ∃ ac, appC g a = ac := ⟨_, rfl⟩
  obtain ⟨X, hX⟩ : ∃ X, appR g a = X := ⟨_, rfl⟩
  rw [hac, hX] at HAS
  rw [hX] at hal
  have HPC2 : Hid ((ac = 7 ∧ X = []) ∨ (ac = 0 ∧ Tree X ∧ ∀ r ∈ X, r.o = false)) := by
    rcases HPC.out with ⟨h1, h2⟩ | ⟨h1, h2, h3, h4⟩
    · exact .inl ⟨hac.symm.trans h1, hX.symm.trans h2⟩
    · refine .inr ⟨hac.symm.trans h1, ?_, ?_⟩
      · rw [← hX, h2]; exact h3
      · rw [← hX, h2]; exact h4
  clear hog hrg HLD hac hX HPC
  go_wp2_with fail
  refine HAS.mono ?_
  rintro e w4 ⟨z, rfl, hb4, hz⟩
  obtain ⟨zA, zcap, rfl⟩ := own_form hz.2.1
  have HZ := Lib.hid hz
  have c4 := c3.trans (hb4.mono c3.size)
  have HAT := at_all w4 a1 len1 cap1 f1 0 2 (HV1.out.below c4) (by omega) (by omega)
  generalize atK f1 len1 0 2 = J at *
  have HRA4 : Hid (∀ W, Below w4.heap.size w4 W → RowN W w.heap.size (.slice vA a.length vcap) a.length a) := fun W hW => (((HRA.out.below hb2).below hb3).below hb4).below hW
  have HRB4 : Hid (∀ W, Below w4.heap.size w4 W → RowN W w1.heap.size (.slice uA b.length ucap) b.length b) := fun W hW => ((HRB.out.below hb3).below hb4).below hW
  have HRX4 : Hid (∀ W, Below w4.heap.size w4 W → RowN W w3.heap.size (.slice zA X.length zcap) X.length X) := fun W hW => HZ.out.below hW
  have HTT : Hid (∀ W, Below w4.heap.size w4 W → Three W x y) := fun W hW => HT.out.below (c4.trans (hW.mono c4.size)) (Nat.le_refl _)
  have b4 := Below.refl w4.heap.size w4
  clear hz HAS HRA HRB HRG HZ HT HB0 HV1
  go_upto_region 6 with (fail)
  go_cut [50] from 44 (fun s wx => ∃ q : Bool, s = .bool q ∧ Hid (q = true → Tree X ∧ ∀ r ∈ X, r.o = false) ∧ Hid (Below w4.heap.size w4 wx))
  case first =>
    as_aux_lemma =>
      rcases HPC2.out with ⟨rfl, rfl⟩ | ⟨rfl, hx1, hx2⟩
      · go_wp2_with fail
        go_meet
        exact ⟨false, rfl, fun h => (by cases h), b4⟩
      · have HX1 := Lib.hid hx1
        have HX2 := Lib.hid hx2
        clear hx1 hx2
        by_cases hJ : J = 0
        · have q0 : (J == 0) = true := by simpa using hJ
          clear hJ
          go_wp2_with fail
          refine HAT.mono ?_
          rintro e w5 ⟨rfl, n5, hw5⟩
          have b5 : Below w4.heap.size w4 w5 := by rw [hw5]; exact below_drewN (Below.refl _ _) n5
          clear hw5 HAT
          go_wp2_with fail
          go_meet
          exact ⟨true, rfl, fun _ => ⟨HX1.out, HX2.out⟩, b5⟩
        · have q0 : (J == 0) = false := by simpa using hJ
          clear hJ
          go_wp2_with fail
          refine HAT.mono ?_
          rintro e w5 ⟨rfl, n5, hw5⟩
          have b5 : Below w4.heap.size w4 w5 := by rw [hw5]; exact below_drewN (Below.refl _ _) n5
          clear hw5 HAT
          go_wp2_with fail
          go_meet
          exact ⟨false, rfl, fun h => (by cases h), b5⟩
  case rest =>
    as_aux_lemma =>
     obtain ⟨q, rfl, HQX, HB45⟩ := hcut
     generalize hwq : wc = w45 at *
     clear hwq HPC2 HAT
     go_upto_if 50 with (fail)
     go_cut [6] from 51 (fun s wx => ∃ (B : List R) (base : Nat), Tree B ∧ (∀ r ∈ B, r.o = false) ∧ RowN wx base s B.length B ∧ Hid (Below w4.heap.size w4 wx))
     case first =>
       as_aux_lemma =>
        cases q with
        | true =>
          go_wp2_with fail
          go_meet
          exact ⟨X, w3.heap.size, (HQX.out (by trivial)).1, (HQX.out (by trivial)).2, HRX4.out _ HB45.out, HB45.out⟩
        | false =>
          go_wp2_with fail
          go_meet
          exact ⟨b, w1.heap.size, HTB.out, HOB.out, HRB4.out _ HB45.out, HB45.out⟩
     case rest =>
       as_aux_lemma =>
        rename_i sB
        obtain ⟨B, base, htB, hoB, hrB, HB5⟩ := hcut
        generalize hwq : wc = w5 at *
        clear hwq HRX4 HQX HB45
        have b5 := HB5.out
        obtain ⟨sA, scap, rfl⟩ := own_form hrB.2.1
        have HTX := Lib.hid htB
        have HOX := Lib.hid hoB
        have hB24 := htB.len
        have HRX : Hid (∀ W, Below w5.heap.size w5 W → RowN W base (.slice sA B.length scap) B.length B) := fun W hW => hrB.below hW
        have HRA5 : Hid (∀ W, Below w5.heap.size w5 W → RowN W w.heap.size (.slice vA a.length vcap) a.length a) := fun W hW => HRA4.out W (b5.trans (hW.mono b5.size))
        have HT5 : Hid (∀ W, Below w5.heap.size w5 W → Three W x y) := fun W hW => HTT.out W (b5.trans (hW.mono b5.size))
        have c5 := c4.trans (b5.mono c4.size)
        have HAP := Lib.hid (Recs.short_path HTA.out.is.path)
        have HBP := Lib.hid (Recs.short_path HTX.out.is.path)
        have hnn := nn_trees HTA.out HTX.out
        have HNN := Lib.hid hnn
        have HSELF := Lib.hid (between_self HTA.out)
        have HTN := Lib.hid (touched_none HTA.out HTX.out)
        have htl := tch_size (A := a) (B := B)
        have hlbl := lb_len a B
        obtain ⟨lc, hlc⟩ : ∃ lc, lbC a B = lc := ⟨_, rfl⟩
        obtain ⟨L, hL⟩ : ∃ L, lbR a B = L := ⟨_, rfl⟩
        obtain ⟨TT, hTT⟩ : ∃ TT, tchR a B = TT := ⟨_, rfl⟩
        obtain ⟨D, hD⟩ : ∃ D, decide (a = B) = D := ⟨_, rfl⟩
        have HLC : Hid ((lc = 6 ∧ L = []) ∨ (lc = 0 ∧ layerOK L = true ∧ isCan L = true ∧ appC L a = 0 ∧ appR L a = B ∧ codeL L = 0)) := by
          by_cases h16 : 16 < (betP a B).length
          · obtain ⟨h1, h2⟩ := between_many HTA.out HTX.out h16
            exact .inl ⟨hlc.symm.trans h1, hL.symm.trans h2⟩
          · obtain ⟨k1, k2, k3, k4, k5, k6, k7⟩ := between_facts HTA.out HTX.out HOX.out h16
            have e : L = betP a B := hL.symm.trans k2
            rw [e]
            exact .inr ⟨hlc.symm.trans k1, k3, k4, k5, k6, k7⟩
        rw [hTT] at htl
        rw [hL] at hlbl
        have HTD2 : (((TT.length : Nat) : Int) == 0) = D := by rw [← hTT, HTN.out, hD]
        have ELC := Lib.hid hlc
        have EL := Lib.hid hL
        have ETT := Lib.hid hTT
        have ED := Lib.hid hD
        have htm : TT.length ≤ maxLen := by unfold maxLen; omega
        have hlcc : (lc != lc) = false := by simp
        have hDD : (D != D) = false := by simp
        clear htB hoB hrB HB5 hnn hlc hL hTT hD HTN HRA4 HRB4 HTT
        have bb5 := Below.refl w5.heap.size w5
        have HK := LayerBetween_impl _ _ a B x y w5 (HRA5.out _ bb5).sl (HRX.out _ bb5).sl (by omega) (by omega) HAP.out HBP.out (HT5.out _ bb5)
        rw [ELC.out, EL.out] at HK
        go_wp2_with fail
        refine HK.mono ?_
        rintro e w6 ⟨s1, rfl, hb6, hs1⟩
        clear HK
        have b6 := bb5.trans (hb6.mono bb5.size)
        obtain ⟨s1A, s1c, rfl⟩ := hs1.form
        have HK := LayerBetween_spec _ _ a B w6 (HRA5.out _ b6).sl (HRX.out _ b6).sl (by omega) (by omega)
        rw [ELC.out, EL.out] at HK
        go_wp2_with fail
        refine HK.mono ?_
        rintro e w7 ⟨s2, rfl, hb7, hs2⟩
        clear HK
        have b7 := b6.trans (hb7.mono b6.size)
        replace hs1 := hs1.below hb7
        obtain ⟨s2A, s2c, rfl⟩ := hs2.form
        have HK := LayerBetween_impl _ _ a a x y w7 (HRA5.out _ b7).sl (HRA5.out _ b7).sl (by omega) (by omega) HAP.out HAP.out (HT5.out _ b7)
        rw [HSELF.out.1, HSELF.out.2] at HK
        go_wp2_with fail
        refine HK.mono ?_
        rintro e w8 ⟨s3, rfl, hb8, hs3⟩
        clear HK
        have b8 := b7.trans (hb8.mono b7.size)
        replace hs1 := hs1.below hb8
        replace hs2 := hs2.below hb8
        obtain ⟨s3A, s3c, rfl⟩ := hs3.form
        clear hs3
        have HK := touched_impl _ _ a B x y w8 (HRA5.out _ b8).sl (HRX.out _ b8).sl (by omega) (by omega) HAP.out HBP.out (HT5.out _ b8)
        rw [HNN.out, ETT.out] at HK
        go_wp2_with fail
        refine HK.mono ?_
        rintro e w9 ⟨d1, rfl, hb9, hd1⟩
        clear HK
        have b9 := b8.trans (hb9.mono b8.size)
        replace hs1 := hs1.below hb9
        replace hs2 := hs2.below hb9
        obtain ⟨d1A, d1c, rfl⟩ := own_form hd1
        have HK := touched_spec _ _ a B w9 (HRA5.out _ b9).sl (HRX.out _ b9).sl (by omega) (by omega)
        rw [HNN.out, ETT.out] at HK
        go_wp2_with fail
        refine HK.mono ?_
        rintro e w10 ⟨d2, rfl, hb10, hd2⟩
        clear HK
        have b10 := b9.trans (hb10.mono b9.size)
        replace hs1 := hs1.below hb10
        replace hs2 := hs2.below hb10
        replace hd1 := own_below hd1 hb10
        obtain ⟨d2A, d2c, rfl⟩ := own_form hd2
        have HK := sameRecords_any _ _ L L w10 hs1.sl hs2.sl hlbl
        rw [decide_eq_true rfl] at HK
        go_wp2_with fail
        refine HK.mono ?_
        rintro e w11 ⟨rfl, n11, hw11⟩
        clear HK
        have hb11 : Below w10.heap.size w10 w11 := by rw [hw11]; exact below_drewN (Below.refl _ _) n11
        clear hw11
        have b11 := b10.trans (hb11.mono b10.size)
        replace hs1 := hs1.below hb11
        replace hs2 := hs2.below hb11
        replace hd1 := own_below hd1 hb11
        replace hd2 := own_below hd2 hb11
        have HK := sameTexts_any _ _ TT TT w11 (Strs.own hd1) (Strs.own hd2) htm
        rw [decide_eq_true rfl] at HK
        go_wp2_with fail
        refine HK.mono ?_
        rintro e w12 ⟨rfl, n12, hw12⟩
        clear HK
        have hb12 : Below w11.heap.size w11 w12 := by rw [hw12]; exact below_drewN (Below.refl _ _) n12
        clear hw12
        have b12 := b11.trans (hb12.mono b11.size)
        replace hs1 := hs1.below hb12
        replace hs2 := hs2.below hb12
        replace hd1 := own_below hd1 hb12
        replace hd2 := own_below hd2 hb12
        clear hd1 hd2 hs2
        have HK := sameNodes_any _ _ a B w12 (HRA5.out _ b12).sl (HRX.out _ b12).sl (by omega)
        rw [ED.out] at HK
        go_wp2_with fail
        refine HK.mono ?_
        rintro e w13 ⟨rfl, n13, hw13⟩
        clear HK
        have hb13 : Below w12.heap.size w12 w13 := by rw [hw13]; exact below_drewN (Below.refl _ _) n13
        clear hw13
        have b13 := b12.trans (hb13.mono b12.size)
        replace hs1 := hs1.below hb13
        rcases HLC.out with ⟨rfl, rfl⟩ | ⟨rfl, hok, hic, hap1, hap2, hcl⟩
        · as_aux_lemma =>
            go_wp2_with fail
            go_ret
            exact ⟨rfl, c5.trans (b13.mono c5.size)⟩
        · as_aux_lemma =>
            have HOK := Lib.hid hok
            have HIC := Lib.hid hic
            have HA1 := Lib.hid hap1
            have HA2 := Lib.hid hap2
            have HCL := Lib.hid hcl
            have hL16 := layer_len hok
            have HLP := Lib.hid (Recs.short_path (layer_is hok).path)
            have HSZ : Hid (sizC L = (sizN L : Int)) := sizC_ok hcl
            clear hok hic hap1 hap2 hcl HLC
            have HK := apply_impl _ _ L a x y w13 hs1.sl (HRA5.out _ b13).sl (by omega) (by omega) HLP.out HAP.out (HT5.out _ b13)
            rw [HA1.out, HA2.out] at HK
            go_wp2_with fail
            refine HK.mono ?_
            rintro e w14 ⟨z1, rfl, hb14, hz1⟩
            clear HK
            have b14 := b13.trans (hb14.mono b13.size)
            replace hs1 := hs1.below hb14
            obtain ⟨z1A, z1c, rfl⟩ := own_form hz1.2.1
            have HK := sizeOf_impl _ L x y w14 hs1.sl (by omega) HLP.out (HT5.out _ b14)
            rw [HCL.out, HSZ.out] at HK
            go_wp2_with fail
            refine HK.mono ?_
            rintro e w15 ⟨rfl, hb15⟩
            clear HK
            have b15 := b14.trans (hb15.mono b14.size)
            replace hs1 := hs1.below hb15
            replace hz1 := hz1.below hb15
            have HK := sizeOf_spec _ L w15 hs1.sl (by omega)
            rw [HCL.out, HSZ.out] at HK
            go_wp2_with fail
            refine HK.mono ?_
            rintro e w16 ⟨rfl, hb16⟩
            clear HK
            have b16 := b15.trans (hb16.mono b15.size)
            replace hs1 := hs1.below hb16
            replace hz1 := hz1.below hb16
            have HK := sameNodes_any _ _ B B w16 hz1.sl (HRX.out _ b16).sl (by omega)
            rw [decide_eq_true rfl] at HK
            go_wp2_with fail
            refine HK.mono ?_
            rintro e w17 ⟨rfl, n17, hw17⟩
            clear HK
            have hb17 : Below w16.heap.size w16 w17 := by rw [hw17]; exact below_drewN (Below.refl _ _) n17
            clear hw17
            have b17 := b16.trans (hb17.mono b16.size)
            replace hs1 := hs1.below hb17
            replace hz1 := hz1.below hb17
            have HK := layerOK_impl _ L x w17 hs1.sl (by omega) HLP.out (HT5.out _ b17).tab (HT5.out _ b17).long
            rw [HOK.out, decide_eq_true (show L.length ≤ 4096 by omega)] at HK
            go_wp2_with fail
            refine HK.mono ?_
            rintro e w18 ⟨rfl, hb18⟩
            clear HK
            have b18 := b17.trans (hb18.mono b17.size)
            replace hs1 := hs1.below hb18
            replace hz1 := hz1.below hb18
            have HK := isCanonical_impl _ L x y w18 hs1.sl (by omega) HLP.out (HT5.out _ b18)
            rw [HIC.out] at HK
            go_wp2_with fail
            refine HK.mono ?_
            rintro e w19 ⟨rfl, hb19⟩
            clear HK
            have b19 := b18.trans (hb19.mono b18.size)
            replace hs1 := hs1.below hb19
            replace hz1 := hz1.below hb19
            go_wp2_with fail
            go_ret
            exact ⟨rfl, c5.trans (b19.mono c5.size)⟩

theorem walk (a0 : Option Addr) (len0 cap0 : Nat) (z0 : List Int) (a1 : Option Addr) (len1 cap1 : Nat) (z1 : List Int) (w : World) (r0 : IsRow .u8 w a0 len0 cap0 z0) (r1 : IsRow .u8 w a1 len1 cap1 z1) (hT : ∃ x y, Three w x y) :
    Calls Tryz.prog 3 #[.slice a0 len0 cap0, .slice a1 len1 cap1] w fun e w' => e = .returned (.bool true) ∧ Below w.heap.size w w' := by
  obtain ⟨x, y, hT⟩ := hT
  by_cases h0 : len0 ≤ 1048576
  · by_cases h1 : len1 ≤ 1048576
    · obtain ⟨v0, c0, _⟩ := r0.vals h0
      obtain ⟨v1, c1, n1⟩ := r1.vals h1
      exact walk_small a0 len0 cap0 a1 len1 cap1 _ w v0.byts c0 h0 v1 c1 h1 x y hT
    · have hd0 : decide ((1048576 : Int) < (len0 : Int)) = false := by simp; omega
      have hd1 : decide ((1048576 : Int) < (len1 : Int)) = true := by simp; omega
      clear r0 r1
      go_enter Tryz.func3, Tryz.ntmps3
      go_wp2_with fail
      go_ret
      exact ⟨rfl, Below.refl _ _⟩
  · have hd0 : decide ((1048576 : Int) < (len0 : Int)) = true := by simp; omega
    clear r0 r1
    go_enter Tryz.func3, Tryz.ntmps3
    go_wp2_with fail
    go_ret
    exact ⟨rfl, Below.refl _ _⟩
end Go.Proofs.YtibekkfbpmloiabGreatDoor.LawFnBetween0
