/- Parts of several texts of mine in one file (each begins with its own remark). -/
import Derived.Test.YtcbmnihepeefaaaGreatDoorCA1
import Derived.Test.YtcbmnihepeefaaaGreatDoorCA10
import Derived.Test.YtcbmnihepeefaaaGreatDoorCA2
import Derived.Test.YtcbmnihepeefaaaGreatDoorCA3
import Derived.Test.YtcbmnihepeefaaaGreatDoorCA4
import Derived.Test.YtcbmnihepeefaaaGreatDoorCA5
import Derived.Test.YtcbmnihepeefaaaGreatDoorCA6
import Derived.Test.YtcbmnihepeefaaaGreatDoorCA7
import Derived.Test.YtcbmnihepeefaaaGreatDoorCA8
import Derived.Test.YtcbmnihepeefaaaGreatDoorCA9
import Derived.Test.YtcbmnihepeefaaaGreatDoorCB1
import Derived.Test.YtcbmnihepeefaaaGreatDoorCB12
import Derived.Test.YtcbmnihepeefaaaGreatDoorCB15
import Derived.Test.YtcbmnihepeefaaaGreatDoorCB16
import Derived.Test.YtcbmnihepeefaaaGreatDoorCB17
import Derived.Test.YtcbmnihepeefaaaGreatDoorCB2
import Derived.Test.YtcbmnihepeefaaaGreatDoorCB6
import Derived.Test.YtcbmnihepeefaaaGreatDoorCB8
import Derived.Test.YtcbmnihepeefaaaGreatDoorCC1
import Derived.Test.YtcbmnihepeefaaaGreatDoorCD1
import Derived.Test.YtcbmnihepeefaaaGreatDoorCD2
import Derived.Test.YtcbmnihepeefaaaGreatDoorCF1
import Derived.Test.YtcbmnihepeefaaaGreatDoorCF2
import Derived.Test.YtcbmnihepeefaaaGreatDoorCF3
import Derived.Test.YtcbmnihepeefaaaGreatDoorCards
import Derived.Test.YtcbmnihepeefaaaGreatDoorTie
import Derived.Test.YtcbmnihepeefaaaGreatDoorShelf2
import Derived.Test.YtcbmnihepeefaaaGreatDoorChecked
import Derived.Test.YtcbmnihepeefaaaGreatDoorShelf
import Derived.Test.YtcbmnihepeefaaaGreatDoorRows
import Derived.Test.YtcbmnihepeefaaaGreatDoorProg
import Derived.Deep.Cut
import Derived.Deep.CutRange
import Derived.Deep.RegionHeld3
import Derived.WalkKit
import Derived.ProofKit
import Derived.OpenShut
import Derived.ShutString
import Derived.ChangeOld
import Derived.ChangeVars
import Derived.OpenVars
import Derived.Below
import Derived.Lay
import Derived.LaidMore
import Derived.Stop.Joined
import Derived.SevenTiedAt
import Derived.Deep.DeepHandedRow
import Derived.Lib.LaidTab
import Derived.Shelf.SlSortCmp.NoneTotal
import Derived.Sort.OwnSorted
import Derived.RangeFuncNested
import Derived.RangeFuncBound
import Derived.RangeFuncCalls
import Derived.RangeFuncLeaves
import Derived.RangeFuncBox
import Derived.Shelf.Abstract
import Derived.Shelf.RegionOpen
import Derived.OwnWalkIn
import Derived.TacticsInMore
import Derived.LoopNIn
import Derived.LoopIn
import Derived.Maps.OwnIn
import Derived.Maps.AppendAt
import Derived.Sort.MapsRangeIn
import Derived.Sort.KeysCollected
import Derived.Laws.IdiomRangeMap
import Derived.StillTailTactics
import Derived.Maps.RangeWalk
import Derived.Maps.Ext
import Derived.Lib.SlMapFilter
import Derived.Laws.OwnMore
import Derived.BigQuiet
import Derived.BigRegion
import Derived.Deep.QuietTactic
import Derived.Deep.Slices
import Derived.ChangeArms
import Derived.WideShapes
import Derived.Deep.Draws
import Derived.Deep.LoopGhost
import Derived.WalkSpells
import Derived.WalkSmall
import Derived.Lib.OthersKept
import Derived.Lib.Hide
import Derived.Lib.Strings
import Derived.Lib.Join
import Derived.Laws.BytesArg
import Derived.WalkLawsBesides
import Derived.Deep.RegionWith
import Derived.OneCell
import Derived.Lib.SliceRun
import Derived.Lib.Overlaps
import Derived.Lib.AppendZerosOnto
import Derived.Laws.NewBlocks
import Derived.Laws.IdiomCopy
import Derived.Deep.RegionLaw
import Derived.LaidEql
import Derived.Stop.Asserts
import Derived.Stop.LaidErr
import Derived.Stop.LaidTwo
import Derived.Sort.Grow
import Derived.Deep.AppendLies
import Derived.Laws.EntriesVeiled
import Derived.Laws.AppendOwnNone
import Derived.RegionTactic
import Derived.IntWalk
/- For all two slices of bytes, FnLayers answers true. Conditions: the table of kinds, the two sentinels and the handle of the error type hold what their own initialisers lay (tied to the program's text by the given tie). -/
namespace Go.Proofs.YtcbmnihepeefaaaGreatDoor.LawFnLayers0
open Go.ChangeShapes Go.WideShapes Go.ChangeAt Go.RowKit
open Go.ChangeMaps (open_string shut_string)
open Recs Paths Draw
set_option linter.unusedVariables false
set_option maxRecDepth 100000

theorem byts_wide {w : World} {B B' : Nat} {A : Option Addr} {n : Nat} (h : Byts w B A n) (hB : B ≤ B') : Byts w B' A n := by
  refine ⟨h.1, fun hn => ?_⟩
  obtain ⟨b, off, e, hlt, hc⟩ := h.2 hn
  exact ⟨b, off, e, by omega, hc⟩
theorem short_path {t : List R} (h : ∀ x ∈ t, pathB x.p.data.toList = true) : ∀ r ∈ t, r.p.size ≤ maxLen := fun r hr => by
  have h35 : r.p.size ≤ 35 := by rw [Lib.size_eq]; exact pathB_len (h r hr)
  unfold maxLen
  omega
theorem fine_k {l : List R} (h : layerOK l = true) : checkK l = .fine := by
  have h16 := layer_len h
  have h2 : (layerFaultL l).2 = 0 := by unfold layerOK at h; simpa using h
  unfold checkK
  rw [if_neg (by omega), if_neg (by simpa using h2)]
theorem codeL_fine {l : List R} (h : layerOK l = true) : codeL l = 0 := by
  have h16 := layer_len h
  unfold codeL
  rw [if_neg (by omega), if_pos h]
theorem codeLT_fine {l : List R} (h : layerOK l = true) {q : ByteArray} (hq : q.size ≤ 35) : codeLT l q = 0 := by
  have h16 := layer_len h
  unfold codeLT
  rw [if_neg (by omega), if_pos h]
/-- The canonical form is a layer of its own form. -/
theorem canon_facts {l : List R} (h : layerOK l = true) : layerOK (canonL l) = true ∧ canC l = canonL l ∧ canC (canonL l) = canonL l ∧ isCan (canonL l) = true := by
  have hc := canon_layer h
  have hi := canon_idem (layer_sorted h)
  have h16 := layer_len hc
  refine ⟨hc, canC_ok (codeL_fine h), ?_, ?_⟩
  · rw [canC_ok (codeL_fine hc), hi]
  · unfold isCan okL
    rw [hc, hi]
    simp
    omega
theorem app_same {l t : List R} (h : layerOK l = true) (ht : Tree t) : appC (canonL l) t = appC l t ∧ appR (canonL l) t = appR l t := by
  have h16 := layer_len h
  have hc := canon_layer h
  have h17 := layer_len hc
  have h24 := ht.len
  obtain ⟨e1, e2⟩ := app_fine (ln_fine (by omega) h (treeOK_of ht))
  obtain ⟨e3, e4⟩ := app_fine (ln_fine (by omega) hc (treeOK_of ht))
  rw [e1, e2, e3, e4, apply_canon (layer_sorted h) (layer_is h).path ht.is]
  exact ⟨rfl, rfl⟩
theorem fault_two {B : List R} (h : B.length ≤ 16) : ∃ P Q : Int, faultV B = .tuple #[.int .i64 P, .int .i64 Q] ∧ (decide (B.length ≤ 4096) && layerOK B) = (Q == 0) := by
  refine ⟨(layerFaultL B).1, (layerFaultL B).2, ?_, ?_⟩
  · unfold faultV
    rw [if_neg (by omega)]
  · rw [decide_eq_true (by omega)]
    rfl

set_option maxHeartbeats 8000000 in
theorem walk_small (a0 : Option Addr) (len0 cap0 : Nat) (a1 : Option Addr) (len1 cap1 : Nat) (f1 : Nat → Nat) (w : World) (B0 : Byts w w.heap.size a0 len0) (c0 : len0 ≤ cap0) (h0 : len0 ≤ 1048576) (V1 : Vals w a1 len1 f1) (c1 : len1 ≤ cap1) (h1 : len1 ≤ 1048576) (x y : Addr) (hT : Three w x y) (hE : w.cell? ⟨2, 0, none⟩ = some (Errs.rty 96)) :
    Calls Tryz.prog 4 #[.slice a0 len0 cap0, .slice a1 len1 cap1] w fun e w' => e = .returned (.bool true) ∧ Below w.heap.size w w' := by
  have hel := World.block_lt_of_cell? w _ hE
  have HB0 := Lib.hid B0
  have HV1 := Lib.hid V1
  have HT := Lib.hid hT
  have HE := Lib.hid hE
  have hd0 : decide ((1048576 : Int) < (len0 : Int)) = false := by simp; omega
  have hd1 : decide ((1048576 : Int) < (len1 : Int)) = false := by simp; omega
  clear B0 V1 hT hE
  go_enter Tryz.func4, Tryz.ntmps4
  go_wp2_with fail
  refine (layerDrawn_any w a0 len0 cap0 HB0.out c0).mono ?_
  rintro e w1 ⟨v, l, rfl, hok, hb1, hrl, hnv⟩
  obtain ⟨lg, lcap, rfl⟩ := hrl.atom hnv
  have HOK := Lib.hid hok
  have HRL := Lib.hid hrl
  have HTD := treeDrawn_any w1 a1 len1 cap1 (byts_wide (HV1.out.below hb1).byts (Nat.le_refl _)) c1
  clear hok hrl hnv
  go_wp2_with fail
  refine HTD.mono ?_
  rintro e w2 ⟨u, t, rfl, htr, -, hb2, hrt, -, -⟩
  have c2 := hb1.trans (hb2.mono hb1.size)
  obtain ⟨uA, ucap, rfl⟩ := own_form hrt.2.1
  have HTR := Lib.hid htr
  have HRW : Hid (∀ W, Below w2.heap.size w2 W → RowOf W w.heap.size (.slice (some ⟨lg, 0, none⟩) l.length lcap) l.length l) := fun W hW => (HRL.out.below hb2).below hW
  have HSL : Hid (∀ W, Below w2.heap.size w2 W → RecSl W (.slice (some ⟨lg, 0, none⟩) l.length lcap) l) := fun W hW => (HRW.out W hW).sl
  have HRT : Hid (∀ W, Below w2.heap.size w2 W → RowN W w1.heap.size (.slice uA t.length ucap) t.length t) := fun W hW => hrt.below hW
  have HTT : Hid (∀ W, Below w2.heap.size w2 W → Three W x y) := fun W hW => HT.out.below (c2.trans (hW.mono c2.size)) (Nat.le_refl _)
  have HEE : Hid (∀ W, Below w2.heap.size w2 W → W.cell? ⟨2, 0, none⟩ = some (Errs.rty 96)) := fun W hW => (((c2.trans (hW.mono c2.size)).cell (p := ⟨2, 0, none⟩) hel).trans HE.out)
  have HVV : Hid (∀ W, Below w2.heap.size w2 W → Vals W a1 len1 f1) := fun W hW => HV1.out.below (c2.trans (hW.mono c2.size))
  have hl16 := layer_len HOK.out
  have ht24 := HTR.out.len
  have HLP := Lib.hid (short_path (layer_is HOK.out).path)
  have HTP := Lib.hid (short_path HTR.out.is.path)
  have HCF := Lib.hid (canon_facts HOK.out)
  have hc16 := layer_len HCF.out.1
  have HCP := Lib.hid (short_path (layer_is HCF.out.1).path)
  have HAS := Lib.hid (app_same HOK.out HTR.out)
  have HC0 := Lib.hid (codeL_fine HOK.out)
  have HC1 := Lib.hid (codeL_fine HCF.out.1)
  clear htr hrt HTD HT HE HV1 HB0 HRL
  generalize hC : canonL l = C at *
  have HCE := Lib.hid hC
  clear hC
  have b2 := Below.refl w2.heap.size w2
  have HK := layerFault_impl _ l x y w2 (HSL.out _ b2) (by omega) HLP.out (HTT.out _ b2) (HEE.out _ b2)
  rw [fault_fine (fine_k HOK.out)] at HK
  go_wp2_with fail
  refine HK.mono ?_
  rintro e w3 ⟨rfl, hb3⟩
  clear HK
  have b3 := b2.trans (hb3.mono b2.size)
  have HK := canonical_impl _ l x y w3 (HSL.out _ b3) (by omega) HLP.out (HTT.out _ b3)
  unfold CanPost at HK
  rw [HC0.out, HCF.out.2.1] at HK
  go_wp2_with fail
  refine HK.mono ?_
  rintro e w4 ⟨k1, rfl, hb4, hk1⟩
  clear HK
  have b4 := b3.trans (hb4.mono b3.size)
  obtain ⟨k1A, k1c, rfl⟩ := hk1.form
  have HK := canonical_spec _ l w4 (HSL.out _ b4) (by omega)
  unfold CanPost at HK
  rw [HC0.out, HCF.out.2.1] at HK
  go_wp2_with fail
  refine HK.mono ?_
  rintro e w5 ⟨k2, rfl, hb5, hk2⟩
  clear HK
  have b5 := b4.trans (hb5.mono b4.size)
  replace hk1 := hk1.below hb5
  obtain ⟨k2A, k2c, rfl⟩ := hk2.form
  have HK := canonical_impl _ C x y w5 hk2.sl (by omega) HCP.out (HTT.out _ b5)
  unfold CanPost at HK
  rw [HC1.out, HCF.out.2.2.1] at HK
  go_wp2_with fail
  refine HK.mono ?_
  rintro e w6 ⟨k3, rfl, hb6, hk3⟩
  clear HK
  have b6 := b5.trans (hb6.mono b5.size)
  replace hk1 := hk1.below hb6
  replace hk2 := hk2.below hb6
  obtain ⟨k3A, k3c, rfl⟩ := hk3.form
  have HK := sameRecords_any _ _ C C w6 hk1.sl hk2.sl (by omega)
  rw [decide_eq_true rfl] at HK
  go_wp2_with fail
  refine HK.mono ?_
  rintro e w7 ⟨rfl, n7, hw7⟩
  clear HK
  have hb7 : Below w6.heap.size w6 w7 := by rw [hw7]; exact below_drewN (Below.refl _ _) n7
  clear hw7
  have b7 := b6.trans (hb7.mono b6.size)
  replace hk1 := hk1.below hb7
  replace hk2 := hk2.below hb7
  replace hk3 := hk3.below hb7
  have HK := sameRecords_any _ _ C C w7 hk3.sl hk2.sl (by omega)
  rw [decide_eq_true rfl] at HK
  go_wp2_with fail
  refine HK.mono ?_
  rintro e w8 ⟨rfl, n8, hw8⟩
  clear HK
  have hb8 : Below w7.heap.size w7 w8 := by rw [hw8]; exact below_drewN (Below.refl _ _) n8
  clear hw8
  have b8 := b7.trans (hb8.mono b7.size)
  replace hk1 := hk1.below hb8
  replace hk2 := hk2.below hb8
  replace hk3 := hk3.below hb8
  have HK := layerOK_impl _ l x w8 (HSL.out _ b8) (by omega) HLP.out (HTT.out _ b8).tab (HTT.out _ b8).long
  rw [HOK.out, decide_eq_true (by omega)] at HK
  go_wp2_with fail
  refine HK.mono ?_
  rintro e w9 ⟨rfl, hb9⟩
  clear HK
  have b9 := b8.trans (hb9.mono b8.size)
  replace hk1 := hk1.below hb9
  replace hk2 := hk2.below hb9
  replace hk3 := hk3.below hb9
  have HK := isCanonical_impl _ C x y w9 hk1.sl (by omega) HCP.out (HTT.out _ b9)
  rw [HCF.out.2.2.2] at HK
  go_wp2_with fail
  refine HK.mono ?_
  rintro e w10 ⟨rfl, hb10⟩
  clear HK
  have b10 := b9.trans (hb10.mono b9.size)
  replace hk1 := hk1.below hb10
  replace hk2 := hk2.below hb10
  replace hk3 := hk3.below hb10
  have HIC : ∃ ic, isCan l = ic := ⟨_, rfl⟩
  obtain ⟨ic, hic⟩ := HIC
  have HIC := Lib.hid hic
  clear hic
  have HK := isCanonical_impl _ l x y w10 (HSL.out _ b10) (by omega) HLP.out (HTT.out _ b10)
  rw [HIC.out] at HK
  go_wp2_with fail
  refine HK.mono ?_
  rintro e w11 ⟨rfl, hb11⟩
  clear HK
  have b11 := b10.trans (hb11.mono b10.size)
  replace hk1 := hk1.below hb11
  replace hk2 := hk2.below hb11
  replace hk3 := hk3.below hb11
  have HK := isCanonical_spec _ l w11 (HSL.out _ b11) (by omega)
  rw [HIC.out] at HK
  have hicc : (ic != ic) = false := by simp
  go_wp2_with fail
  refine HK.mono ?_
  rintro e w12 ⟨rfl, hb12⟩
  clear HK
  have b12 := b11.trans (hb12.mono b11.size)
  replace hk1 := hk1.below hb12
  replace hk2 := hk2.below hb12
  replace hk3 := hk3.below hb12
  obtain ⟨ac, ar, hac, har⟩ : ∃ ac ar, appC l t = ac ∧ appR l t = ar := ⟨_, _, rfl, rfl⟩
  have HAC := Lib.hid hac
  have HAR := Lib.hid har
  have harl : ar.length ≤ 1048576 := by rw [← har]; exact app_len l t (by omega)
  clear hac har
  have HK := apply_impl _ _ l t x y w12 (HSL.out _ b12) (HRT.out _ b12).sl (by omega) (by omega) HLP.out HTP.out (HTT.out _ b12)
  rw [HAC.out, HAR.out] at HK
  go_wp2_with fail
  refine HK.mono ?_
  rintro e w13 ⟨z1, rfl, hb13, hz1⟩
  clear HK
  have b13 := b12.trans (hb13.mono b12.size)
  replace hk1 := hk1.below hb13
  replace hk2 := hk2.below hb13
  replace hk3 := hk3.below hb13
  obtain ⟨z1A, z1c, rfl⟩ := own_form hz1.2.1
  have HK := apply_spec _ _ l t _ w13 (HSL.out _ b13) (HRT.out _ b13) (by omega) (by omega)
  rw [HAC.out, HAR.out] at HK
  go_wp2_with fail
  refine HK.mono ?_
  rintro e w14 ⟨z2, rfl, hb14, hz2⟩
  clear HK
  have b14 := b13.trans (hb14.mono b13.size)
  replace hk1 := hk1.below hb14
  replace hk2 := hk2.below hb14
  replace hk3 := hk3.below hb14
  replace hz1 := hz1.below hb14
  obtain ⟨z2A, z2c, rfl⟩ := own_form hz2.2.1
  have HK := apply_impl _ _ C t x y w14 hk2.sl (HRT.out _ b14).sl (by omega) (by omega) HCP.out HTP.out (HTT.out _ b14)
  rw [HAS.out.1, HAS.out.2, HAC.out, HAR.out] at HK
  go_wp2_with fail
  refine HK.mono ?_
  rintro e w15 ⟨z3, rfl, hb15, hz3⟩
  clear HK
  have b15 := b14.trans (hb15.mono b14.size)
  replace hk1 := hk1.below hb15
  replace hk2 := hk2.below hb15
  replace hk3 := hk3.below hb15
  replace hz1 := hz1.below hb15
  replace hz2 := hz2.below hb15
  obtain ⟨z3A, z3c, rfl⟩ := own_form hz3.2.1
  have hacc : (ac != ac) = false := by simp
  have HK := sameNodes_any _ _ ar ar w15 hz1.sl hz2.sl harl
  rw [decide_eq_true rfl] at HK
  go_wp2_with fail
  refine HK.mono ?_
  rintro e w16 ⟨rfl, n16, hw16⟩
  clear HK
  have hb16 : Below w15.heap.size w15 w16 := by rw [hw16]; exact below_drewN (Below.refl _ _) n16
  clear hw16
  have b16 := b15.trans (hb16.mono b15.size)
  replace hk1 := hk1.below hb16
  replace hk2 := hk2.below hb16
  replace hk3 := hk3.below hb16
  replace hz1 := hz1.below hb16
  replace hz2 := hz2.below hb16
  replace hz3 := hz3.below hb16
  have HK := sameNodes_any _ _ ar ar w16 hz3.sl hz2.sl harl
  rw [decide_eq_true rfl] at HK
  go_wp2_with fail
  refine HK.mono ?_
  rintro e w17 ⟨rfl, n17, hw17⟩
  clear HK
  have hb17 : Below w16.heap.size w16 w17 := by rw [hw17]; exact below_drewN (Below.refl _ _) n17
  clear hw17
  have b17 := b16.trans (hb17.mono b16.size)
  replace hk1 := hk1.below hb17
  replace hk2 := hk2.below hb17
  replace hk3 := hk3.below hb17
  replace hz1 := hz1.below hb17
  replace hz2 := hz2.below hb17
  replace hz3 := hz3.below hb17
  clear hk1 hk2 hk3 hz1 hz2 hz3
  have HK := pathDrawn_any w17 a1 len1 cap1 (HVV.out _ b17).byts c1
  go_wp2_with fail
  refine HK.mono ?_
  rintro e w18 ⟨pl, hpl, rfl, hb18⟩
  clear HK
  have b18 := b17.trans (hb18.mono b17.size)
  rw [strV_eq2]
  have hql : pathB (⟨pl.toArray⟩ : ByteArray).data.toList = true := by simpa using hpl
  generalize (⟨pl.toArray⟩ : ByteArray) = q at *
  clear hpl
  have HQ := Lib.hid hql
  have hq35 : q.size ≤ 35 := by rw [Lib.size_eq]; exact pathB_len hql
  have hqm : q.size ≤ maxLen := by unfold maxLen; omega
  clear hql
  have HLT := Lib.hid (codeLT_fine HOK.out hq35)
  obtain ⟨F, hF⟩ : ∃ F, findF l q = F := ⟨_, rfl⟩
  have HFF := Lib.hid hF
  clear hF
  obtain ⟨⟨Fk, Fm, Fp, Fb, Fo⟩, Fc⟩ := F
  have HK := findRecord_impl _ l q x y w18 (HSL.out _ b18) (by omega) HLP.out (HTT.out _ b18)
  unfold findV R.val at HK
  rw [HFF.out] at HK
  dsimp only at HK
  go_wp2_with fail
  refine HK.mono ?_
  rintro e w19 ⟨rfl, hb19⟩
  clear HK
  have b19 := b18.trans (hb19.mono b18.size)
  have hnr := recs_new w19 ⟨Fk, Fm, Fp, Fb, Fo⟩
  have er : Below w19.heap.size w19 (w19.alloc (.cells #[.int .i64 Fk, .string Fp, .string Fb, .int .i64 Fm, .bool Fo] 26)) := (Below.refl _ _).alloc (Nat.le_refl _) _
  have hlr : w19.heap.size < (w19.alloc (.cells #[.int .i64 Fk, .string Fp, .string Fb, .int .i64 Fm, .bool Fo] 26)).heap.size := by simp
  have br := b19.trans (er.mono b19.size)
  go_upto_region 18 with (fail)
  generalize w19.alloc (.cells #[.int .i64 Fk, .string Fp, .string Fb, .int .i64 Fm, .bool Fo] 26) = Wr at *
  generalize w19.heap.size = gr at *
  have HNr : Hid (∀ W, Below Wr.heap.size Wr W → RecCells W gr 0 ⟨Fk, Fm, Fp, Fb, Fo⟩) := fun W hW => hnr.below hW hlr
  clear hnr er
  have w_r : Below w2.heap.size w2 Wr := br
  have HK := findRecord_spec _ l q Wr (HSL.out _ br) (by omega)
  unfold findV R.val at HK
  rw [HFF.out] at HK
  dsimp only at HK
  go_wp2_with fail
  refine HK.mono ?_
  rintro e w30 ⟨rfl, hb30⟩
  clear HK
  have b30 := br.trans (hb30.mono br.size)
  have d30 : Below Wr.heap.size Wr w30 := hb30
  have hns := recs_new w30 ⟨Fk, Fm, Fp, Fb, Fo⟩
  have es : Below w30.heap.size w30 (w30.alloc (.cells #[.int .i64 Fk, .string Fp, .string Fb, .int .i64 Fm, .bool Fo] 26)) := (Below.refl _ _).alloc (Nat.le_refl _) _
  have hls : w30.heap.size < (w30.alloc (.cells #[.int .i64 Fk, .string Fp, .string Fb, .int .i64 Fm, .bool Fo] 26)).heap.size := by simp
  have bs := b30.trans (es.mono b30.size)
  have drs := d30.trans (es.mono d30.size)
  go_upto_region 19 with (fail)
  generalize w30.alloc (.cells #[.int .i64 Fk, .string Fp, .string Fb, .int .i64 Fm, .bool Fo] 26) = Ws at *
  generalize w30.heap.size = gs at *
  have HNs : Hid (∀ W, Below Ws.heap.size Ws W → RecCells W gs 0 ⟨Fk, Fm, Fp, Fb, Fo⟩) := fun W hW => hns.below hW hls
  clear hns es
  have w_s : Below w2.heap.size w2 Ws := bs
  have t0 : Below Ws.heap.size Ws Ws := Below.refl _ _
  obtain ⟨ub, hub⟩ : ∃ ub, underL l q = ub := ⟨_, rfl⟩
  obtain ⟨cb, hcb⟩ : ∃ cb, cutsL l q = cb := ⟨_, rfl⟩
  have HUB := Lib.hid hub
  have HCB := Lib.hid hcb
  have HUC : Hid (ub = true → cb = true) := fun e => by rw [← hcb]; exact under_cuts (hub.trans e)
  clear hub hcb
  have HK := underOpaque_impl _ l q x y Ws (HSL.out _ bs) (by omega) HLP.out hqm (HTT.out _ bs)
  rw [und_path HLT.out HQ.out, HUB.out] at HK
  go_wp2_with fail
  refine HK.mono ?_
  rintro e w51 ⟨rfl, hb51⟩
  clear HK
  have b51 := bs.trans (hb51.mono bs.size)
  have t51 := t0.trans (hb51.mono t0.size)
  have HK := underOpaque_spec _ l q w51 (HSL.out _ b51) (by omega)
  rw [und_path HLT.out HQ.out, HUB.out] at HK
  go_wp2_with fail
  refine HK.mono ?_
  rintro e w52 ⟨rfl, hb52⟩
  clear HK
  have b52 := b51.trans (hb52.mono b51.size)
  have t52 := t51.trans (hb52.mono t51.size)
  have HK := cuts_impl _ l q x y w52 (HSL.out _ b52) (by omega) HLP.out hqm (HTT.out _ b52)
  rw [cut_path HLT.out HQ.out, HCB.out] at HK
  go_wp2_with fail
  refine HK.mono ?_
  rintro e w53 ⟨rfl, hb53⟩
  clear HK
  have b53 := b52.trans (hb53.mono b52.size)
  have t53 := t52.trans (hb53.mono t52.size)
  have HK := cuts_spec _ l q w53 (HSL.out _ b53) (by omega)
  rw [cut_path HLT.out HQ.out, HCB.out] at HK
  go_wp2_with fail
  refine HK.mono ?_
  rintro e w54 ⟨rfl, hb54⟩
  clear HK
  have b54 := b53.trans (hb54.mono b53.size)
  have t54 := t53.trans (hb54.mono t53.size)
  obtain ⟨p0, p1, p2, p3, p4⟩ := HNr.out _ (drs.trans (t54.mono drs.size))
  obtain ⟨q0, q1, q2, q3, q4⟩ := HNs.out _ t54
  have hfc : (Fc != Fc) = false := by simp
  have huu : (ub != ub) = false := by simp
  have hcc : (cb != cb) = false := by simp
  have HROW := Lib.hid (HRW.out _ b54)
  go_upto_region 23 with (fail)
  go_cut [223] from 191 (fun s wx => s = .bool false ∧ wx = w54)
  case first =>
    cases ub with
    | false =>
      go_wp2_with fail
      go_meet
      exact ⟨rfl, rfl⟩
    | true =>
      obtain rfl : cb = true := HUC.out rfl
      go_wp2_with fail
      go_meet
      exact ⟨rfl, rfl⟩
  case rest =>
    rename_i s223
    obtain ⟨hs, hwc⟩ := hcut
    subst hs
    have hwd := hwc.symm
    subst hwd
    clear p0 p1 p2 p3 p4 q0 q1 q2 q3 q4 hfc huu hcc HUB HCB HUC HNr HNs
    have hE0 : (w54.alloc (.cells #[] 26)).ownsRow w54.heap.size 26 5 (.slice (some ⟨w54.heap.size, 0, none⟩) 0 0) 0 [] := World.ownsRow_lit w54 #[] 0 (Nat.le_refl _) (Nat.zero_le _) rfl
    have eA : Below w54.heap.size w54 (w54.alloc (.cells #[] 26)) := (Below.refl _ _).alloc (Nat.le_refl _) _
    have bA := b54.trans (eA.mono b54.size)
    have hnews := (HROW.out.below eA).srcs
    have hfl := flat_len l
    have hone := flat_one l
    obtain ⟨i0, hi, hI0, hI1, hI2⟩ := info_parts recInfo
    go_upto_region 26 with (first
      | (at_builtin; refine wpList_append_own _ rfl _ _ 45 rfl w54.heap.size 26 i0 (.agg #[.int .i64 0, .string ByteArray.empty, .string ByteArray.empty, .int .i64 0, .bool false]) 5 56 Tryz.underlying45 hi hI0 hI1 hI2 rfl (by decide) _ _ _ rfl hE0 ⟨lg, 0, none⟩ l.length lcap (flat l) rfl hfl hnews hone (by unfold maxLen; omega) (by omega) eA.size ?_; intro v' w90 hown' hgrow9 hnil9))
    have hrow9 : RowOf w90 w54.heap.size v' l.length l := ⟨rfl, by simpa using hown'⟩
    have hne9 : v' ≠ .slice none 0 0 := fun e => by have := (hnil9.1 e).1; cases this
    obtain ⟨g9, cap9, rfl⟩ := hrow9.atom hne9
    have b90 : Below w2.heap.size w2 w90 := bA.grown hgrow9 bA.size (fun j hj => Nat.le_trans b54.size (hE0.lt j hj).1)
    have hg9 : w2.heap.size ≤ g9 := Nat.le_trans b54.size (hrow9.2.lt g9 rfl).1
    clear hown' hgrow9 hnil9 hne9 hE0 eA bA hnews hfl hone HROW
    go_upto_if 230 with (fail)
    go_cut [] from 229 (fun wx => ∃ B : List R, B.length = l.length ∧ (∀ r ∈ B, r.p.size ≤ maxLen) ∧ Hid (RowOf wx w54.heap.size (.slice (some ⟨g9, 0, none⟩) l.length cap9) l.length B) ∧ Hid (Below w2.heap.size w2 wx))
    case first =>
      by_cases hl0 : l.length = 0
      · obtain rfl : l = [] := List.eq_nil_of_length_eq_zero hl0
        clear hl0
        go_wp2_with fail
        go_meet
        exact ⟨[], rfl, fun r hr => (by cases hr), hrow9, b90⟩
      · have hd2 : decide ((0 : Int) < (l.length : Int)) = true := decide_eq_true (by omega)
        have hd3 : decide (0 < l.length) = true := decide_eq_true (by omega)
        obtain ⟨hJ0, hJ1⟩ := atK_range (f := f1) (n := len1) (i := 0) (k := (l.length : Int)) (by omega)
        have HAT := at_all w90 a1 len1 cap1 f1 0 (l.length : Int) (HVV.out _ b90) (by omega) (by omega)
        obtain ⟨j, hj⟩ : ∃ j : Nat, atK f1 len1 0 (l.length : Int) = (j : Int) := ⟨_, (Int.toNat_of_nonneg hJ0).symm⟩
        rw [hj] at HAT hJ1
        have hjl : j < l.length := by omega
        have hi1 : (j : Int) < (l.length : Int) := by omega
        have hi0' : (0 : Int) ≤ (j : Int) := by omega
        have HL0 := Lib.hid hl0
        clear hl0 hJ0 hJ1 hj
        go_wp2_with fail
        refine HAT.mono ?_
        rintro e w91 ⟨rfl, n91, hw91⟩
        have hb91 : Below w90.heap.size w90 w91 := by rw [hw91]; exact below_drewN (Below.refl _ _) n91
        have b91 := b90.trans (hb91.mono b90.size)
        clear hw91 HAT
        have HRD := recordDrawn_any w91 a1 len1 cap1 (HVV.out _ b91).byts c1
        go_wp2_with fail
        refine HRD.mono ?_
        rintro e w92 ⟨k, mm, p, b, o, -, -, hp35, -, rfl, hb92⟩
        have b92 := b91.trans (hb92.mono b91.size)
        have hr92 := (hrow9.below hb91).below hb92
        obtain ⟨d0, d1, d2, d3, d4⟩ := hr92.cells hjl
        have hf := hr92.frozen
        have HS := Lib.hid (hr92.store ⟨k, mm, p, b, o⟩ hjl)
        clear hr92 HRD
        go_wp2_with fail
        go_meet
        refine ⟨l.set j ⟨k, mm, p, b, o⟩, by simp, fun r hr => ?_, HS.out.1, b92.grown HS.out.2 b92.size (fun i hi => by cases hi; exact hg9)⟩
        rcases List.mem_or_eq_of_mem_set hr with h | h
        · exact HLP.out r h
        · rw [h]; show p.size ≤ maxLen; unfold maxLen; omega
    case rest =>
      obtain ⟨B, hBl, hBp, HRB, HBB⟩ := hcut
      generalize hwq : wc = W9 at *
      clear hwq hrow9 b90
      have HBL := Lib.hid hBl
      obtain ⟨P, Q, hF, hQ⟩ := fault_two (B := B) (by omega)
      have HFF2 := Lib.hid hF
      have HQQ := Lib.hid hQ
      have b93 := HBB.out
      have HI := layerFault_impl _ B x y W9 HRB.out.sl (by omega) hBp (HTT.out _ b93) (HEE.out _ b93)
      rw [hF] at HI
      clear hF hQ hBl
      go_wp2_with fail
      refine HI.mono ?_
      rintro e w94 ⟨rfl, hb94⟩
      have b94 := b93.trans (hb94.mono b93.size)
      have hB16 : B.length ≤ 16 := by have := HBL.out; omega
      have HS : Calls Tryz.prog 49 #[.slice (some ⟨g9, 0, none⟩) l.length cap9] w94 fun e w' => e = .returned (faultV B) ∧ Below w94.heap.size w94 w' := layerFault_spec _ B w94 (HRB.out.below hb94).sl (by omega)
      rw [HFF2.out] at HS
      go_wp2_with fail
      refine HS.mono ?_
      rintro e w95 ⟨rfl, hb95⟩
      have b95 := b94.trans (hb95.mono b94.size)
      have HO := layerOK_impl _ B x w95 ((HRB.out.below hb94).below hb95).sl (by omega) hBp (HTT.out _ b95).tab (HTT.out _ b95).long
      rw [HQQ.out] at HO
      have hqq : ((Q == 0) == (Q == 0)) = true := by simp
      have hq2 : (Q == Q) = true := by simp
      have hp2 : (P == P) = true := by simp
      clear HS HI
      go_wp2_with fail
      refine HO.mono ?_
      rintro e w96 ⟨rfl, hb96⟩
      go_wp2_with fail
      go_ret
      exact ⟨rfl, c2.trans ((b95.trans (hb96.mono b95.size)).mono c2.size)⟩

theorem walk (a0 : Option Addr) (len0 cap0 : Nat) (z0 : List Int) (a1 : Option Addr) (len1 cap1 : Nat) (z1 : List Int) (w : World) (r0 : IsRow .u8 w a0 len0 cap0 z0) (r1 : IsRow .u8 w a1 len1 cap1 z1) (hT : (∃ x y, Three w x y) ∧ w.cell? ⟨2, 0, none⟩ = some (Errs.rty 96)) :
    Calls Tryz.prog 4 #[.slice a0 len0 cap0, .slice a1 len1 cap1] w fun e w' => e = .returned (.bool true) ∧ Below w.heap.size w w' := by
  obtain ⟨⟨x, y, hT⟩, hE⟩ := hT
  by_cases h0 : len0 ≤ 1048576
  · by_cases h1 : len1 ≤ 1048576
    · obtain ⟨v0, c0, _⟩ := r0.vals h0
      obtain ⟨v1, c1, n1⟩ := r1.vals h1
      exact walk_small a0 len0 cap0 a1 len1 cap1 _ w v0.byts c0 h0 v1 c1 h1 x y hT hE
    · have hd0 : decide ((1048576 : Int) < (len0 : Int)) = false := by simp; omega
      have hd1 : decide ((1048576 : Int) < (len1 : Int)) = true := by simp; omega
      clear r0 r1
      go_enter Tryz.func4, Tryz.ntmps4
      go_wp2_with fail
      go_ret
      exact ⟨rfl, Below.refl _ _⟩
  · have hd0 : decide ((1048576 : Int) < (len0 : Int)) = true := by simp; omega
    clear r0 r1
    go_enter Tryz.func4, Tryz.ntmps4
    go_wp2_with fail
    go_ret
    exact ⟨rfl, Below.refl _ _⟩

end Go.Proofs.YtcbmnihepeefaaaGreatDoor.LawFnLayers0
