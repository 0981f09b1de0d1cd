/- Parts of several texts of mine in one file (each begins with its own remark). -/
import Derived.Test.YtcbmnihepeefaaaGreatDoorCA1
import Derived.Test.YtcbmnihepeefaaaGreatDoorCA10
import Derived.Test.YtcbmnihepeefaaaGreatDoorCA2
import Derived.Test.YtcbmnihepeefaaaGreatDoorCA3
import Derived.Test.YtcbmnihepeefaaaGreatDoorCA4
import Derived.Test.YtcbmnihepeefaaaGreatDoorCA5
import Derived.Test.YtcbmnihepeefaaaGreatDoorCA6
import Derived.Test.YtcbmnihepeefaaaGreatDoorCA7
import Derived.Test.YtcbmnihepeefaaaGreatDoorCA8
import Derived.Test.YtcbmnihepeefaaaGreatDoorCA9
import Derived.Test.YtcbmnihepeefaaaGreatDoorCB1
import Derived.Test.YtcbmnihepeefaaaGreatDoorCB12
import Derived.Test.YtcbmnihepeefaaaGreatDoorCB15
import Derived.Test.YtcbmnihepeefaaaGreatDoorCB17
import Derived.Test.YtcbmnihepeefaaaGreatDoorCB6
import Derived.Test.YtcbmnihepeefaaaGreatDoorCB8
import Derived.Test.YtcbmnihepeefaaaGreatDoorCD1
import Derived.Test.YtcbmnihepeefaaaGreatDoorCD2
import Derived.Test.YtcbmnihepeefaaaGreatDoorCE1
import Derived.Test.YtcbmnihepeefaaaGreatDoorCG1
import Derived.Test.YtcbmnihepeefaaaGreatDoorCG2
import Derived.Test.YtcbmnihepeefaaaGreatDoorCG3
import Derived.Test.YtcbmnihepeefaaaGreatDoorCG4
import Derived.Test.YtcbmnihepeefaaaGreatDoorCards
import Derived.Test.YtcbmnihepeefaaaGreatDoorTie
import Derived.Test.YtcbmnihepeefaaaGreatDoorShelf2
import Derived.Test.YtcbmnihepeefaaaGreatDoorChecked
import Derived.Test.YtcbmnihepeefaaaGreatDoorShelf
import Derived.Test.YtcbmnihepeefaaaGreatDoorRows
import Derived.Test.YtcbmnihepeefaaaGreatDoorProg
import Derived.Deep.Cut
import Derived.Deep.CutRange
import Derived.Deep.RegionHeld3
import Derived.WalkKit
import Derived.ProofKit
import Derived.OpenShut
import Derived.ShutString
import Derived.ChangeOld
import Derived.ChangeVars
import Derived.OpenVars
import Derived.Below
import Derived.Lay
import Derived.LaidMore
import Derived.Stop.Joined
import Derived.SevenTiedAt
import Derived.Deep.DeepHandedRow
import Derived.Lib.LaidTab
import Derived.Shelf.SlSortCmp.NoneTotal
import Derived.Sort.OwnSorted
import Derived.RangeFuncNested
import Derived.RangeFuncBound
import Derived.RangeFuncCalls
import Derived.RangeFuncLeaves
import Derived.RangeFuncBox
import Derived.Shelf.Abstract
import Derived.Shelf.RegionOpen
import Derived.OwnWalkIn
import Derived.TacticsInMore
import Derived.LoopNIn
import Derived.LoopIn
import Derived.Maps.OwnIn
import Derived.Maps.AppendAt
import Derived.Sort.MapsRangeIn
import Derived.Sort.KeysCollected
import Derived.Laws.IdiomRangeMap
import Derived.StillTailTactics
import Derived.Maps.RangeWalk
import Derived.Maps.Ext
import Derived.Lib.SlMapFilter
import Derived.Laws.OwnMore
import Derived.BigQuiet
import Derived.BigRegion
import Derived.Deep.QuietTactic
import Derived.Deep.Slices
import Derived.ChangeArms
import Derived.WideShapes
import Derived.Deep.Draws
import Derived.Deep.LoopGhost
import Derived.WalkSpells
import Derived.WalkSmall
import Derived.Lib.OthersKept
import Derived.Lib.Hide
import Derived.Lib.Strings
import Derived.Lib.Join
import Derived.Laws.BytesArg
import Derived.WalkLawsBesides
import Derived.Deep.RegionWith
import Derived.OneCell
import Derived.Lib.SliceRun
import Derived.Lib.Overlaps
import Derived.Lib.AppendZerosOnto
import Derived.Laws.NewBlocks
import Derived.Laws.IdiomCopy
import Derived.Deep.RegionLaw
import Derived.LaidEql
import Derived.Stop.Asserts
import Derived.Stop.LaidErr
import Derived.Stop.LaidTwo
import Derived.Sort.Grow
import Derived.Deep.AppendLies
import Derived.Laws.EntriesVeiled
import Derived.Laws.AppendOwnNone
import Derived.RegionTactic
import Derived.IntWalk
/- For all two slices of bytes, FnSquash answers true. Conditions: the table of kinds and the two sentinels hold what their own initialisers lay (tied to the program's text by the given tie). -/
namespace Go.Proofs.YtcbmnihepeefaaaGreatDoor.LawFnSquash0
open Go.ChangeShapes Go.WideShapes Go.ChangeAt Go.RowKit
open Go.ChangeMaps (open_string shut_string)
open Recs Paths Draw
set_option linter.unusedVariables false
set_option maxRecDepth 100000

theorem short_path {t : List R} (h : ∀ x ∈ t, pathB x.p.data.toList = true) : ∀ r ∈ t, r.p.size ≤ maxLen := fun r hr => by
  have h35 : r.p.size ≤ 35 := by rw [Lib.size_eq]; exact pathB_len (h r hr)
  unfold maxLen
  omega
theorem nil_ok : layerOK [] = true := fine_ok fine_nil (by simp)
theorem two_ok {a b : List R} (ha : layerOK a = true) (hb : layerOK b = true) : codeBB a b = 0 := by
  have h1 := layer_len ha
  have h2 := layer_len hb
  unfold codeBB
  rw [if_neg (by omega), ha, hb]
  rfl
theorem codeL_fine {l : List R} (h : layerOK l = true) : codeL l = 0 := by
  have h16 := layer_len h
  unfold codeL
  rw [if_neg (by omega), if_pos h]
theorem none_facts {a : List R} (ha : layerOK a = true) : (sqC [] a = 0 ∧ sqR [] a = canonL a) ∧ (sqC a [] = 0 ∧ sqR a [] = canonL a) := by
  have h1 := layer_len ha
  have h2 := canon_len a
  have e1 := squash_nil_left (fine_layer ha) (by omega)
  have e2 := squash_nil_right (fine_layer ha) (by omega)
  constructor
  · have := sq_fine (A := []) (B := a) (two_ok nil_ok ha) (by rw [e1]; omega)
    rw [e1] at this
    exact this
  · have := sq_fine (A := a) (B := []) (two_ok ha nil_ok) (by rw [e2]; omega)
    rw [e2] at this
    exact this
theorem sq_facts {a b t : List R} (ha : layerOK a = true) (hb : layerOK b = true) (ht : Tree t) (hl : ¬ 16 < (squashL a b).length) : layerOK (squashL a b) = true ∧ isCan (squashL a b) = true ∧ allC [a, b] t = appC (squashL a b) t ∧ allR [a, b] t = appR (squashL a b) t := by
  have hc := squash_canon (fine_layer ha) (fine_layer hb)
  have hok := fine_ok hc.isFine (by omega)
  have h24 := ht.len
  have hst : stackOK [a, b] = true := by unfold stackOK; simp [ha, hb]
  obtain ⟨e1, e2⟩ := app_fine (ln_fine (by omega) hok (treeOK_of ht))
  obtain ⟨e3, e4⟩ := all_fine (sn_fine (LL := [a, b]) (t := t) (by simp; omega) hst (treeOK_of ht))
  refine ⟨hok, ?_, ?_, ?_⟩
  · unfold isCan okL
    rw [hok, hc.canon]
    simp
    omega
  · rw [e1, e3, apply_squash (layer_is ha) (layer_is hb) ht.is]
    rfl
  · rw [e2, e4, apply_squash (layer_is ha) (layer_is hb) ht.is]
    rfl
theorem stk_two {w : World} {v u : Value} {a b : List R} (h : RecSl w v a) (k : RecSl w u b) : StkSl (w.alloc (.cells #[v, u] 45)) (.slice (some ⟨w.heap.size, 0, none⟩) 2 2) [a, b] := by
  have hb : Below w.heap.size w (w.alloc (.cells #[v, u] 45)) := (Below.refl _ _).alloc (Nat.le_refl _) _
  refine ⟨_, 2, rfl, Nat.le_refl _, fun _ => ⟨w.heap.size, 0, rfl, by simp, fun i q hi => ?_⟩⟩
  match i, hi with
  | 0, hi => cases hi; exact ⟨v, by go_simp, h.below hb⟩
  | 1, hi => cases hi; exact ⟨u, by go_simp, k.below hb⟩
  | i + 2, hi => simp at hi
theorem nil_sl (w : World) : RecSl w (.slice none 0 0) [] := ⟨none, 0, rfl, Nat.le_refl _, fun h => by cases h⟩

set_option maxHeartbeats 8000000 in
theorem walk_small (a0 : Option Addr) (len0 cap0 : Nat) (a1 : Option Addr) (len1 cap1 : Nat) (f1 : Nat → Nat) (w : World) (B0 : Byts w w.heap.size a0 len0) (c0 : len0 ≤ cap0) (h0 : len0 ≤ 1048576) (V1 : Vals w a1 len1 f1) (c1 : len1 ≤ cap1) (h1 : len1 ≤ 1048576) (n1 : a1 = none → len1 = 0 ∧ cap1 = 0) (x y : Addr) (hT : Three w x y) :
    Calls Tryz.prog 6 #[.slice a0 len0 cap0, .slice a1 len1 cap1] w fun e w' => e = .returned (.bool true) ∧ Below w.heap.size w w' := by
  have HB0 := Lib.hid B0
  have HV1 := Lib.hid V1
  have HT := Lib.hid hT
  have hd0 : decide ((1048576 : Int) < (len0 : Int)) = false := by simp; omega
  have hd1 : decide ((1048576 : Int) < (len1 : Int)) = false := by simp; omega
  clear B0 V1 hT
  go_enter Tryz.func6, Tryz.ntmps6
  go_wp2_with fail
  refine (layerDrawn_any w a0 len0 cap0 HB0.out c0).mono ?_
  rintro e w1 ⟨v, a, rfl, hok, hb1, hrl, hnv⟩
  obtain ⟨lg, lcap, rfl⟩ := hrl.atom hnv
  have HOA := Lib.hid hok
  have HRL := Lib.hid hrl
  clear hok hrl hnv
  have HLD := layerDrawn_any w1 a1 len1 cap1 (HV1.out.below hb1).byts c1
  go_wp2_with fail
  refine HLD.mono ?_
  rintro e w2 ⟨v2, bb, rfl, hok2, hb2, hrl2, -⟩
  obtain ⟨uA, ucap, rfl⟩ := hrl2.form
  have c2 := hb1.trans (hb2.mono hb1.size)
  have HO2 := Lib.hid hok2
  have HR2 := Lib.hid hrl2
  have HRA : Hid (∀ W, Below w2.heap.size w2 W → RowOf W w.heap.size (.slice (some ⟨lg, 0, none⟩) a.length lcap) a.length a) := fun W hW => (HRL.out.below hb2).below hW
  have HVV : Hid (∀ W, Below w2.heap.size w2 W → Vals W a1 len1 f1) := fun W hW => HV1.out.below (c2.trans (hW.mono c2.size))
  have ha16 := layer_len HOA.out
  clear hok2 hrl2 HLD HRL HB0
  have b2 := Below.refl w2.heap.size w2
  have HAT := at_all w2 a1 len1 cap1 f1 0 2 (HVV.out _ b2) (by omega) (by omega)
  generalize atK f1 len1 0 2 = J at *
  go_wp2_with fail
  refine HAT.mono ?_
  rintro e w3 ⟨rfl, n3, hw3⟩
  have b3 : Below w2.heap.size w2 w3 := by rw [hw3]; exact below_drewN (Below.refl _ _) n3
  clear hw3 HAT
  go_upto_if 42 with (fail)
  go_cut [6] from 42 (fun s wx => ∃ b : List R, layerOK b = true ∧ RecSl wx s b ∧ Hid (Below w2.heap.size w2 wx))
  case first =>
    as_aux_lemma =>
      by_cases hJ : J = 0
      · have q0 : (J == 0) = true := by simpa using hJ
        have HAK := akinDrawn_any w3 a1 len1 cap1 lg lcap w.heap.size a (HVV.out _ b3).byts c1 HOA.out (HRA.out _ b3)
        clear hJ
        go_wp2_with fail
        refine HAK.mono ?_
        rintro e w4 ⟨v4, b, rfl, hob, hb4, hsb⟩
        go_wp2_with fail
        go_meet
        exact ⟨b, hob, hsb, b3.trans (hb4.mono b3.size)⟩
      · have q0 : (J == 0) = false := by simpa using hJ
        clear hJ
        go_wp2_with fail
        go_meet
        exact ⟨bb, HO2.out, (HR2.out.below b3).sl, b3⟩
  case rest =>
    as_aux_lemma =>
      rename_i s6
      obtain ⟨b, hob, hsb, HB3⟩ := hcut
      clear b3
      clear HO2 HR2
      generalize hwq : wc = w30 at *
      clear hwq
      have b3 := HB3.out
      clear b2
      have HOB := Lib.hid hob
      have HSB := Lib.hid hsb
      obtain ⟨bA, bcap, rfl, -⟩ := hsb
      have hb16 := layer_len hob
      clear hob HB3
      have HMX := mix_any w30 2 a1 len1 cap1 (HVV.out _ b3).byts h1 c1 (by omega) n1
      go_wp2_with fail
      refine HMX.mono ?_
      rintro e w4 ⟨A', n', cap', rfl, hn', hby, hb4⟩
      have b4 := b3.trans (hb4.mono b3.size)
      have HTD := treeDrawn_any w4 A' n' cap' hby hn'
      clear HMX hby
      go_wp2_with fail
      refine HTD.mono ?_
      rintro e w5 ⟨u, t, rfl, htr, -, hb5, hrt, -, -⟩
      have b5 := b4.trans (hb5.mono b4.size)
      obtain ⟨tA, tcap, rfl⟩ := own_form hrt.2.1
      have HTR := Lib.hid htr
      have ht24 := htr.len
      have HSA : Hid (∀ W, Below w5.heap.size w5 W → RecSl W (.slice (some ⟨lg, 0, none⟩) a.length lcap) a) := fun W hW => (HRA.out _ (b5.trans (hW.mono b5.size))).sl
      have HSB5 : Hid (∀ W, Below w5.heap.size w5 W → RecSl W (.slice bA b.length bcap) b) := fun W hW => ((HSB.out.below hb4).below hb5).below hW
      have HRT : Hid (∀ W, Below w5.heap.size w5 W → RowN W w4.heap.size (.slice tA t.length tcap) t.length t) := fun W hW => hrt.below hW
      have c5 := c2.trans (b5.mono c2.size)
      have HTT : Hid (∀ W, Below w5.heap.size w5 W → Three W x y) := fun W hW => HT.out.below (c5.trans (hW.mono c5.size)) (Nat.le_refl _)
      have HAP := Lib.hid (short_path (layer_is HOA.out).path)
      have HBP := Lib.hid (short_path (layer_is HOB.out).path)
      have HTP := Lib.hid (short_path HTR.out.is.path)
      have HC0 := Lib.hid (two_ok HOA.out HOB.out)
      have HNF := Lib.hid (none_facts HOA.out)
      have HCA := Lib.hid (codeL_fine HOA.out)
      have hsl := sqR_len a b
      have hhl := hid_len a b (by omega)
      have hcl := canon_len a
      have HNP : Hid (∀ r ∈ ([] : List R), r.p.size ≤ maxLen) := fun r hr => by cases hr
      obtain ⟨sc, hsc⟩ : ∃ sc, sqC a b = sc := ⟨_, rfl⟩
      have HSC := Lib.hid hsc
      obtain ⟨SR, hSR⟩ : ∃ SR, sqR a b = SR := ⟨_, rfl⟩
      have HSR := Lib.hid hSR
      rw [hSR] at hsl
      clear htr hrt HTD HT HSB HRA HVV hsc hSR
      have bb5 := Below.refl w5.heap.size w5
      have HK := squash_impl _ _ a b x y w5 (HSA.out _ bb5) (HSB5.out _ bb5) (by omega) (by omega) HAP.out HBP.out (HTT.out _ bb5)
      rw [HSC.out, HSR.out] at HK
      go_wp2_with fail
      refine HK.mono ?_
      rintro e w6 ⟨s1, rfl, hb6, hs1⟩
      clear HK
      have b6 := bb5.trans (hb6.mono bb5.size)
      obtain ⟨s1A, s1c, rfl⟩ := hs1.form
      have HK := squash_spec _ _ a b w6 (HSA.out _ b6) (HSB5.out _ b6) (by omega) (by omega)
      rw [HSC.out, HSR.out] at HK
      go_wp2_with fail
      refine HK.mono ?_
      rintro e w7 ⟨s2, rfl, hb7, hs2⟩
      clear HK
      have b7 := b6.trans (hb7.mono b6.size)
      replace hs1 := hs1.below hb7
      obtain ⟨s2A, s2c, rfl⟩ := hs2.form
      have HK := hidden_impl _ _ a b x y w7 (HSA.out _ b7) (HSB5.out _ b7) (by omega) (by omega) HAP.out HBP.out (HTT.out _ b7)
      rw [HC0.out] at HK
      go_wp2_with fail
      refine HK.mono ?_
      rintro e w8 ⟨h3, rfl, hb8, hh3⟩
      clear HK
      have b8 := b7.trans (hb8.mono b7.size)
      replace hs1 := hs1.below hb8
      replace hs2 := hs2.below hb8
      obtain ⟨h3A, h3c, rfl⟩ := own_form hh3
      have HK := hidden_spec _ _ a b w8 (HSA.out _ b8) (HSB5.out _ b8) (by omega) (by omega)
      rw [HC0.out] at HK
      go_wp2_with fail
      refine HK.mono ?_
      rintro e w9 ⟨h4, rfl, hb9, hh4⟩
      clear HK
      have b9 := b8.trans (hb9.mono b8.size)
      replace hs1 := hs1.below hb9
      replace hs2 := hs2.below hb9
      replace hh3 := own_below hh3 hb9
      obtain ⟨h4A, h4c, rfl⟩ := own_form hh4
      have hscc : (sc != sc) = false := by simp
      have hhm : (hidR a b).length ≤ maxLen := by unfold maxLen; omega
      have HK := sameRecords_any _ _ SR SR w9 hs1.sl hs2.sl hsl
      rw [decide_eq_true rfl] at HK
      go_wp2_with fail
      refine HK.mono ?_
      rintro e w10 ⟨rfl, n10, hw10⟩
      clear HK
      have hb10 : Below w9.heap.size w9 w10 := by rw [hw10]; exact below_drewN (Below.refl _ _) n10
      clear hw10
      have b10 := b9.trans (hb10.mono b9.size)
      replace hs1 := hs1.below hb10
      replace hs2 := hs2.below hb10
      replace hh3 := own_below hh3 hb10
      replace hh4 := own_below hh4 hb10
      have HK := sameTexts_any _ _ (hidR a b) (hidR a b) w10 (Strs.own hh3) (Strs.own hh4) hhm
      rw [decide_eq_true rfl] at HK
      go_wp2_with fail
      refine HK.mono ?_
      rintro e w11 ⟨rfl, n11, hw11⟩
      clear HK
      have hb11 : Below w10.heap.size w10 w11 := by rw [hw11]; exact below_drewN (Below.refl _ _) n11
      clear hw11
      have b11 := b10.trans (hb11.mono b10.size)
      replace hs1 := hs1.below hb11
      replace hs2 := hs2.below hb11
      replace hh3 := own_below hh3 hb11
      replace hh4 := own_below hh4 hb11
      clear hh3 hh4 hs2
      have HK := canonical_spec _ a w11 (HSA.out _ b11) (by omega)
      unfold CanPost at HK
      rw [HCA.out, canC_ok HCA.out] at HK
      go_wp2_with fail
      refine HK.mono ?_
      rintro e w12 ⟨k1, rfl, hb12, hk1⟩
      clear HK
      have b12 := b11.trans (hb12.mono b11.size)
      replace hs1 := hs1.below hb12
      obtain ⟨k1A, k1c, rfl⟩ := hk1.form
      have HK := squash_impl (.slice none 0 0) _ [] a x y w12 (nil_sl _) (HSA.out _ b12) (by simp) (by omega) HNP.out HAP.out (HTT.out _ b12)
      rw [HNF.out.1.1, HNF.out.1.2] at HK
      go_wp2_with fail
      refine HK.mono ?_
      rintro e w13 ⟨k2, rfl, hb13, hk2⟩
      clear HK
      have b13 := b12.trans (hb13.mono b12.size)
      replace hs1 := hs1.below hb13
      replace hk1 := hk1.below hb13
      obtain ⟨k2A, k2c, rfl⟩ := hk2.form
      have HK := squash_impl _ (.slice none 0 0) a [] x y w13 (HSA.out _ b13) (nil_sl _) (by omega) (by simp) HAP.out HNP.out (HTT.out _ b13)
      rw [HNF.out.2.1, HNF.out.2.2] at HK
      go_wp2_with fail
      refine HK.mono ?_
      rintro e w14 ⟨k3, rfl, hb14, hk3⟩
      clear HK
      have b14 := b13.trans (hb14.mono b13.size)
      replace hs1 := hs1.below hb14
      replace hk1 := hk1.below hb14
      replace hk2 := hk2.below hb14
      obtain ⟨k3A, k3c, rfl⟩ := hk3.form
      have HK := sameRecords_any _ _ (canonL a) (canonL a) w14 hk2.sl hk1.sl (by omega)
      rw [decide_eq_true rfl] at HK
      go_wp2_with fail
      refine HK.mono ?_
      rintro e w15 ⟨rfl, n15, hw15⟩
      clear HK
      have hb15 : Below w14.heap.size w14 w15 := by rw [hw15]; exact below_drewN (Below.refl _ _) n15
      clear hw15
      have b15 := b14.trans (hb15.mono b14.size)
      replace hs1 := hs1.below hb15
      replace hk1 := hk1.below hb15
      replace hk2 := hk2.below hb15
      replace hk3 := hk3.below hb15
      have HK := sameRecords_any _ _ (canonL a) (canonL a) w15 hk3.sl hk1.sl (by omega)
      rw [decide_eq_true rfl] at HK
      go_wp2_with fail
      refine HK.mono ?_
      rintro e w16 ⟨rfl, n16, hw16⟩
      clear HK
      have hb16 : Below w15.heap.size w15 w16 := by rw [hw16]; exact below_drewN (Below.refl _ _) n16
      clear hw16
      have b16 := b15.trans (hb16.mono b15.size)
      replace hs1 := hs1.below hb16
      replace hk1 := hk1.below hb16
      replace hk2 := hk2.below hb16
      replace hk3 := hk3.below hb16
      clear hk1 hk2 hk3
      by_cases h16 : 16 < (squashL a b).length
      · have hQ := sq_full HC0.out h16
        have hs7 : sc = 7 := HSC.out.symm.trans hQ.1
        subst hs7
        clear h16 hQ
        go_wp2_with fail
        go_ret
        exact ⟨rfl, c5.trans (b16.mono c5.size)⟩
      have hQ := sq_fine HC0.out h16
      have hs0 : sc = 0 := HSC.out.symm.trans hQ.1
      subst hs0
      have hSS : SR = squashL a b := HSR.out.symm.trans hQ.2
      obtain ⟨hok, hic, hc1, hc2⟩ := sq_facts HOA.out HOB.out HTR.out h16
      rw [← hSS] at hok hic hc1 hc2
      have HOS := Lib.hid hok
      have HIC := Lib.hid hic
      have HAC := Lib.hid hc1
      have HAR := Lib.hid hc2
      have hS16 : SR.length ≤ 16 := by rw [hSS]; omega
      clear h16 hQ hok hic hc1 hc2 hSS HSR
      generalize SR = S at *
      have HSP := Lib.hid (short_path (layer_is HOS.out).path)
      have harl : (appR S t).length ≤ 1048576 := app_len S t (by omega)
      obtain ⟨ac, hac⟩ : ∃ ac, appC S t = ac := ⟨_, rfl⟩
      have HAS := Lib.hid hac
      clear hac
      have HK := apply_impl _ _ S t x y w16 hs1.sl (HRT.out _ b16).sl (by omega) (by omega) HSP.out HTP.out (HTT.out _ b16)
      rw [HAS.out] at HK
      go_wp2_with fail
      refine HK.mono ?_
      rintro e w17 ⟨z1, rfl, hb17, hz1⟩
      clear HK
      have b17 := b16.trans (hb17.mono b16.size)
      replace hs1 := hs1.below hb17
      obtain ⟨z1A, z1c, rfl⟩ := own_form hz1.2.1
      have HST := stk_two (HSA.out _ b17) (HSB5.out _ b17)
      have eA : Below w17.heap.size w17 (w17.alloc (.cells #[.slice (some ⟨lg, 0, none⟩) a.length lcap, .slice bA b.length bcap] 45)) := (Below.refl _ _).alloc (Nat.le_refl _) _
      have bA17 := b17.trans (eA.mono b17.size)
      have HK := applyAll_impl _ _ [a, b] t x y _ HST (HRT.out _ bA17).sl (by simp) (by omega) (fun l hm => by rcases List.mem_cons.1 hm with rfl | hm; exact ⟨by omega, HAP.out⟩; rw [List.mem_singleton.1 hm]; exact ⟨by omega, HBP.out⟩) HTP.out (HTT.out _ bA17)
      rw [HAC.out, HAR.out, HAS.out] at HK
      go_wp2_with fail
      refine HK.mono ?_
      rintro e w18 ⟨z2, rfl, hbx18, hz2⟩
      clear HK HST
      have hb18 : Below w17.heap.size w17 w18 := eA.trans (hbx18.mono eA.size)
      have b18 := b17.trans (hb18.mono b17.size)
      clear eA hbx18
      replace hs1 := hs1.below hb18
      replace hz1 := hz1.below hb18
      obtain ⟨z2A, z2c, rfl⟩ := own_form hz2.2.1
      have HST := stk_two (HSA.out _ b18) (HSB5.out _ b18)
      have eA : Below w18.heap.size w18 (w18.alloc (.cells #[.slice (some ⟨lg, 0, none⟩) a.length lcap, .slice bA b.length bcap] 45)) := (Below.refl _ _).alloc (Nat.le_refl _) _
      have bA18 := b18.trans (eA.mono b18.size)
      have HK := applyAll_spec _ _ [a, b] t _ _ HST (HRT.out _ bA18) (by simp) (fun l hm => by rcases List.mem_cons.1 hm with rfl | hm; omega; rw [List.mem_singleton.1 hm]; omega) (by omega)
      rw [HAC.out, HAR.out, HAS.out] at HK
      go_wp2_with fail
      refine HK.mono ?_
      rintro e w19 ⟨z3, rfl, hbx19, hz3⟩
      clear HK HST
      have hb19 : Below w18.heap.size w18 w19 := eA.trans (hbx19.mono eA.size)
      have b19 := b18.trans (hb19.mono b18.size)
      clear eA hbx19
      replace hs1 := hs1.below hb19
      replace hz1 := hz1.below hb19
      replace hz2 := hz2.below hb19
      obtain ⟨z3A, z3c, rfl⟩ := own_form hz3.2.1
      have HK := isCanonical_impl _ S x y w19 hs1.sl (by omega) HSP.out (HTT.out _ b19)
      rw [HIC.out] at HK
      have hacc : (ac == ac) = true := by simp
      go_wp2_with fail
      refine HK.mono ?_
      rintro e w20 ⟨rfl, hb20⟩
      clear HK
      have b20 := b19.trans (hb20.mono b19.size)
      replace hs1 := hs1.below hb20
      replace hz1 := hz1.below hb20
      replace hz2 := hz2.below hb20
      replace hz3 := hz3.below hb20
      have HK := sameNodes_any _ _ (appR S t) (appR S t) w20 hz1.sl hz3.sl harl
      rw [decide_eq_true rfl] at HK
      go_wp2_with fail
      refine HK.mono ?_
      rintro e w21 ⟨rfl, n21, hw21⟩
      clear HK
      have hb21 : Below w20.heap.size w20 w21 := by rw [hw21]; exact below_drewN (Below.refl _ _) n21
      clear hw21
      have b21 := b20.trans (hb21.mono b20.size)
      replace hs1 := hs1.below hb21
      replace hz1 := hz1.below hb21
      replace hz2 := hz2.below hb21
      replace hz3 := hz3.below hb21
      have HK := sameNodes_any _ _ (appR S t) (appR S t) w21 hz2.sl hz3.sl harl
      rw [decide_eq_true rfl] at HK
      go_wp2_with fail
      refine HK.mono ?_
      rintro e w22 ⟨rfl, n22, hw22⟩
      clear HK
      have hb22 : Below w21.heap.size w21 w22 := by rw [hw22]; exact below_drewN (Below.refl _ _) n22
      clear hw22
      have b22 := b21.trans (hb22.mono b21.size)
      replace hs1 := hs1.below hb22
      replace hz1 := hz1.below hb22
      replace hz2 := hz2.below hb22
      replace hz3 := hz3.below hb22
      go_wp2_with fail
      go_ret
      exact ⟨rfl, c5.trans (b22.mono c5.size)⟩

theorem walk (a0 : Option Addr) (len0 cap0 : Nat) (z0 : List Int) (a1 : Option Addr) (len1 cap1 : Nat) (z1 : List Int) (w : World) (r0 : IsRow .u8 w a0 len0 cap0 z0) (r1 : IsRow .u8 w a1 len1 cap1 z1) (hT : ∃ x y, Three w x y) :
    Calls Tryz.prog 6 #[.slice a0 len0 cap0, .slice a1 len1 cap1] w fun e w' => e = .returned (.bool true) ∧ Below w.heap.size w w' := by
  obtain ⟨x, y, hT⟩ := hT
  by_cases h0 : len0 ≤ 1048576
  · by_cases h1 : len1 ≤ 1048576
    · obtain ⟨v0, c0, _⟩ := r0.vals h0
      obtain ⟨v1, c1, n1⟩ := r1.vals h1
      exact walk_small a0 len0 cap0 a1 len1 cap1 _ w v0.byts c0 h0 v1 c1 h1 n1 x y hT
    · have hd0 : decide ((1048576 : Int) < (len0 : Int)) = false := by simp; omega
      have hd1 : decide ((1048576 : Int) < (len1 : Int)) = true := by simp; omega
      clear r0 r1
      go_enter Tryz.func6, Tryz.ntmps6
      go_wp2_with fail
      go_ret
      exact ⟨rfl, Below.refl _ _⟩
  · have hd0 : decide ((1048576 : Int) < (len0 : Int)) = true := by simp; omega
    clear r0 r1
    go_enter Tryz.func6, Tryz.ntmps6
    go_wp2_with fail
    go_ret
    exact ⟨rfl, Below.refl _ _⟩

end Go.Proofs.YtcbmnihepeefaaaGreatDoor.LawFnSquash0
