/- Parts of several texts of mine in one file (each begins with its own remark). -/
import Derived.Test.YtibekkfbpmloiabGreatDoorCA10
import Derived.Test.YtibekkfbpmloiabGreatDoorCA11
import Derived.Test.YtibekkfbpmloiabGreatDoorCA13
import Derived.Test.YtibekkfbpmloiabGreatDoorCA14
import Derived.Test.YtibekkfbpmloiabGreatDoorCA15
import Derived.Test.YtibekkfbpmloiabGreatDoorCA16
import Derived.Test.YtibekkfbpmloiabGreatDoorCA17
import Derived.Test.YtibekkfbpmloiabGreatDoorCA2
import Derived.Test.YtibekkfbpmloiabGreatDoorCA20
import Derived.Test.YtibekkfbpmloiabGreatDoorCA21
import Derived.Test.YtibekkfbpmloiabGreatDoorCA22
import Derived.Test.YtibekkfbpmloiabGreatDoorCA3
import Derived.Test.YtibekkfbpmloiabGreatDoorCA4
import Derived.Test.YtibekkfbpmloiabGreatDoorCA5
import Derived.Test.YtibekkfbpmloiabGreatDoorCA6
import Derived.Test.YtibekkfbpmloiabGreatDoorCA7
import Derived.Test.YtibekkfbpmloiabGreatDoorCA9
import Derived.Test.YtibekkfbpmloiabGreatDoorCC10
import Derived.Test.YtibekkfbpmloiabGreatDoorCC11
import Derived.Test.YtibekkfbpmloiabGreatDoorCC13
import Derived.Test.YtibekkfbpmloiabGreatDoorCC15
import Derived.Test.YtibekkfbpmloiabGreatDoorCC17
import Derived.Test.YtibekkfbpmloiabGreatDoorCC7
import Derived.Test.YtibekkfbpmloiabGreatDoorCC8
import Derived.Test.YtibekkfbpmloiabGreatDoorCF1
import Derived.Test.YtibekkfbpmloiabGreatDoorCards
import Derived.Test.YtibekkfbpmloiabGreatDoorTie
import Derived.Test.YtibekkfbpmloiabGreatDoorShelf2
import Derived.Test.YtibekkfbpmloiabGreatDoorChecked
import Derived.Test.YtibekkfbpmloiabGreatDoorShelf
import Derived.Test.YtibekkfbpmloiabGreatDoorRows
import Derived.Test.YtibekkfbpmloiabGreatDoorProg
import Derived.Deep.Cut
import Derived.Deep.CutRange
import Derived.Deep.RegionHeld3
import Derived.WalkKit
import Derived.ProofKit
import Derived.OpenShut
import Derived.ShutString
import Derived.ChangeOld
import Derived.ChangeVars
import Derived.OpenVars
import Derived.Below
import Derived.Lay
import Derived.LaidMore
import Derived.Stop.Joined
import Derived.SevenTiedAt
import Derived.Deep.DeepHandedRow
import Derived.Lib.LaidTab
import Derived.Shelf.SlSortCmp.NoneTotal
import Derived.Sort.OwnSorted
import Derived.RangeFuncNested
import Derived.RangeFuncBound
import Derived.RangeFuncCalls
import Derived.RangeFuncLeaves
import Derived.RangeFuncBox
import Derived.Shelf.Abstract
import Derived.Shelf.RegionOpen
import Derived.OwnWalkIn
import Derived.TacticsInMore
import Derived.LoopNIn
import Derived.LoopIn
import Derived.Maps.OwnIn
import Derived.Maps.AppendAt
import Derived.Sort.MapsRangeIn
import Derived.Sort.KeysCollected
import Derived.Laws.IdiomRangeMap
import Derived.StillTailTactics
import Derived.Deep.Slices
import Derived.ChangeArms
import Derived.WideShapes
import Derived.BigQuiet
import Derived.Deep.QuietTactic
import Derived.Deep.Draws
import Derived.Deep.LoopGhost
import Derived.WalkSpells
import Derived.WalkSmall
import Derived.Lib.OthersKept
import Derived.Lib.Hide
import Derived.Lib.Strings
import Derived.Maps.RangeWalk
import Derived.Maps.Ext
import Derived.Lib.SlMapFilter
import Derived.Laws.OwnMore
import Derived.BigRegion
import Derived.Lib.Join
import Derived.Laws.BytesArg
import Derived.WalkLawsBesides
import Derived.Deep.RegionWith
import Derived.OneCell
import Derived.Lib.SliceRun
import Derived.Lib.Overlaps
import Derived.Lib.AppendZerosOnto
import Derived.Laws.NewBlocks
import Derived.Laws.IdiomCopy
import Derived.Deep.RegionLaw
import Derived.LaidEql
import Derived.Stop.Asserts
import Derived.Stop.LaidErr
import Derived.Stop.LaidTwo
import Derived.Deep.CutBlock
import Derived.Sort.Grow
import Derived.Deep.AppendLies
import Derived.Laws.EntriesVeiled
import Derived.Laws.AppendOwnNone
import Derived.RegionTactic
import Derived.IntWalk
/- For all two slices of bytes, FnUndo answers true. Conditions: the table of kinds and the two sentinels hold what their own initialisers lay (tied to the program's text by the given tie). -/
namespace Go.Proofs.YtibekkfbpmloiabGreatDoor.LawFnUndo0
open Go.ChangeShapes Go.WideShapes Go.ChangeAt Go.RowKit
open Go.ChangeMaps (open_string shut_string)
open Recs Paths Draw
set_option linter.unusedVariables false
set_option maxRecDepth 100000

theorem byts_wide {w : World} {B B' : Nat} {A : Option Addr} {n : Nat} (h : Byts w B A n) (hB : B ≤ B') : Byts w B' A n := by
  obtain ⟨h1, h⟩ := h
  refine ⟨h1, fun hn => ?_⟩
  obtain ⟨b, off, rfl, hlt, hc⟩ := h hn
  exact ⟨b, off, rfl, by omega, hc⟩
set_option maxHeartbeats 16000000 in
theorem walk_small (a0 : Option Addr) (len0 cap0 : Nat) (a1 : Option Addr) (len1 cap1 : Nat) (w : World) (B0 : Byts w w.heap.size a0 len0) (c0 : len0 ≤ cap0) (h0 : len0 ≤ 1048576) (B1 : Byts w w.heap.size a1 len1) (c1 : len1 ≤ cap1) (h1 : len1 ≤ 1048576) (x y : Addr) (hT : Three w x y) :
    Calls Tryz.prog 4 #[.slice a0 len0 cap0, .slice a1 len1 cap1] w fun e w' => e = .returned (.bool true) ∧ Below w.heap.size w w' := by
  have HB0 := Lib.hid B0
  have HB1 := Lib.hid B1
  have HT := Lib.hid hT
  have hd0 : decide ((1048576 : Int) < (len0 : Int)) = false := by simp; omega
  have hd1 : decide ((1048576 : Int) < (len1 : Int)) = false := by simp; omega
  clear B0 B1 hT
  go_enter Tryz.func4, Tryz.ntmps4
  go_wp2_with fail
  refine (layerDrawn_any w a0 len0 cap0 HB0.out c0).mono ?_
  rintro e w1 ⟨v, l, rfl, hok, hb1, hrl, _⟩
  obtain ⟨vA, vcap, rfl⟩ := hrl.form
  have HOK := Lib.hid hok
  have HRL := Lib.hid hrl
  have HTD := treeDrawn_any w1 a1 len1 cap1 (byts_wide (HB1.out.below hb1) hb1.size) c1
  clear hok hrl
  go_wp2_with fail
  refine HTD.mono ?_
  rintro e w2 ⟨u, t, rfl, htr, hto, hb2, hrt, _, _⟩
  have c2 := hb1.trans (hb2.mono hb1.size)
  obtain ⟨uA, ucap, rfl⟩ := own_form hrt.2.1
  have HTR := Lib.hid htr
  have HTO := Lib.hid hto
  have HSL : Hid (∀ W, Below w2.heap.size w2 W → RecSl W (.slice vA l.length vcap) l) := fun W hW => ((HRL.out.below hb2).below hW).sl
  have HRT : Hid (∀ W, Below w2.heap.size w2 W → RowN W w1.heap.size (.slice uA t.length ucap) t.length t) := fun W hW => hrt.below hW
  have HTT : Hid (∀ W, Below w2.heap.size w2 W → Three W x y) := fun W hW => HT.out.below (c2.trans (hW.mono c2.size)) (Nat.le_refl _)
  have hl16 := layer_len HOK.out
  have ht24 := HTR.out.len
  have HLP := Lib.hid (Recs.short_path (layer_is HOK.out).path)
  have HTP := Lib.hid (Recs.short_path HTR.out.is.path)
  have HUC := Lib.hid (undo_cases HOK.out HTR.out HTO.out)
  have HRC := Lib.hid (rebase_cases HOK.out HTR.out HTO.out)
  have HPC := Lib.hid (app_cases HOK.out HTR.out HTO.out)
  have hul := un_len l t
  have hrl := rb_len l t
  have hal := app_len l t (by omega)
  obtain ⟨uc, huc⟩ : ∃ uc, unC l t = uc := ⟨_, rfl⟩
  obtain ⟨U, hU⟩ : ∃ U, unR l t = U := ⟨_, rfl⟩
  obtain ⟨rc, hrc⟩ : ∃ rc, rbC l t = rc := ⟨_, rfl⟩
  obtain ⟨Q, hQ⟩ : ∃ Q, rbR l t = Q := ⟨_, rfl⟩
  obtain ⟨ac, hac⟩ : ∃ ac, appC l t = ac := ⟨_, rfl⟩
  obtain ⟨X, hX⟩ : ∃ X, appR l t = X := ⟨_, rfl⟩
  have HUC2 : Hid ((uc = 7 ∧ U = []) ∨ (uc = 6 ∧ U = []) ∨ (uc = 0 ∧ ac = 0 ∧ layerOK U = true ∧ appC U X = 0 ∧ appR U X = t)) := by rw [← huc, ← hU, ← hac, ← hX]; exact HUC.out
  have HRC2 : Hid ((rc = 7 ∧ Q = []) ∨ (rc = 6 ∧ Q = []) ∨ (rc = 0 ∧ ac = 0 ∧ layerOK Q = true ∧ appC Q t = 0 ∧ appR Q t = X)) := by rw [← hrc, ← hQ, ← hac, ← hX]; exact HRC.out
  have HXP : Hid (∀ r ∈ X, r.p.size ≤ maxLen) := by
    rcases HPC.out with ⟨_, h2⟩ | ⟨_, h2, h3, _⟩
    · rw [← hX, h2]; exact fun r hr => by cases hr
    · rw [← hX, h2]; exact Recs.short_path h3.is.path
  rw [hU] at hul
  rw [hQ] at hrl
  rw [hX] at hal
  have EUC := Lib.hid huc
  have EU := Lib.hid hU
  have ERC := Lib.hid hrc
  have EQ := Lib.hid hQ
  have EAC := Lib.hid hac
  have EX := Lib.hid hX
  clear huc hU hrc hQ hac hX htr hto hrt HTD HUC HRC HPC HT HB0 HB1 HRL
  have b2 := Below.refl w2.heap.size w2
  have hucc : (uc != uc) = false := by simp
  have hrcc : (rc != rc) = false := by simp
  have HK := UndoOf_impl _ _ l t x y w2 (HSL.out _ b2) (HRT.out _ b2).sl (by omega) (by omega) HLP.out HTP.out (HTT.out _ b2)
  rw [EUC.out, EU.out] at HK
  go_wp2_with fail
  refine HK.mono ?_
  rintro e w3 ⟨s1, rfl, hb3, hs1⟩
  clear HK
  have b3 := b2.trans (hb3.mono b2.size)
  obtain ⟨s1A, s1c, rfl⟩ := hs1.form
  have HK := UndoOf_spec _ _ l t _ w3 (HSL.out _ b3) (HRT.out _ b3) (by omega) (by omega)
  rw [EUC.out, EU.out] at HK
  go_wp2_with fail
  refine HK.mono ?_
  rintro e w4 ⟨s2, rfl, hb4, hs2⟩
  clear HK
  have b4 := b3.trans (hb4.mono b3.size)
  replace hs1 := hs1.below hb4
  obtain ⟨s2A, s2c, rfl⟩ := hs2.form
  have HK := Rebase_impl _ _ l t x y w4 (HSL.out _ b4) (HRT.out _ b4).sl (by omega) (by omega) HLP.out HTP.out (HTT.out _ b4)
  rw [ERC.out, EQ.out] at HK
  go_wp2_with fail
  refine HK.mono ?_
  rintro e w5 ⟨s3, rfl, hb5, hs3⟩
  clear HK
  have b5 := b4.trans (hb5.mono b4.size)
  replace hs1 := hs1.below hb5
  replace hs2 := hs2.below hb5
  obtain ⟨s3A, s3c, rfl⟩ := hs3.form
  have HK := Rebase_spec _ _ l t _ w5 (HSL.out _ b5) (HRT.out _ b5) (by omega) (by omega)
  rw [ERC.out, EQ.out] at HK
  go_wp2_with fail
  refine HK.mono ?_
  rintro e w6 ⟨s4, rfl, hb6, hs4⟩
  clear HK
  have b6 := b5.trans (hb6.mono b5.size)
  replace hs1 := hs1.below hb6
  replace hs2 := hs2.below hb6
  replace hs3 := hs3.below hb6
  obtain ⟨s4A, s4c, rfl⟩ := hs4.form
  have HK := sameRecords_any _ _ U U w6 hs1.sl hs2.sl hul
  rw [decide_eq_true rfl] at HK
  go_wp2_with fail
  refine HK.mono ?_
  rintro e w7 ⟨rfl, n7, hw7⟩
  clear HK
  have hb7 : Below w6.heap.size w6 w7 := by rw [hw7]; exact below_drewN (Below.refl _ _) n7
  clear hw7
  have b7 := b6.trans (hb7.mono b6.size)
  replace hs1 := hs1.below hb7
  replace hs2 := hs2.below hb7
  replace hs3 := hs3.below hb7
  replace hs4 := hs4.below hb7
  have HK := sameRecords_any _ _ Q Q w7 hs3.sl hs4.sl hrl
  rw [decide_eq_true rfl] at HK
  go_wp2_with fail
  refine HK.mono ?_
  rintro e w8 ⟨rfl, n8, hw8⟩
  clear HK
  have hb8 : Below w7.heap.size w7 w8 := by rw [hw8]; exact below_drewN (Below.refl _ _) n8
  clear hw8
  have b8 := b7.trans (hb8.mono b7.size)
  replace hs1 := hs1.below hb8
  replace hs2 := hs2.below hb8
  replace hs3 := hs3.below hb8
  replace hs4 := hs4.below hb8
  clear hs2 hs4
  have HK := apply_spec _ _ l t _ w8 (HSL.out _ b8) (HRT.out _ b8) (by omega) (by omega)
  rw [EAC.out, EX.out] at HK
  go_wp2_with fail
  refine HK.mono ?_
  rintro e w9 ⟨z1, rfl, hb9, hz1⟩
  clear HK
  have b9 := b8.trans (hb9.mono b8.size)
  replace hs1 := hs1.below hb9
  replace hs3 := hs3.below hb9
  obtain ⟨z1A, z1c, rfl⟩ := own_form hz1.2.1
  rcases HUC2.out with ⟨rfl, rfl⟩ | ⟨rfl, rfl⟩ | ⟨rfl, hac0, huo, hu1, hu2⟩
  · rcases HRC2.out with ⟨rfl, rfl⟩ | ⟨rfl, rfl⟩ | ⟨rfl, hac1, hqo, hq1, hq2⟩
    · as_aux_lemma =>
        clear HUC2 HRC2
        go_wp2_with fail
        go_ret
        exact ⟨rfl, c2.trans (b9.mono c2.size)⟩
    · as_aux_lemma =>
        clear HUC2 HRC2
        go_wp2_with fail
        go_ret
        exact ⟨rfl, c2.trans (b9.mono c2.size)⟩
    · as_aux_lemma =>
        have hq16 := layer_len hqo
        have HQP := Lib.hid (Recs.short_path (layer_is hqo).path)
        have HA3 := Lib.hid hq1
        have HA4 := Lib.hid hq2
        clear hqo hq1 hq2
        obtain rfl := hac1
        clear HUC2 HRC2
        have HK := apply_impl _ _ Q t x y w9 hs3.sl (HRT.out _ b9).sl (by omega) (by omega) HQP.out HTP.out (HTT.out _ b9)
        rw [HA3.out, HA4.out] at HK
        go_wp2_with fail
        refine HK.mono ?_
        rintro e w10 ⟨y2, rfl, hb10, hy2⟩
        clear HK
        have b10 := b9.trans (hb10.mono b9.size)
        replace hs1 := hs1.below hb10
        replace hs3 := hs3.below hb10
        replace hz1 := hz1.below hb10
        obtain ⟨y2A, y2c, rfl⟩ := own_form hy2.2.1
        have HK := sameNodes_any _ _ X X w10 hy2.sl hz1.sl hal
        rw [decide_eq_true rfl] at HK
        go_wp2_with fail
        refine HK.mono ?_
        rintro e w11 ⟨rfl, n11, hw11⟩
        clear HK
        have hb11 : Below w10.heap.size w10 w11 := by rw [hw11]; exact below_drewN (Below.refl _ _) n11
        clear hw11
        have b11 := b10.trans (hb11.mono b10.size)
        replace hs1 := hs1.below hb11
        replace hs3 := hs3.below hb11
        replace hz1 := hz1.below hb11
        replace hy2 := hy2.below hb11
        go_wp2_with fail
        go_ret
        exact ⟨rfl, c2.trans (b11.mono c2.size)⟩
  · rcases HRC2.out with ⟨rfl, rfl⟩ | ⟨rfl, rfl⟩ | ⟨rfl, hac1, hqo, hq1, hq2⟩
    · as_aux_lemma =>
        clear HUC2 HRC2
        go_wp2_with fail
        go_ret
        exact ⟨rfl, c2.trans (b9.mono c2.size)⟩
    · as_aux_lemma =>
        clear HUC2 HRC2
        go_wp2_with fail
        go_ret
        exact ⟨rfl, c2.trans (b9.mono c2.size)⟩
    · as_aux_lemma =>
        have hq16 := layer_len hqo
        have HQP := Lib.hid (Recs.short_path (layer_is hqo).path)
        have HA3 := Lib.hid hq1
        have HA4 := Lib.hid hq2
        clear hqo hq1 hq2
        obtain rfl := hac1
        clear HUC2 HRC2
        have HK := apply_impl _ _ Q t x y w9 hs3.sl (HRT.out _ b9).sl (by omega) (by omega) HQP.out HTP.out (HTT.out _ b9)
        rw [HA3.out, HA4.out] at HK
        go_wp2_with fail
        refine HK.mono ?_
        rintro e w10 ⟨y2, rfl, hb10, hy2⟩
        clear HK
        have b10 := b9.trans (hb10.mono b9.size)
        replace hs1 := hs1.below hb10
        replace hs3 := hs3.below hb10
        replace hz1 := hz1.below hb10
        obtain ⟨y2A, y2c, rfl⟩ := own_form hy2.2.1
        have HK := sameNodes_any _ _ X X w10 hy2.sl hz1.sl hal
        rw [decide_eq_true rfl] at HK
        go_wp2_with fail
        refine HK.mono ?_
        rintro e w11 ⟨rfl, n11, hw11⟩
        clear HK
        have hb11 : Below w10.heap.size w10 w11 := by rw [hw11]; exact below_drewN (Below.refl _ _) n11
        clear hw11
        have b11 := b10.trans (hb11.mono b10.size)
        replace hs1 := hs1.below hb11
        replace hs3 := hs3.below hb11
        replace hz1 := hz1.below hb11
        replace hy2 := hy2.below hb11
        go_wp2_with fail
        go_ret
        exact ⟨rfl, c2.trans (b11.mono c2.size)⟩
  · have hu16 := layer_len huo
    have HUP := Lib.hid (Recs.short_path (layer_is huo).path)
    have HA1 := Lib.hid hu1
    have HA2 := Lib.hid hu2
    clear huo hu1 hu2
    obtain rfl := hac0
    rcases HRC2.out with ⟨rfl, rfl⟩ | ⟨rfl, rfl⟩ | ⟨rfl, hac1, hqo, hq1, hq2⟩
    · as_aux_lemma =>
        clear HUC2 HRC2
        have HK := apply_impl _ _ U X x y w9 hs1.sl hz1.sl (by omega) hal HUP.out HXP.out (HTT.out _ b9)
        rw [HA1.out, HA2.out] at HK
        go_wp2_with fail
        refine HK.mono ?_
        rintro e w10 ⟨y1, rfl, hb10, hy1⟩
        clear HK
        have b10 := b9.trans (hb10.mono b9.size)
        replace hs1 := hs1.below hb10
        replace hs3 := hs3.below hb10
        replace hz1 := hz1.below hb10
        obtain ⟨y1A, y1c, rfl⟩ := own_form hy1.2.1
        have HK := sameNodes_any _ _ t t w10 hy1.sl (HRT.out _ b10).sl (by omega)
        rw [decide_eq_true rfl] at HK
        go_wp2_with fail
        refine HK.mono ?_
        rintro e w11 ⟨rfl, n11, hw11⟩
        clear HK
        have hb11 : Below w10.heap.size w10 w11 := by rw [hw11]; exact below_drewN (Below.refl _ _) n11
        clear hw11
        have b11 := b10.trans (hb11.mono b10.size)
        replace hs1 := hs1.below hb11
        replace hs3 := hs3.below hb11
        replace hz1 := hz1.below hb11
        replace hy1 := hy1.below hb11
        clear hy1
        go_wp2_with fail
        go_ret
        exact ⟨rfl, c2.trans (b11.mono c2.size)⟩
    · as_aux_lemma =>
        clear HUC2 HRC2
        have HK := apply_impl _ _ U X x y w9 hs1.sl hz1.sl (by omega) hal HUP.out HXP.out (HTT.out _ b9)
        rw [HA1.out, HA2.out] at HK
        go_wp2_with fail
        refine HK.mono ?_
        rintro e w10 ⟨y1, rfl, hb10, hy1⟩
        clear HK
        have b10 := b9.trans (hb10.mono b9.size)
        replace hs1 := hs1.below hb10
        replace hs3 := hs3.below hb10
        replace hz1 := hz1.below hb10
        obtain ⟨y1A, y1c, rfl⟩ := own_form hy1.2.1
        have HK := sameNodes_any _ _ t t w10 hy1.sl (HRT.out _ b10).sl (by omega)
        rw [decide_eq_true rfl] at HK
        go_wp2_with fail
        refine HK.mono ?_
        rintro e w11 ⟨rfl, n11, hw11⟩
        clear HK
        have hb11 : Below w10.heap.size w10 w11 := by rw [hw11]; exact below_drewN (Below.refl _ _) n11
        clear hw11
        have b11 := b10.trans (hb11.mono b10.size)
        replace hs1 := hs1.below hb11
        replace hs3 := hs3.below hb11
        replace hz1 := hz1.below hb11
        replace hy1 := hy1.below hb11
        clear hy1
        go_wp2_with fail
        go_ret
        exact ⟨rfl, c2.trans (b11.mono c2.size)⟩
    · as_aux_lemma =>
        have hq16 := layer_len hqo
        have HQP := Lib.hid (Recs.short_path (layer_is hqo).path)
        have HA3 := Lib.hid hq1
        have HA4 := Lib.hid hq2
        clear hqo hq1 hq2 hac1
        clear HUC2 HRC2
        have HK := apply_impl _ _ U X x y w9 hs1.sl hz1.sl (by omega) hal HUP.out HXP.out (HTT.out _ b9)
        rw [HA1.out, HA2.out] at HK
        go_wp2_with fail
        refine HK.mono ?_
        rintro e w10 ⟨y1, rfl, hb10, hy1⟩
        clear HK
        have b10 := b9.trans (hb10.mono b9.size)
        replace hs1 := hs1.below hb10
        replace hs3 := hs3.below hb10
        replace hz1 := hz1.below hb10
        obtain ⟨y1A, y1c, rfl⟩ := own_form hy1.2.1
        have HK := sameNodes_any _ _ t t w10 hy1.sl (HRT.out _ b10).sl (by omega)
        rw [decide_eq_true rfl] at HK
        go_wp2_with fail
        refine HK.mono ?_
        rintro e w11 ⟨rfl, n11, hw11⟩
        clear HK
        have hb11 : Below w10.heap.size w10 w11 := by rw [hw11]; exact below_drewN (Below.refl _ _) n11
        clear hw11
        have b11 := b10.trans (hb11.mono b10.size)
        replace hs1 := hs1.below hb11
        replace hs3 := hs3.below hb11
        replace hz1 := hz1.below hb11
        replace hy1 := hy1.below hb11
        clear hy1
        have HK := apply_impl _ _ Q t x y w11 hs3.sl (HRT.out _ b11).sl (by omega) (by omega) HQP.out HTP.out (HTT.out _ b11)
        rw [HA3.out, HA4.out] at HK
        go_wp2_with fail
        refine HK.mono ?_
        rintro e w12 ⟨y2, rfl, hb12, hy2⟩
        clear HK
        have b12 := b11.trans (hb12.mono b11.size)
        replace hs1 := hs1.below hb12
        replace hs3 := hs3.below hb12
        replace hz1 := hz1.below hb12
        obtain ⟨y2A, y2c, rfl⟩ := own_form hy2.2.1
        have HK := sameNodes_any _ _ X X w12 hy2.sl hz1.sl hal
        rw [decide_eq_true rfl] at HK
        go_wp2_with fail
        refine HK.mono ?_
        rintro e w13 ⟨rfl, n13, hw13⟩
        clear HK
        have hb13 : Below w12.heap.size w12 w13 := by rw [hw13]; exact below_drewN (Below.refl _ _) n13
        clear hw13
        have b13 := b12.trans (hb13.mono b12.size)
        replace hs1 := hs1.below hb13
        replace hs3 := hs3.below hb13
        replace hz1 := hz1.below hb13
        replace hy2 := hy2.below hb13
        go_wp2_with fail
        go_ret
        exact ⟨rfl, c2.trans (b13.mono c2.size)⟩

theorem walk (a0 : Option Addr) (len0 cap0 : Nat) (z0 : List Int) (a1 : Option Addr) (len1 cap1 : Nat) (z1 : List Int) (w : World) (r0 : IsRow .u8 w a0 len0 cap0 z0) (r1 : IsRow .u8 w a1 len1 cap1 z1) (hT : ∃ x y, Three w x y) :
    Calls Tryz.prog 4 #[.slice a0 len0 cap0, .slice a1 len1 cap1] w fun e w' => e = .returned (.bool true) ∧ Below w.heap.size w w' := by
  obtain ⟨x, y, hT⟩ := hT
  by_cases h0 : len0 ≤ 1048576
  · by_cases h1 : len1 ≤ 1048576
    · obtain ⟨v0, c0, _⟩ := r0.vals h0
      obtain ⟨v1, c1, n1⟩ := r1.vals h1
      exact walk_small a0 len0 cap0 a1 len1 cap1 w v0.byts c0 h0 v1.byts c1 h1 x y hT
    · have hd0 : decide ((1048576 : Int) < (len0 : Int)) = false := by simp; omega
      have hd1 : decide ((1048576 : Int) < (len1 : Int)) = true := by simp; omega
      clear r0 r1
      go_enter Tryz.func4, Tryz.ntmps4
      go_wp2_with fail
      go_ret
      exact ⟨rfl, Below.refl _ _⟩
  · have hd0 : decide ((1048576 : Int) < (len0 : Int)) = true := by simp; omega
    clear r0 r1
    go_enter Tryz.func4, Tryz.ntmps4
    go_wp2_with fail
    go_ret
    exact ⟨rfl, Below.refl _ _⟩
end Go.Proofs.YtibekkfbpmloiabGreatDoor.LawFnUndo0
