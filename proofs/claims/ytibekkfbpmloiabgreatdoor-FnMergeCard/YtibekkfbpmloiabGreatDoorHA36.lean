/- Parts of several texts of mine in one file (each begins with its own remark). -/
import Derived.Test.YtibekkfbpmloiabGreatDoorHA1
import Derived.Test.YtibekkfbpmloiabGreatDoorHA10
import Derived.Test.YtibekkfbpmloiabGreatDoorHA12
import Derived.Test.YtibekkfbpmloiabGreatDoorHA13
import Derived.Test.YtibekkfbpmloiabGreatDoorHA14
import Derived.Test.YtibekkfbpmloiabGreatDoorHA15
import Derived.Test.YtibekkfbpmloiabGreatDoorHA16
import Derived.Test.YtibekkfbpmloiabGreatDoorHA17
import Derived.Test.YtibekkfbpmloiabGreatDoorHA19
import Derived.Test.YtibekkfbpmloiabGreatDoorHA2
import Derived.Test.YtibekkfbpmloiabGreatDoorHA20
import Derived.Test.YtibekkfbpmloiabGreatDoorHA21
import Derived.Test.YtibekkfbpmloiabGreatDoorHA22
import Derived.Test.YtibekkfbpmloiabGreatDoorHA23
import Derived.Test.YtibekkfbpmloiabGreatDoorHA24
import Derived.Test.YtibekkfbpmloiabGreatDoorHA25
import Derived.Test.YtibekkfbpmloiabGreatDoorHA27
import Derived.Test.YtibekkfbpmloiabGreatDoorHA28
import Derived.Test.YtibekkfbpmloiabGreatDoorHA29
import Derived.Test.YtibekkfbpmloiabGreatDoorHA3
import Derived.Test.YtibekkfbpmloiabGreatDoorHA30
import Derived.Test.YtibekkfbpmloiabGreatDoorHA33
import Derived.Test.YtibekkfbpmloiabGreatDoorHA34
import Derived.Test.YtibekkfbpmloiabGreatDoorHA35
import Derived.Test.YtibekkfbpmloiabGreatDoorHA4
import Derived.Test.YtibekkfbpmloiabGreatDoorHA5
import Derived.Test.YtibekkfbpmloiabGreatDoorHA6
import Derived.Test.YtibekkfbpmloiabGreatDoorHA7
import Derived.Test.YtibekkfbpmloiabGreatDoorHA8
import Derived.Test.YtibekkfbpmloiabGreatDoorHA9
import Derived.Test.YtibekkfbpmloiabGreatDoorCards
import Derived.Test.YtibekkfbpmloiabGreatDoorTie
import Derived.Test.YtibekkfbpmloiabGreatDoorChecked
import Derived.Test.YtibekkfbpmloiabGreatDoorShelf
import Derived.Test.YtibekkfbpmloiabGreatDoorProg
import Derived.Test.YtibekkfbpmloiabGreatDoorRows
import Derived.Test.YtibekkfbpmloiabGreatDoorShelf2
import Derived.Deep.Cut
import Derived.Deep.CutRange
import Derived.Deep.RegionHeld3
import Derived.WalkKit
import Derived.ProofKit
import Derived.OpenShut
import Derived.ShutString
import Derived.ChangeOld
import Derived.ChangeVars
import Derived.OpenVars
import Derived.Below
import Derived.Lay
import Derived.LaidMore
import Derived.Stop.Joined
import Derived.SevenTiedAt
import Derived.Deep.DeepHandedRow
import Derived.Lib.LaidTab
import Derived.Deep.Slices
import Derived.ChangeArms
import Derived.WideShapes
import Derived.BigQuiet
import Derived.Deep.QuietTactic
import Derived.StillTailTactics
import Derived.Deep.Draws
import Derived.Deep.LoopGhost
import Derived.WalkSpells
import Derived.WalkSmall
import Derived.Lib.OthersKept
import Derived.Lib.Hide
import Derived.Lib.Strings
import Derived.Lib.Join
import Derived.Laws.OwnMore
import Derived.BigRegion
import Derived.Laws.BytesArg
import Derived.Deep.AppendLies
import Derived.Laws.IdiomCopy
import Derived.Stop.LaidErr
import Derived.WalkLawsBesides
import Derived.LaidEql
import Derived.Stop.Asserts
import Derived.Stop.LaidTwo
import Derived.Deep.RegionWith
import Derived.OneCell
import Derived.Lib.SliceRun
import Derived.Lib.Overlaps
import Derived.Lib.AppendZerosOnto
import Derived.Laws.NewBlocks
import Derived.Deep.RegionLaw
import Derived.RangeFuncNested
import Derived.RangeFuncBound
import Derived.RangeFuncCalls
import Derived.RangeFuncLeaves
import Derived.RangeFuncBox
import Derived.Shelf.Abstract
import Derived.Shelf.RegionOpen
import Derived.OwnWalkIn
import Derived.TacticsInMore
import Derived.LoopNIn
import Derived.LoopIn
import Derived.Deep.CutBlock
import Derived.Laws.AppendOwnNone
import Derived.Shelf.SlSortCmp.NoneTotal
import Derived.Sort.OwnSorted
import Derived.Maps.OwnIn
import Derived.Maps.AppendAt
import Derived.Sort.MapsRangeIn
import Derived.Sort.KeysCollected
import Derived.Laws.IdiomRangeMap
import Derived.Maps.RangeWalk
import Derived.Maps.Ext
import Derived.Lib.SlMapFilter
import Derived.Sort.Grow
import Derived.Laws.EntriesVeiled
import Derived.RegionTactic
import Derived.IntWalk
/- For all two slices of bytes, FnMerge answers true. Conditions: the table of kinds and the two sentinels hold what their own initialisers lay (tied to the program's text by the given tie). -/
namespace Go.Proofs.YtibekkfbpmloiabGreatDoor.LawFnMerge0
open Go.ChangeShapes Go.WideShapes Go.ChangeAt Go.RowKit
open Go.ChangeMaps (open_string shut_string)
open Recs Paths Draw
set_option linter.unusedVariables false
set_option maxRecDepth 100000

theorem bel_set {K : Nat} {a w : World} (h : Below K a w) {o : Nat} (u : Value) : Below K a (w.setCell ⟨K, o, none⟩ u) := h.setCell (Nat.le_refl _) u
theorem bel_any {a w w' : World} (h : Below a.heap.size a w) (hb : Below w.heap.size w w') : Below a.heap.size a w' := h.trans (hb.mono h.size)
set_option maxHeartbeats 16000000 in
theorem walk_small (a0 : Option Addr) (len0 cap0 : Nat) (a1 : Option Addr) (len1 cap1 : Nat) (f1 : Nat → Nat) (w : World) (B0 : Byts w w.heap.size a0 len0) (c0 : len0 ≤ cap0) (h0 : len0 ≤ 1048576) (V1 : Vals w a1 len1 f1) (c1 : len1 ≤ cap1) (h1 : len1 ≤ 1048576) (x y : Addr) (hT : Three w x y) :
    Calls Tryz.prog 6 #[.slice a0 len0 cap0, .slice a1 len1 cap1] w fun e w' => e = .returned (.bool true) ∧ Below w.heap.size w w' := by
  have HB0 := Lib.hid B0
  have HV1 := Lib.hid V1
  have HT := Lib.hid hT
  have hd0 : decide ((1048576 : Int) < (len0 : Int)) = false := by simp; omega
  have hd1 : decide ((1048576 : Int) < (len1 : Int)) = false := by simp; omega
  clear B0 V1 hT
  go_enter Tryz.func6, Tryz.ntmps6
  go_wp2_with fail
  refine (stackDrawn_any w a0 len0 cap0 HB0.out c0).mono ?_
  rintro e w1 ⟨v, LL, rfl, hl3, hok, hb1, hst, hnv⟩
  obtain ⟨sg, scap, rfl, hcp⟩ := hst.atom hnv
  have HOK := Lib.hid hok
  have HSTK := Lib.hid (stk_small (LL := LL) (by omega) hok)
  have HSH := Lib.hid (stk_short hok)
  have HG : Hid (∀ W, Below w1.heap.size w1 W → StkGood W (.slice (some ⟨sg, 0, none⟩) LL.length scap) LL) := fun W hW => hst.good.below hW
  have HTT : Hid (∀ W, Below w1.heap.size w1 W → Three W x y) := fun W hW => HT.out.below (hb1.trans (hW.mono hb1.size)) (Nat.le_refl _)
  have HVV : Hid (∀ W, Below w1.heap.size w1 W → Vals W a1 len1 f1) := fun W hW => HV1.out.below (hb1.trans (hW.mono hb1.size))
  have hl5 : LL.length ≤ 1048576 := by omega
  have b1 := Below.refl w1.heap.size w1
  clear hok hst hnv HB0 HT HV1
  have EC0 := Lib.hid HSTK.out.2
  obtain ⟨PP, hPP⟩ : ∃ PP, pathsL LL = PP := ⟨_, rfl⟩
  have hPl : PP.length ≤ 80 := by rw [← hPP]; exact pathsL_len (fun l hm => layer_len (HOK.out l hm)) (by omega)
  have EPO : Hid (poR LL = bts PP) := by show _ = _; rw [po_ok EC0.out, hPP]
  have hWl : (winsOf LL PP).length ≤ 80 := Nat.le_trans (winsOf_len LL PP) hPl
  obtain ⟨WW, hWW⟩ : ∃ WW, winsOf LL PP = WW := ⟨_, rfl⟩
  have EWW := Lib.hid hWW
  rw [hWW] at hWl
  have ETR : Hid (trR LL = picksL WW) := by show _ = _; rw [tr_ok EC0.out, wins_of, hPP, hWW]
  clear hWW
  have HUPS : Hid (∀ i (h : i + 1 < PP.length), lessB PP[i] PP[i + 1] = true) := fun i h => by
    have hfine : ∀ l ∈ LL, Fine l := fun l hm => fine_layer (HOK.out l hm)
    have h1 := List.pairwise_iff_getElem.1 (pathsL_ups LL) i (i + 1) (by rw [hPP]; omega) (by rw [hPP]; exact h) (by omega)
    have hp : ∀ q ∈ PP, pathB q.data.toList = true := fun q hq => path_of_path hfine (by rw [hPP]; exact hq)
    subst hPP
    rw [lessB_yes (hp _ (List.getElem_mem _)) (hp _ (List.getElem_mem _))]
    exact h1
  have HPP : Hid (∀ q ∈ PP, pathB q.data.toList = true) := fun q hq => path_of_path (fun l hm => fine_layer (HOK.out l hm)) (by rw [hPP]; exact hq)
  have hbl : (bts PP).length ≤ maxLen := by unfold bts; rw [List.length_map]; unfold maxLen; omega
  clear hPP
  have HK := pathsOf_impl _ LL x y w1 (HG.out _ b1).sl hl5 HSH.out.1 (HTT.out _ b1)
  rw [EC0.out, EPO.out] at HK
  go_wp2_with fail
  refine HK.mono ?_
  rintro e w2 ⟨p1, rfl, hb2, hp1⟩
  clear HK
  have b2 := b1.trans (hb2.mono b1.size)
  obtain ⟨p1A, p1c, rfl⟩ := own_form hp1
  have HK := pathsOf_spec _ LL w2 (HG.out _ b2).sl hl5 HSH.out.2
  rw [EC0.out, EPO.out] at HK
  go_wp2_with fail
  refine HK.mono ?_
  rintro e w3 ⟨p2, rfl, hb3, hp2⟩
  clear HK
  have b3 := b2.trans (hb3.mono b2.size)
  replace hp1 := own_below hp1 hb3
  obtain ⟨p2A, p2c, rfl⟩ := own_form hp2
  have HK := mergeTrace_impl _ LL x y w3 (HG.out _ b3).sl hl5 HSH.out.1 (HTT.out _ b3)
  rw [EC0.out, ETR.out] at HK
  go_wp2_with fail
  refine HK.mono ?_
  rintro e w4 ⟨t1, rfl, hb4, ht1⟩
  clear HK
  have b4 := b3.trans (hb4.mono b3.size)
  replace hp1 := own_below hp1 hb4
  replace hp2 := own_below hp2 hb4
  obtain ⟨t1A, t1c, rfl⟩ := ht1.form
  have HK := mergeTrace_spec _ LL w4 (HG.out _ b4).sl hl5 HSH.out.2
  rw [EC0.out, ETR.out] at HK
  go_wp2_with fail
  refine HK.mono ?_
  rintro e w5 ⟨t2, rfl, hb5, ht2⟩
  clear HK
  have b5 := b4.trans (hb5.mono b4.size)
  replace hp1 := own_below hp1 hb5
  replace hp2 := own_below hp2 hb5
  replace ht1 := ht1.below hb5
  obtain ⟨t2A, t2c, rfl⟩ := ht2.form
  have HK := sameTexts_any _ _ (bts PP) (bts PP) w5 (Strs.own hp1) (Strs.own hp2) hbl
  rw [decide_eq_true rfl] at HK
  go_wp2_with fail
  refine HK.mono ?_
  rintro e w6 ⟨rfl, n6, hw6⟩
  clear HK
  have hb6 : Below w5.heap.size w5 w6 := by rw [hw6]; exact below_drewN (Below.refl _ _) n6
  clear hw6
  have b6 := b5.trans (hb6.mono b5.size)
  replace hp1 := own_below hp1 hb6
  replace hp2 := own_below hp2 hb6
  replace ht1 := ht1.below hb6
  replace ht2 := ht2.below hb6
  clear hp1
  have hpl2 : (picksL WW).length = WW.length := List.length_map _
  have HPL2 := Lib.hid hpl2
  have HP2 := Lib.hid hp2
  have HT1 := Lib.hid ht1
  have HT2 := Lib.hid ht2
  have hbtl : (bts PP).length = PP.length := by unfold bts; rw [List.length_map]
  have HBTL := Lib.hid hbtl
  rw [hpl2, hbtl]
  clear hp2 ht1 ht2 hpl2 hbtl
  go_wp2_with fail
  go_loopw [14, 15] (fun nv iv wr => ∃ k N : Nat, k ≤ PP.length ∧ iv = .int .i64 k ∧ nv = .int .i64 (N : Int) ∧ Hid (N = (winsOf LL (PP.take k)).length) ∧ Hid (wr.ownsRow w2.heap.size 9 1 (.slice p2A PP.length p2c) PP.length ((bts PP).map strV)) ∧ Hid (RowG csK 2 59 wr w3.heap.size (.slice t1A WW.length t1c) WW.length (picksL WW)) ∧ Hid (RowG csK 2 59 wr w4.heap.size (.slice t2A WW.length t2c) WW.length (picksL WW)) ∧ Below w1.heap.size w1 wr) (fun _ i _ => PP.length - (intOf i).toNat)
  case atStart =>
    refine ⟨0, 0, Nat.zero_le _, rfl, rfl, rfl, ?_, ?_, ?_, b6⟩
    · have := HP2.out; rw [HBTL.out] at this; exact this
    · have := HT1.out; rw [HPL2.out] at this; exact this
    · have := HT2.out; rw [HPL2.out] at this; exact this
  case round =>
    obtain ⟨k, N, hk, rfl, rfl, HN, HO, HK1, HK2, hbw⟩ := hrel
    by_cases hlt : k < PP.length
    · skip
      have HKC : Hid (∀ W, wr.heap.size ≤ wr.heap.size → Below wr.heap.size wr W → ∃ g, p2A = some ⟨g, 0, none⟩ ∧ ∀ i (hi : i < PP.length), W.cell? ⟨g, i, none⟩ = some (.string PP[i])) := fun W _ hW => by
        have ho := own_below HO.out hW
        have ho2 : W.ownsRow w2.heap.size 9 1 (.slice p2A PP.length p2c) (bts PP).length ((bts PP).map strV) := by rw [HBTL.out]; exact ho
        obtain ⟨A2, c2, e2, _, hc2⟩ := part_sl ho2
        have eA : p2A = A2 := by injection e2
        obtain ⟨g, eg, _, hcell⟩ := hc2 (by rw [HBTL.out]; omega)
        refine ⟨g, eA.trans eg, fun i hi => ?_⟩
        have := hcell i (by rw [HBTL.out]; exact hi)
        rw [this]
        unfold bts
        simp only [List.getElem_map]
        rfl
      obtain ⟨g, hgA, -⟩ := HKC.out wr (Nat.le_refl _) (Below.refl _ _)
      subst hgA
      have HCE : Hid (∀ W, Below wr.heap.size wr W → ∀ i (hi : i < PP.length), W.cell? ⟨g, i, none⟩ = some (.string PP[i])) := fun W hW i hi => by
        obtain ⟨g', e, h⟩ := HKC.out W (Nat.le_refl _) hW
        cases e
        exact h i hi
      have hq := HPP.out _ (List.getElem_mem hlt)
      have hqm := path_max hq
      have hsp := sp_fine (LL := LL) (q := PP[k]) (st_fine (by have h35 : PP[k].size ≤ 35 := by rw [Lib.size_eq]; exact pathB_len hq
                                                               omega) HSTK.out.1) hq
      have HQ := Lib.hid hq
      have HSP := Lib.hid hsp
      have HCD := Lib.hid (cd_ok hsp)
      have HWP : Hid (0 < (winC LL PP[k]).2 → WW[(winsOf LL (PP.take k)).length]? = some (winC LL PP[k]) ∧ (winsOf LL (PP.take k)).length < WW.length) := fun h => by rw [← EWW.out]; exact wins_place (LL := LL) hlt h
      have HWO := Lib.hid (fun (h : 0 < (winC LL PP[k]).2) => win_own (LL := LL) (q := PP[k]) HOK.out h hq)
      have HWS := Lib.hid (wins_step (LL := LL) hlt)
      have HWR := Lib.hid (fun (h : 0 < (winC LL PP[k]).2) => (win_rec (LL := LL) (q := PP[k]) h).2.1)
      have HWPA := Lib.hid (fun (h : 0 < (winC LL PP[k]).2) => (win_rec (LL := LL) (q := PP[k]) h).1)
      have hi1 : (k : Int) < (PP.length : Int) := by omega
      have hi0 : (0 : Int) ≤ (k : Int) := by omega
      have bb := Below.refl wr.heap.size wr
      have e1 := HCE.out wr bb k hlt
      obtain ⟨q, hqe⟩ : ∃ q, PP[k] = q := ⟨_, rfl⟩
      have HQE := Lib.hid hqe
      rw [hqe] at e1
      rw [hqe] at hqm HQ HSP HCD HWP HWO HWS HWR HWPA
      clear hq hsp hqe HKC
      obtain ⟨F, hF⟩ : ∃ F, winF LL q = F := ⟨_, rfl⟩
      have HF := Lib.hid hF
      have HVF : Hid (winV LL q = .tuple #[.agg #[.int .i64 F.1.k, .string F.1.p, .string F.1.b, .int .i64 F.1.m, .bool F.1.o], .int .i64 (F.2.1 : Int), .int .i64 F.2.2]) := by show _ = _; unfold winV R.val; rw [hF]
      clear hF
      have HK := winnerAt_impl _ LL q x y wr (HG.out _ hbw).sl hl5 HSH.out.1 hqm (HTT.out _ hbw)
      rw [HVF.out] at HK
      go_wp2_with fail
      refine HK.mono ?_
      rintro e w20 ⟨rfl, hb20⟩
      clear HK
      have d20 := hb20.alloc hb20.size (.cells #[.int .i64 F.1.k, .string F.1.p, .string F.1.b, .int .i64 F.1.m, .bool F.1.o] 53)
      have HR20 : Hid (Rbox (w20.alloc (.cells #[.int .i64 F.1.k, .string F.1.p, .string F.1.b, .int .i64 F.1.m, .bool F.1.o] 53)) w20.heap.size F.1) := alloc_here _ _
      have hs20 : w20.heap.size < (w20.alloc (.cells #[.int .i64 F.1.k, .string F.1.p, .string F.1.b, .int .i64 F.1.m, .bool F.1.o] 53)).heap.size := by simp
      have e2 := HCE.out _ d20 k hlt
      rw [HQE.out] at e2
      clear e1
      have b20 := hbw.trans (d20.mono hbw.size)
      have HK := winnerAt_spec _ LL q _ (HG.out _ b20).sl hl5 HSH.out.2
      rw [HVF.out] at HK
      go_wp2_with fail
      refine HK.mono ?_
      rintro e w21 ⟨rfl, hb21⟩
      clear HK e2
      have c21 := d20.trans (hb21.mono d20.size)
      have d21 := c21.alloc c21.size (.cells #[.int .i64 F.1.k, .string F.1.p, .string F.1.b, .int .i64 F.1.m, .bool F.1.o] 53)
      have HI21 : Hid (Rbox (w21.alloc (.cells #[.int .i64 F.1.k, .string F.1.p, .string F.1.b, .int .i64 F.1.m, .bool F.1.o] 53)) w21.heap.size F.1) := alloc_here _ _
      have hs21 : w21.heap.size < (w21.alloc (.cells #[.int .i64 F.1.k, .string F.1.p, .string F.1.b, .int .i64 F.1.m, .bool F.1.o] 53)).heap.size := by simp
      have hx21 : Below w21.heap.size w21 (w21.alloc (.cells #[.int .i64 F.1.k, .string F.1.p, .string F.1.b, .int .i64 F.1.m, .bool F.1.o] 53)) := (Below.refl _ _).alloc (Nat.le_refl _) _
      have s20 := Nat.lt_of_lt_of_le hs20 hb21.size
      have HR21 := Lib.hid ((HR20.out.below hb21 hs20).below hx21 s20)
      have s20' := Nat.lt_of_lt_of_le s20 hx21.size
      have e3 := HCE.out _ d21 k hlt
      rw [HQE.out] at e3
      have b21 := hbw.trans (d21.mono hbw.size)
      obtain ⟨CU, hCU⟩ : ∃ CU, cutD LL q = CU := ⟨_, rfl⟩
      have HCU := Lib.hid hCU
      clear hCU
      have HK := cutDepth_impl _ LL q x y _ (HG.out _ b21).sl hl5 HSH.out.1 hqm (HTT.out _ b21)
      rw [HCD.out, HCU.out, HSP.out] at HK
      go_wp2_with fail
      refine HK.mono ?_
      rintro e w22 ⟨rfl, hb22⟩
      clear HK e3
      have d22 := d21.trans (hb22.mono d21.size)
      have e4 := HCE.out _ d22 k hlt
      rw [HQE.out] at e4
      have b22 := hbw.trans (d22.mono hbw.size)
      have HK := cutDepth_spec _ LL q _ (HG.out _ b22).sl hl5 HSH.out.2
      rw [HCD.out, HCU.out, HSP.out] at HK
      go_wp2_with fail
      refine HK.mono ?_
      rintro e w23 ⟨rfl, hb23⟩
      clear HK e4
      have d23 := d22.trans (hb23.mono d22.size)
      have b23 := hbw.trans (d23.mono hbw.size)
      have HRX := Lib.hid ((HR21.out.below hb22 s20').below hb23 (Nat.lt_of_lt_of_le s20' hb22.size))
      have HIX := Lib.hid ((HI21.out.below hb22 hs21).below hb23 (Nat.lt_of_lt_of_le hs21 hb22.size))
      clear HR20 HR21 HI21
      have g1s := Nat.lt_of_lt_of_le (Nat.lt_of_lt_of_le s20' hb22.size) hb23.size
      have g2s := Nat.lt_of_lt_of_le (Nat.lt_of_lt_of_le hs21 hb22.size) hb23.size
      go_upto_region 18 with (fail)
      generalize w20.heap.size = B1 at *
      generalize w21.heap.size = B2 at *
      clear hb20 hb21 hb22 hb23 d20 d21 d22 c21 b20 b21 b22 s20 s20' hs20 hs21 hx21 bb
      go_cut [159] from 121 to 158 (fun s wx => s = .bool false ∧ Hid (Below w23.heap.size w23 wx))
      case first =>
        as_aux_lemma =>
          as_aux_lemma =>
            obtain ⟨y0, y1, y2, y3, y4⟩ := HRX.out.cells
            obtain ⟨z0, z1, z2, z3, z4⟩ := HIX.out.cells
            have e5 := HCE.out _ d23 k hlt
            rw [HQE.out] at e5
            have hfc : (F.2.2 != F.2.2) = false := by simp
            have hfl : ((F.2.1 : Int) != (F.2.1 : Int)) = false := by simp
            have hcu : ((CU : Int) != (CU : Int)) = false := by simp
            cases k with
            | zero =>
              go_quiet (fail)
              go_wp2_with fail
              go_meet
              exact ⟨rfl, below_drewN (Below.refl _ _) _⟩
            | succ m =>
              have e6 := HCE.out _ d23 m (by omega)
              have hmp := HPP.out _ (List.getElem_mem (show m < PP.length by omega))
              have HPL : Hid (∀ W, Calls Tryz.prog 44 #[.string PP[m], .string q] W fun e w' => e = .returned (.bool true) ∧ Below W.heap.size W w') := fun W => by
                have h1 := pathLess_impl PP[m] q W (path_max hmp) hqm
                have h2 := HUPS.out m (by omega)
                rw [HQE.out] at h2
                rw [h2] at h1
                exact h1
              obtain ⟨q', hq'⟩ : ∃ q', PP[m] = q' := ⟨_, rfl⟩
              rw [hq'] at e6 HPL
              have HQM := Lib.hid hq'
              clear hq' hmp
              have HKP : Hid (∀ W', Below w23.heap.size w23 W' → W'.cell? ⟨B1, 0, none⟩ = some (.int .i64 F.1.k) ∧ W'.cell? ⟨B1, 1, none⟩ = some (.string F.1.p) ∧ W'.cell? ⟨B1, 2, none⟩ = some (.string F.1.b) ∧ W'.cell? ⟨B1, 3, none⟩ = some (.int .i64 F.1.m) ∧ W'.cell? ⟨B1, 4, none⟩ = some (.bool F.1.o) ∧ W'.cell? ⟨B2, 0, none⟩ = some (.int .i64 F.1.k) ∧ W'.cell? ⟨B2, 1, none⟩ = some (.string F.1.p) ∧ W'.cell? ⟨B2, 2, none⟩ = some (.string F.1.b) ∧ W'.cell? ⟨B2, 3, none⟩ = some (.int .i64 F.1.m) ∧ W'.cell? ⟨B2, 4, none⟩ = some (.bool F.1.o) ∧ W'.cell? ⟨g, m, none⟩ = some (.string q') ∧ W'.cell? ⟨g, m + 1, none⟩ = some (.string q)) := fun W' hW => by
                obtain ⟨t0, t1, t2, t3, t4⟩ := (HRX.out.below hW g1s).cells
                obtain ⟨v0, v1, v2, v3, v4⟩ := (HIX.out.below hW g2s).cells
                have e7 := HCE.out W' (d23.trans (hW.mono d23.size)) (m + 1) hlt
                rw [HQE.out] at e7
                have e8 := HCE.out W' (d23.trans (hW.mono d23.size)) m (by omega)
                rw [HQM.out] at e8
                exact ⟨t0, t1, t2, t3, t4, v0, v1, v2, v3, v4, e8, e7⟩
              have hwm : IntKind.i64.wrap ((m : Int) + 1 - 1) = (m : Int) := by simp [IntKind.wrap, IntKind.bits, IntKind.signed]; omega
              have hwm2 : IntKind.i64.wrap (m : Int) = (m : Int) := by simp [IntKind.wrap, IntKind.bits, IntKind.signed]; omega
              have im0 : (0 : Int) ≤ (m : Int) := by omega
              have im1 : (m : Int) < (PP.length : Int) := by omega
              have im2 : (m : Int) + 1 < (PP.length : Int) := by omega
              have im3 : (0 : Int) ≤ (m : Int) + 1 := by omega
              have im4 : decide ((0 : Int) < (m : Int) + 1) = true := decide_eq_true (by omega)
              go_region_held3 (fun W => W.cell? ⟨B1, 0, none⟩ = some (.int .i64 F.1.k) ∧ W.cell? ⟨B1, 1, none⟩ = some (.string F.1.p) ∧ W.cell? ⟨B1, 2, none⟩ = some (.string F.1.b) ∧ W.cell? ⟨B1, 3, none⟩ = some (.int .i64 F.1.m) ∧ W.cell? ⟨B1, 4, none⟩ = some (.bool F.1.o) ∧ W.cell? ⟨B2, 0, none⟩ = some (.int .i64 F.1.k) ∧ W.cell? ⟨B2, 1, none⟩ = some (.string F.1.p) ∧ W.cell? ⟨B2, 2, none⟩ = some (.string F.1.b) ∧ W.cell? ⟨B2, 3, none⟩ = some (.int .i64 F.1.m) ∧ W.cell? ⟨B2, 4, none⟩ = some (.bool F.1.o) ∧ W.cell? ⟨g, m, none⟩ = some (.string q') ∧ W.cell? ⟨g, m + 1, none⟩ = some (.string q)) (first | exact ⟨y0, y1, y2, y3, y4, z0, z1, z2, z3, z4, e6, e5⟩ | exact HKP.out _ ((Below.refl _ _).drew.trans (hbq.mono (Nat.le_refl _))) | exact HKP.out _ hbq | go_keep) (first | (go_at_call 44; refine (HPL.out _).mono ?_; rintro e wq ⟨rfl, hbq⟩))
              go_wp2_with fail
              go_meet
              exact ⟨rfl, (Below.refl _ _).drew.trans (hbq.mono (Nat.le_refl _))⟩
      case rest =>
        as_aux_lemma =>
          as_aux_lemma =>
            rename_i s159
            obtain ⟨hs, hbc⟩ := hcut
            subst hs
            generalize hwq : wc = w24 at *
            clear hwq
            have hb24 := hbc.out
            have d24 := d23.trans (hb24.mono d23.size)
            have b24 := hbw.trans (d24.mono hbw.size)
            have HIY := Lib.hid (HIX.out.below hb24 g2s)
            have g2t := Nat.lt_of_lt_of_le g2s hb24.size
            have HO4 := Lib.hid (own_below HO.out d24)
            have HK14 := Lib.hid (HK1.out.below d24)
            have HK24 := Lib.hid (HK2.out.below d24)
            clear hbc hb24 d23 b23 HRX HIX g1s g2s HO HK1 HK2
            by_cases hz : (winC LL q).2 = 0
            · have hF0 : F = (zR, 0, 5) := by rw [← HF.out]; unfold winF; rw [if_neg (by rw [HSP.out]; simp), if_pos hz]
              have HN1 : Hid (N = (winsOf LL (PP.take (k + 1))).length) := by show _ = _; rw [HWS.out, if_neg (by omega)]; exact HN.out
              clear hz HWP HWO HWS HWR HWPA
              subst hF0
              go_wp2_with fail
              exact ⟨⟨k + 1, N, by omega, by go_num, rfl, HN1, HO4, HK14, HK24, b24⟩, by simp [intOf]; omega⟩
            · have hpos : 0 < (winC LL q).2 := by omega
              have hF0 : F = ((winC LL q).1, (winC LL q).2, 0) := by rw [← HF.out]; unfold winF; rw [if_neg (by rw [HSP.out]; simp), if_neg hz]
              have HN1 : Hid (N + 1 = (winsOf LL (PP.take (k + 1))).length) := by show _ = _; rw [HWS.out, if_pos hpos, List.length_append, ← HN.out]; rfl
              obtain ⟨hwp, hNl⟩ := HWP.out hpos
              rw [← HN.out] at hwp hNl
              obtain ⟨hol, yy, hfy, hy1, hy2, hy3, hy4⟩ := HWO.out hpos
              have hcu := HWR.out hpos
              have hxp := HWPA.out hpos
              rw [HCU.out] at hcu
              clear hz HWP HWO HWS HWR HWPA HF HVF
              obtain ⟨X, hX⟩ : ∃ X, winC LL q = X := ⟨_, rfl⟩
              rw [hX] at hF0 hpos hwp hcu hxp hy1 hy2 hy3 hy4
              have hfy2 : ∃ l, LL[X.2 - 1]? = some l ∧ findF l q = (yy, 0) := ⟨_, List.getElem?_eq_getElem (by rw [← hX]; exact hol), by
                have e : ∀ (i j : Nat) (hi : i < LL.length) (hj : j < LL.length), i = j → LL[i] = LL[j] := fun i j hi hj e => by subst e; rfl
                rw [e (X.2 - 1) ((winC LL q).2 - 1) (by rw [← hX]; exact hol) hol (by rw [hX])]
                exact hfy⟩
              clear hol hfy hX
              obtain ⟨⟨xk, xm, xp, xb, xo⟩, xl⟩ := X
              obtain ⟨yk, ym, yp, yb, yo⟩ := yy
              dsimp only at hpos hcu hxp hy1 hy2 hy3 hy4
              subst hxp
              subst hy1
              subst hy2
              subst hy3
              subst hy4
              subst hF0
              obtain ⟨j, hj⟩ : ∃ j, xl = j + 1 := ⟨xl - 1, by omega⟩
              subst hj
              clear hpos
              obtain ⟨l, hll, hfl⟩ := hfy2
              have hll2 : LL[j]? = some l := hll
              clear hll
              have HIY2 := HIY.out.cells
              obtain ⟨z0, z1, z2, z3, z4⟩ := HIY2
              have hW0 : 0 < WW.length := by omega
              obtain ⟨g1, c1, e1, -, -, -, -⟩ := HK14.out.atom hW0
              obtain ⟨g2, c2, e2, -, -, -, -⟩ := HK24.out.atom hW0
              have e1a : t1A = some ⟨g1, 0, none⟩ := by injection e1
              have e2a : t2A = some ⟨g2, 0, none⟩ := by injection e2
              clear e1 e2
              subst e1a
              subst e2a
              have hpk : (picksL WW)[N]? = some (yp, ((j + 1 : Nat) : Int)) := by unfold picksL; rw [List.getElem?_map, hwp]; rfl
              obtain ⟨hpn, hpe⟩ := List.getElem?_eq_some_iff.1 hpk
              have P0 := HK14.out.cell (k := 2) (fun _ => rfl) (i := N) (c := 0) hpn (by decide)
              have P1 := HK14.out.cell (k := 2) (fun _ => rfl) (i := N) (c := 1) hpn (by decide)
              have Q0 := HK24.out.cell (k := 2) (fun _ => rfl) (i := N) (c := 0) hpn (by decide)
              have Q1 := HK24.out.cell (k := 2) (fun _ => rfl) (i := N) (c := 1) hpn (by decide)
              rw [hpe] at P0 P1 Q0 Q1
              have P0' : w24.cell? ⟨g1, N * 2, none⟩ = some (.string yp) := P0
              have P1' : w24.cell? ⟨g1, N * 2 + 1, none⟩ = some (.int .i64 ((j : Int) + 1)) := P1
              have Q0' : w24.cell? ⟨g2, N * 2, none⟩ = some (.string yp) := Q0
              have Q1' : w24.cell? ⟨g2, N * 2 + 1, none⟩ = some (.int .i64 ((j : Int) + 1)) := Q1
              clear P0 P1 Q0 Q1 hpk hpn hpe hwp hW0
              have e5 := HCE.out _ d24 k hlt
              rw [HQE.out] at e5
              have iN0 : (0 : Int) ≤ (N : Int) := by omega
              have iN1 : (N : Int) < (WW.length : Int) := by omega
              have iN2 : decide (WW.length ≤ N) = false := by simp; omega
              have ij1 : decide ((j : Int) + 1 < (CU : Int)) = false := by simp; omega
              go_upto_region 21 with (fail)
              go_cut [202] from 162 to 201 (fun s wx => s = .bool false ∧ Hid (Below w24.heap.size w24 wx))
              case first =>
                as_aux_lemma =>
                  as_aux_lemma =>
                    go_quiet (fail)
                    go_wp2_with fail
                    go_meet
                    exact ⟨rfl, below_drewN (Below.refl _ _) _⟩
              case rest =>
                as_aux_lemma =>
                  as_aux_lemma =>
                    rename_i s202
                    obtain ⟨hs, hbc⟩ := hcut
                    subst hs
                    generalize hwq : wc = w25 at *
                    clear hwq
                    have hb25 := hbc.out
                    have d25 := d24.trans (hb25.mono d24.size)
                    have b25 := hbw.trans (d25.mono hbw.size)
                    have HIZ := Lib.hid (HIY.out.below hb25 g2t)
                    have g2u := Nat.lt_of_lt_of_le g2t hb25.size
                    have HO5 := Lib.hid (own_below HO4.out hb25)
                    have HK15 := Lib.hid (HK14.out.below hb25)
                    have HK25 := Lib.hid (HK24.out.below hb25)
                    clear hbc hb25 d24 b24 HIY g2t HO4 HK14 HK24 z0 z1 z2 z3 z4 P0' P1' Q0' Q1' e5 iN2 ij1
                    have hjl : j < LL.length := (List.getElem?_eq_some_iff.1 hll2).1
                    have hlm : l ∈ LL := List.mem_of_getElem? hll2
                    obtain ⟨A0, c0', e0, hc0, hcells⟩ := (HG.out _ b25).sl
                    obtain ⟨sb, so, e0', hsb, hcl⟩ := hcells (by omega)
                    have e0a : some (⟨sg, 0, none⟩ : Addr) = A0 := by injection e0
                    rw [e0'] at e0a
                    injection e0a with e0b
                    injection e0b with e0c e0d
                    subst e0c
                    subst e0d
                    obtain ⟨u, hu, hul⟩ := hcl j l hll2
                    rw [Nat.zero_add] at hu
                    obtain ⟨uA, uc, rfl, hur⟩ := hul
                    have hul : RecSl w25 (.slice uA l.length uc) l := ⟨uA, uc, rfl, hur⟩
                    have HCU2 : Hid (∀ W, Below w25.heap.size w25 W → W.cell? ⟨sg, j, none⟩ = some (.slice uA l.length uc) ∧ W.cell? ⟨g, k, none⟩ = some (.string yp)) := fun W hW => by
                      have h1 := HCE.out W (d25.trans (hW.mono d25.size)) k hlt
                      rw [HQE.out] at h1
                      exact ⟨(hW.cell (p := ⟨sg, j, none⟩) hsb).trans hu, h1⟩
                    have HFR : Hid (∀ W, Below w25.heap.size w25 W → Calls Tryz.prog 45 #[.slice uA l.length uc, .string yp] W fun e w' => e = .returned (.tuple #[.agg #[.int .i64 yk, .string yp, .string yb, .int .i64 ym, .bool yo], .int .i64 0]) ∧ Below W.heap.size W w') := fun W hW => by
                      have h16 := layer_len (HOK.out l hlm)
                      have h1 := findRecord_impl _ l yp x y W (hul.below hW) (by omega) (HSH.out.1 l hlm).2 (HTT.out _ (b25.trans (hW.mono b25.size)))
                      unfold findV at h1
                      rw [hfl] at h1
                      exact h1
                    have HS0 : Hid (Below w25.heap.size w25 w25) := Below.refl _ _
                    obtain ⟨f1, f2⟩ := HCU2.out _ HS0.out
                    clear e0 hc0 hcells e0' hcl hll2 hur hul hu hfl
                    have ij0 : (0 : Int) ≤ (j : Int) := by omega
                    have ij2 : (j : Int) < (LL.length : Int) := by omega
                    have hwj : IntKind.i64.wrap ((j : Int) + 1 - 1) = (j : Int) := by simp [IntKind.wrap, IntKind.bits, IntKind.signed]; omega
                    have hwj2 : IntKind.i64.wrap (j : Int) = (j : Int) := by simp [IntKind.wrap, IntKind.bits, IntKind.signed]; omega
                    have iN0 : (0 : Int) ≤ (N : Int) := by omega
                    go_upto_region 24 with (fail)
                    have ne1 := World.new_ne w25 _ f1
                    have ne2 := World.new_ne w25 _ f2
                    go_cut [26, 27] from 205 to 217 (fun p c wx => ∃ B3 : Nat, p = .pointer (some ⟨B3, 0, none⟩) ∧ c = .int .i64 0 ∧ Hid (w25.heap.size ≤ B3) ∧ Hid (Rbox wx B3 ⟨yk, ym, yp, yb, yo⟩) ∧ Hid (Below w25.heap.size w25 wx))
                    case first =>
                      as_aux_lemma =>
                        as_aux_lemma =>
                          go_region_held3 (fun W => W.cell? ⟨sg, j, none⟩ = some (.slice uA l.length uc) ∧ W.cell? ⟨g, k, none⟩ = some (.string yp)) (with_reducible (first | exact ⟨f1, f2⟩ | exact HCU2.out _ (by with_reducible (repeat (first | exact HS0.out | refine bel_set ?_ _ | refine Below.drew ?_ | refine Below.alloc ?_ (by first | exact Nat.le_refl _ | exact HS0.out.size) _))))) (first | (go_at_call 45; refine (HFR.out _ (by with_reducible (first | exact HS0.out | exact HS0.out.drew | exact HS0.out.alloc HS0.out.size _ | exact (HS0.out.alloc HS0.out.size _).drew | exact HS0.out.drew.alloc HS0.out.drew.size _ | exact (HS0.out.drew.alloc HS0.out.drew.size _).drew))).mono ?_; rintro e w26 ⟨rfl, hb26⟩; (try (have hR : Rbox w26 w25.heap.size zR := (hb26.block w25.heap.size (by simp)).trans (alloc_here w25 _); obtain ⟨⟨o0, o1, o2, o3, o4⟩, v0, v1, v2, v3, v4⟩ := hR.facts; have HR := Lib.hid hR; clear hR)); replace HS0 : Hid (Below w25.heap.size w25 w26) := bel_any (by with_reducible (first | exact HS0.out | exact HS0.out.drew | exact HS0.out.alloc HS0.out.size _ | exact (HS0.out.alloc HS0.out.size _).drew | exact HS0.out.drew.alloc HS0.out.drew.size _ | exact (HS0.out.drew.alloc HS0.out.drew.size _).drew)) hb26; clear hb26))
                          all_goals (go_wp2_with fail)
                          all_goals go_meet
                          all_goals (first
                            | exact ⟨_, rfl, rfl, HS0.out.size, alloc_here _ _, HS0.out.alloc HS0.out.size _⟩
                            | exact ⟨_, rfl, rfl, Nat.le_refl _, HR.out.set ⟨yk, ym, yp, yb, yo⟩, by show Below _ _ _; with_reducible (repeat (first | exact HS0.out | refine bel_set ?_ _))⟩)
                    case rest =>
                      as_aux_lemma =>
                        as_aux_lemma =>
                          obtain ⟨B3, hs1, hs2, hB3, HR3, hb26⟩ := hcut
                          subst hs1
                          subst hs2
                          generalize hwq : wc = w26 at *
                          clear hwq
                          have hIW := HIZ.out.below hb26.out g2u
                          have hne : B2 ≠ B3 := by have := hB3.out; omega
                          obtain ⟨⟨t0, t1, t2, t3, t4⟩, v0, v1, v2, v3, v4⟩ := HR3.out.facts
                          obtain ⟨⟨z0, z1, z2, z3, z4⟩, -, -, -, -, -⟩ := hIW.facts
                          have HR4 : Hid (Rbox (w26.setCell ⟨B3, 4, none⟩ (.bool xo)) B3 ⟨yk, ym, yp, yb, xo⟩) := HR3.out.flag xo
                          have HI4 : Hid (Rbox (w26.setCell ⟨B3, 4, none⟩ (.bool xo)) B2 ⟨yk, ym, yp, yb, xo⟩) := hIW.other hne
                          have hx : Hid (Below w25.heap.size w25 (w26.setCell ⟨B3, 4, none⟩ (.bool xo))) := hb26.out.setCell hB3.out _
                          clear hIW HR3 HIZ hb26 HCU2 HFR HS0 f1 f2
                          go_upto_region 26 with (fail)
                          generalize w26.setCell ⟨B3, 4, none⟩ (.bool xo) = w27 at *
                          clear t0 t1 t2 t3 t4 z0 z1 z2 z3 z4 v0 v1 v2 v3 v4
                          obtain ⟨⟨t0, t1, t2, t3, t4⟩, -, -, -, -, -⟩ := HR4.out.facts
                          obtain ⟨⟨z0, z1, z2, z3, z4⟩, -, -, -, -, -⟩ := HI4.out.facts
                          have hwN : IntKind.i64.wrap ((N : Int) + 1) = (N : Int) + 1 := by simp [IntKind.wrap, IntKind.bits, IntKind.signed]; omega
                          go_wp2_with fail
                          exact ⟨⟨k + 1, N + 1, by omega, by go_num, by go_num, HN1, own_below HO5.out hx.out, HK15.out.below hx.out, HK25.out.below hx.out, b25.trans (hx.out.mono b25.size)⟩, by simp [intOf]; omega⟩
    · have hkk : k = PP.length := by omega
      subst hkk
      have hne : N = WW.length := by rw [HN.out, List.take_length, EWW.out]
      subst hne
      go_wp2_with fail
      go_ret
      exact ⟨rfl, hb1.trans (hbw.mono hb1.size)⟩

theorem walk (a0 : Option Addr) (len0 cap0 : Nat) (z0 : List Int) (a1 : Option Addr) (len1 cap1 : Nat) (z1 : List Int) (w : World) (r0 : IsRow .u8 w a0 len0 cap0 z0) (r1 : IsRow .u8 w a1 len1 cap1 z1) (hT : ∃ x y, Three w x y) :
    Calls Tryz.prog 6 #[.slice a0 len0 cap0, .slice a1 len1 cap1] w fun e w' => e = .returned (.bool true) ∧ Below w.heap.size w w' := by
  obtain ⟨x, y, hT⟩ := hT
  by_cases h0 : len0 ≤ 1048576
  · by_cases h1 : len1 ≤ 1048576
    · obtain ⟨v0, c0, _⟩ := r0.vals h0
      obtain ⟨v1, c1, n1⟩ := r1.vals h1
      exact walk_small a0 len0 cap0 a1 len1 cap1 _ w v0.byts c0 h0 v1 c1 h1 x y hT
    · have hd0 : decide ((1048576 : Int) < (len0 : Int)) = false := by simp; omega
      have hd1 : decide ((1048576 : Int) < (len1 : Int)) = true := by simp; omega
      clear r0 r1
      go_enter Tryz.func6, Tryz.ntmps6
      go_wp2_with fail
      go_ret
      exact ⟨rfl, Below.refl _ _⟩
  · have hd0 : decide ((1048576 : Int) < (len0 : Int)) = true := by simp; omega
    clear r0 r1
    go_enter Tryz.func6, Tryz.ntmps6
    go_wp2_with fail
    go_ret
    exact ⟨rfl, Below.refl _ _⟩
end Go.Proofs.YtibekkfbpmloiabGreatDoor.LawFnMerge0
