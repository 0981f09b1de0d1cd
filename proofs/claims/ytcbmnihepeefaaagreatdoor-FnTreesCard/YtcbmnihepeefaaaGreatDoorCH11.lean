/- Parts of several texts of mine in one file (each begins with its own remark). -/
import Derived.Test.YtcbmnihepeefaaaGreatDoorCA1
import Derived.Test.YtcbmnihepeefaaaGreatDoorCA10
import Derived.Test.YtcbmnihepeefaaaGreatDoorCA2
import Derived.Test.YtcbmnihepeefaaaGreatDoorCA3
import Derived.Test.YtcbmnihepeefaaaGreatDoorCA4
import Derived.Test.YtcbmnihepeefaaaGreatDoorCA5
import Derived.Test.YtcbmnihepeefaaaGreatDoorCA6
import Derived.Test.YtcbmnihepeefaaaGreatDoorCA7
import Derived.Test.YtcbmnihepeefaaaGreatDoorCA8
import Derived.Test.YtcbmnihepeefaaaGreatDoorCA9
import Derived.Test.YtcbmnihepeefaaaGreatDoorCB1
import Derived.Test.YtcbmnihepeefaaaGreatDoorCB12
import Derived.Test.YtcbmnihepeefaaaGreatDoorCB15
import Derived.Test.YtcbmnihepeefaaaGreatDoorCB16
import Derived.Test.YtcbmnihepeefaaaGreatDoorCB17
import Derived.Test.YtcbmnihepeefaaaGreatDoorCB6
import Derived.Test.YtcbmnihepeefaaaGreatDoorCB8
import Derived.Test.YtcbmnihepeefaaaGreatDoorCH1
import Derived.Test.YtcbmnihepeefaaaGreatDoorCH10
import Derived.Test.YtcbmnihepeefaaaGreatDoorCH2
import Derived.Test.YtcbmnihepeefaaaGreatDoorCH3
import Derived.Test.YtcbmnihepeefaaaGreatDoorCH4
import Derived.Test.YtcbmnihepeefaaaGreatDoorCH5
import Derived.Test.YtcbmnihepeefaaaGreatDoorCH7
import Derived.Test.YtcbmnihepeefaaaGreatDoorCH8
import Derived.Test.YtcbmnihepeefaaaGreatDoorCH9
import Derived.Test.YtcbmnihepeefaaaGreatDoorCards
import Derived.Test.YtcbmnihepeefaaaGreatDoorTie
import Derived.Test.YtcbmnihepeefaaaGreatDoorShelf2
import Derived.Test.YtcbmnihepeefaaaGreatDoorChecked
import Derived.Test.YtcbmnihepeefaaaGreatDoorShelf
import Derived.Test.YtcbmnihepeefaaaGreatDoorRows
import Derived.Test.YtcbmnihepeefaaaGreatDoorProg
import Derived.Deep.Cut
import Derived.Deep.CutRange
import Derived.Deep.CutBlock
import Derived.Deep.RegionHeld3
import Derived.WalkKit
import Derived.ProofKit
import Derived.OpenShut
import Derived.ShutString
import Derived.ChangeOld
import Derived.ChangeVars
import Derived.OpenVars
import Derived.Below
import Derived.Lay
import Derived.LaidMore
import Derived.Stop.Joined
import Derived.SevenTiedAt
import Derived.Deep.DeepHandedRow
import Derived.Lib.LaidTab
import Derived.Shelf.SlSortCmp.NoneTotal
import Derived.Sort.OwnSorted
import Derived.RangeFuncNested
import Derived.RangeFuncBound
import Derived.RangeFuncCalls
import Derived.RangeFuncLeaves
import Derived.RangeFuncBox
import Derived.Shelf.Abstract
import Derived.Shelf.RegionOpen
import Derived.OwnWalkIn
import Derived.TacticsInMore
import Derived.LoopNIn
import Derived.LoopIn
import Derived.Maps.OwnIn
import Derived.Maps.AppendAt
import Derived.Sort.MapsRangeIn
import Derived.Sort.KeysCollected
import Derived.Laws.IdiomRangeMap
import Derived.StillTailTactics
import Derived.Maps.RangeWalk
import Derived.Maps.Ext
import Derived.Lib.SlMapFilter
import Derived.Laws.OwnMore
import Derived.BigQuiet
import Derived.BigRegion
import Derived.Deep.QuietTactic
import Derived.Deep.Slices
import Derived.ChangeArms
import Derived.WideShapes
import Derived.Deep.Draws
import Derived.Deep.LoopGhost
import Derived.WalkSpells
import Derived.WalkSmall
import Derived.Lib.OthersKept
import Derived.Lib.Hide
import Derived.Lib.Strings
import Derived.Lib.Join
import Derived.Laws.BytesArg
import Derived.WalkLawsBesides
import Derived.Deep.RegionWith
import Derived.OneCell
import Derived.Lib.SliceRun
import Derived.Lib.Overlaps
import Derived.Lib.AppendZerosOnto
import Derived.Laws.NewBlocks
import Derived.Laws.IdiomCopy
import Derived.Deep.RegionLaw
import Derived.LaidEql
import Derived.Stop.Asserts
import Derived.Stop.LaidErr
import Derived.Stop.LaidTwo
import Derived.Sort.Grow
import Derived.Deep.AppendLies
import Derived.Laws.EntriesVeiled
import Derived.Laws.AppendOwnNone
import Derived.RegionTactic
import Derived.IntWalk
/- For all two slices of bytes, FnTrees answers true. Conditions: the table of kinds and the two sentinels hold what their own initialisers lay (tied to the program's text by the given tie). -/
namespace Go.Proofs.YtcbmnihepeefaaaGreatDoor.LawFnTrees0
open Go.ChangeShapes Go.WideShapes Go.ChangeAt Go.RowKit
open Go.ChangeMaps (open_string shut_string)
open Recs Paths Draw
set_option linter.unusedVariables false
set_option maxRecDepth 100000

theorem byts_wide {w : World} {B B' : Nat} {A : Option Addr} {n : Nat} (h : Byts w B A n) (hB : B ≤ B') : Byts w B' A n := by
  refine ⟨h.1, fun hn => ?_⟩
  obtain ⟨b, off, e, hlt, hc⟩ := h.2 hn
  exact ⟨b, off, e, by omega, hc⟩
theorem short_path {t : List R} (h : ∀ x ∈ t, pathB x.p.data.toList = true) : ∀ r ∈ t, r.p.size ≤ maxLen := fun r hr => by
  have h35 : r.p.size ≤ 35 := by rw [Lib.size_eq]; exact pathB_len (h r hr)
  unfold maxLen
  omega

set_option maxHeartbeats 8000000 in
theorem walk_small (a0 : Option Addr) (len0 cap0 : Nat) (a1 : Option Addr) (len1 cap1 : Nat) (w : World) (B0 : Byts w w.heap.size a0 len0) (c0 : len0 ≤ cap0) (h0 : len0 ≤ 1048576) (B1 : Byts w w.heap.size a1 len1) (c1 : len1 ≤ cap1) (h1 : len1 ≤ 1048576) (x y : Addr) (hT : Three w x y) :
    Calls Tryz.prog 3 #[.slice a0 len0 cap0, .slice a1 len1 cap1] w fun e w' => e = .returned (.bool true) ∧ Below w.heap.size w w' := by
  have HB0 := Lib.hid B0
  have HB1 := Lib.hid B1
  have HT := Lib.hid hT
  have hd0 : decide ((1048576 : Int) < (len0 : Int)) = false := by simp; omega
  have hd1 : decide ((1048576 : Int) < (len1 : Int)) = false := by simp; omega
  clear B0 B1 hT
  go_enter Tryz.func3, Tryz.ntmps3
  go_wp2_with fail
  refine (treeDrawn_any w a0 len0 cap0 HB0.out c0).mono ?_
  rintro e w1 ⟨u, t, rfl, htr, hto, hb1, hrt, hun, hlk⟩
  obtain ⟨uA, ucap, rfl⟩ := own_form hrt.2.1
  have HTR := Lib.hid htr
  have HTO := Lib.hid hto
  have HLK := Lib.hid hlk
  have HUN := Lib.hid hun
  have HRD := recordDrawn_any w1 a1 len1 cap1 (byts_wide (HB1.out.below hb1) hb1.size) c1
  have HRT1 := Lib.hid hrt
  clear htr hto hlk hun hrt
  go_wp2_with fail
  refine HRD.mono ?_
  rintro e w2 ⟨k, mm, p, b, o, -, hpp, hp35, -, rfl, hb2⟩
  have HPP := Lib.hid hpp
  have c2 := hb1.trans (hb2.mono hb1.size)
  clear hpp HRD
  have hbA : Below w2.heap.size w2 ((w2.alloc (.cells #[.int .i64 k, .string p, .string b, .int .i64 mm, .bool o] 26)).alloc (.cells #[.int .i64 k, .string p, .string b, .int .i64 mm] 29)) := ((Below.refl _ _).alloc (Nat.le_refl _) _).alloc (by simp) _
  go_upto_if 57 with (fail)
  go_cut [] from 55 (fun wx => ∃ n : R, n.o = false ∧ n.p = p ∧ Hid (Recs.Item wx (w2.heap.size + 1) n) ∧ Hid (Below w2.heap.size w2 wx))
  case first =>
    as_aux_lemma =>
      by_cases h4 : k = 4
      · subst h4
        clear hbA
        go_wp2_with fail
        go_meet
        have e1 := Recs.Item.new (w2.alloc (.cells #[.int .i64 4, .string p, .string b, .int .i64 mm, .bool o] 26)) ⟨3, mm, p, b, false⟩
        rw [World.size_alloc] at e1
        exact ⟨⟨3, mm, p, b, false⟩, rfl, rfl, e1, ((Below.refl _ _).alloc (Nat.le_refl _) _).alloc (by simp) _⟩
      · have q4 : (k == 4) = false := by simp [h4]
        go_wp2_with fail
        go_meet
        have e1 := Recs.Item.new (w2.alloc (.cells #[.int .i64 k, .string p, .string b, .int .i64 mm, .bool o] 26)) ⟨k, mm, p, b, false⟩
        rw [World.size_alloc] at e1
        exact ⟨⟨k, mm, p, b, false⟩, rfl, rfl, e1, hbA⟩
  case rest =>
    as_aux_lemma =>
      obtain ⟨n, hno, hnp, HIT, HB3⟩ := hcut
      generalize hwq : wc = W0 at *
      clear hwq
      subst hnp
      clear hbA
      have HNO := Lib.hid hno
      have c3 := c2.trans (HB3.out.mono c2.size)
      have HNI : Hid (∀ W, Below W0.heap.size W0 W → NodCells W (w2.heap.size + 1) 0 n) := fun W hW => (HIT.out.below hW).nod
      have HRT : Hid (∀ W, Below W0.heap.size W0 W → RowN W w.heap.size (.slice uA t.length ucap) t.length t) := fun W hW => ((HRT1.out.below hb2).below HB3.out).below hW
      have HTT : Hid (∀ W, Below W0.heap.size W0 W → Three W x y) := fun W hW => HT.out.below (c3.trans (hW.mono c3.size)) (Nat.le_refl _)
      have hnm : n.p.size ≤ maxLen := by unfold maxLen; omega
      have ht24 := HTR.out.len
      have HTP := Lib.hid (short_path HTR.out.is.path)
      have HAF := Lib.hid (add_facts HTR.out HPP.out).1
      have HAD : Hid (addC t n = 0 → findT (addR t n) n.p = (n, 0) ∧ (addR t n).length = t.length + 1 ∧ withoutL (addR t n) n.p true = t) := add_done_facts HTR.out HPP.out
      clear HRT1 HT HB0 HB1 HIT HB3 hno hb2
      generalize w2.heap.size + 1 = g at *
      have b3 := Below.refl W0.heap.size W0
      obtain ⟨m0, m1, m2, m3⟩ := HNI.out _ b3
      have HAI := addNode_impl _ t n HNO.out x y W0 (HRT.out _ b3).sl (by omega) HTP.out hnm (HTT.out _ b3)
      unfold R.nod at HAI
      go_wp2_with fail
      refine HAI.mono ?_
      rintro e w4 ⟨x1, rfl, b4, hr1⟩
      obtain ⟨zA, zcap, rfl⟩ := own_form hr1.2.1
      have HR1 := Lib.hid hr1
      clear hr1 HAI m0 m1 m2 m3
      obtain ⟨m0, m1, m2, m3⟩ := HNI.out _ b4
      have HAS := addNode_specS _ t n HNO.out w.heap.size w4 (HRT.out _ b4) HUN.out (by omega)
      unfold R.nod at HAS
      go_wp2_with fail
      refine HAS.mono ?_
      rintro e w5 ⟨⟨x2, rfl, hb5, hr2⟩, hnv⟩
      have HNV := Lib.hid (hnv _ _ rfl)
      obtain ⟨yA, ycap, rfl⟩ := own_form hr2.2.1
      have HR2 := Lib.hid hr2
      have HR1b := Lib.hid (HR1.out.below hb5)
      have b5 := b4.trans (hb5.mono b4.size)
      clear hr2 hnv HAS HR1 m0 m1 m2 m3
      generalize addR t n = T at *
      generalize addC t n = c at *
      have hT24 := HAF.out.len
      have HTPT := Lib.hid (short_path HAF.out.is.path)
      have hcc : (c != c) = false := by simp
      have HSN := sameNodes_any _ _ T T w5 HR1b.out.sl HR2.out.sl (by omega)
      rw [decide_eq_true rfl] at HSN
      go_wp2_with fail
      refine HSN.mono ?_
      rintro e w6 ⟨rfl, n6, rfl⟩
      have b6 : Below W0.heap.size W0 (w5.drewN n6) := below_drewN b5 n6
      have HTK := treeOK_impl _ T x y (w5.drewN n6) (HR1b.out.below (below_drewN (Below.refl _ _) n6)).sl (by omega) HTPT.out (HTT.out _ b6)
      rw [treeOK_of HAF.out] at HTK
      go_wp2_with fail
      refine HTK.mono ?_
      rintro e w7 ⟨rfl, hb7⟩
      have b7 := b6.trans (hb7.mono b6.size)
      have HY7 : Hid (∀ W, Below w7.heap.size w7 W → RowN W w4.heap.size (.slice yA T.length ycap) T.length T) := fun W hW => ((HR2.out.below (below_drewN (Below.refl _ _) n6)).below hb7).below hW
      clear HSN HTK HR1b HR2
      have HTK2 := treeOK_impl _ t x y w7 (HRT.out _ b7).sl (by omega) HTP.out (HTT.out _ b7)
      rw [treeOK_of HTR.out] at HTK2
      go_wp2_with fail
      refine HTK2.mono ?_
      rintro e w8 ⟨rfl, hb8⟩
      have b8 := b7.trans (hb8.mono b7.size)
      have HY8 : Hid (∀ W, Below w8.heap.size w8 W → RowN W w4.heap.size (.slice yA T.length ycap) T.length T) := fun W hW => (HY7.out _ hb8).below hW
      clear HTK2 HY7
      obtain ⟨m0, m1, m2, m3⟩ := HNI.out _ b8
      have HPO := parentOf_spec n.p w8 hnm
      generalize askC n.p = ca at *
      rw [strV_eq2] at HPO
      have hus : (⟨(parS n.p).toArray⟩ : ByteArray).size ≤ 35 := (by
        rw [Lib.size_eq]
        show (parS n.p).toArray.toList.length ≤ 35
        rw [List.toList_toArray, parS_yes HPP.out]
        have h1 := join_dropLast_len n.p.data.toList
        have h2 : n.p.data.toList.length ≤ 35 := (by rw [← Lib.size_eq]; exact hp35)
        omega)
      generalize (⟨(parS n.p).toArray⟩ : ByteArray) = up at *
      go_wp2_with fail
      refine HPO.mono ?_
      rintro e w9 ⟨rfl, hb9⟩
      have b9 := b8.trans (hb9.mono b8.size)
      have hum : up.size ≤ maxLen := by unfold maxLen; omega
      clear HPO m0 m1 m2 m3
      have HLI := listDir_impl _ T up x y w9 (HY8.out _ hb9).sl (by omega) HTPT.out hum (HTT.out _ b9)
      go_wp2_with fail
      refine HLI.mono ?_
      rintro e w10 ⟨x3, rfl, hb10, ho3⟩
      obtain ⟨A3, cap3, rfl⟩ := own_form ho3
      have HO3 := Lib.hid ho3
      have b10 := b9.trans (hb10.mono b9.size)
      have d10 := hb9.trans (hb10.mono hb9.size)
      clear HLI ho3
      have HLS := listDir_spec _ T up w10 (HY8.out _ d10).sl (by omega) (by omega)
      go_wp2_with fail
      refine HLS.mono ?_
      rintro e w11 ⟨x4, rfl, hb11, ho4⟩
      obtain ⟨A4, cap4, rfl⟩ := own_form ho4
      have HO4 := Lib.hid ho4
      have HO3b := Lib.hid (own_below HO3.out hb11)
      have b11 := b10.trans (hb11.mono b10.size)
      have d11 := d10.trans (hb11.mono d10.size)
      have hLm : (lisL T up).length ≤ maxLen := by have := lis_len T up (by omega); unfold maxLen; omega
      clear HLS ho4 HO3
      generalize lisL T up = L at *
      generalize lisC T up = cl at *
      have HFI := findNode_impl _ T n.p x y w11 (HY8.out _ d11).sl (by omega) HTPT.out hnm (HTT.out _ b11)
      have HRM := Lib.hid (rm_fine HAF.out hp35 HPP.out)
      have HFS0 : Hid (∀ W, NodSl W (.slice yA T.length ycap) T → Calls Tryz.prog 21 #[.slice yA T.length ycap, .string n.p] W fun e w' => e = .returned (nodV T n.p) ∧ Below W.heap.size W w') := fun W hW => findNode_spec _ T n.p W hW (by omega)
      rw [nod_find (tt_fine HAF.out hp35) HPP.out] at HFI HFS0
      unfold foundV R.nod at HFI HFS0
      generalize findT T n.p = F at *
      obtain ⟨F1, f⟩ := F
      dsimp only at HFI HFS0 HAD HRM
      obtain ⟨m0, m1, m2, m3⟩ := HNI.out _ b11
      go_wp2_with fail
      refine HFI.mono ?_
      rintro e w12 ⟨rfl, hb12⟩
      have hA12 : Below w11.heap.size w11 (w12.alloc (.cells #[.int .i64 F1.k, .string F1.p, .string F1.b, .int .i64 F1.m] 29)) := hb12.alloc hb12.size _
      have b12 := b11.trans (hA12.mono b11.size)
      have d12 := d11.trans (hA12.mono d11.size)
      have HI18 := Lib.hid (Recs.Item.new w12 F1)
      have HO3c := Lib.hid (own_below HO3b.out hA12)
      have HO4c := Lib.hid (own_below HO4.out hA12)
      clear HFI HO3b HO4 m0 m1 m2 m3
      go_upto_region 16 with (fail)
      generalize w12.alloc (.cells #[.int .i64 F1.k, .string F1.p, .string F1.b, .int .i64 F1.m] 29) = W12 at *
      generalize w12.heap.size = g18 at *
      have HFS := HFS0.out W12 (HY8.out _ d12).sl
      obtain ⟨m0, m1, m2, m3⟩ := HNI.out _ b12
      go_wp2_with fail
      refine HFS.mono ?_
      rintro e w13 ⟨rfl, hb13⟩
      have hA13 : Below W12.heap.size W12 (w13.alloc (.cells #[.int .i64 F1.k, .string F1.p, .string F1.b, .int .i64 F1.m] 29)) := hb13.alloc hb13.size _
      have b13 := b12.trans (hA13.mono b12.size)
      have d13 := d12.trans (hA13.mono d12.size)
      have HI20 := Lib.hid (Recs.Item.new w13 F1)
      have HI18b := Lib.hid (HI18.out.below hA13)
      have HO3d := Lib.hid (own_below HO3c.out hA13)
      have HO4d := Lib.hid (own_below HO4c.out hA13)
      clear HFS HFS0 HO3c HO4c HI18 m0 m1 m2 m3
      go_upto_region 17 with (fail)
      generalize w13.alloc (.cells #[.int .i64 F1.k, .string F1.p, .string F1.b, .int .i64 F1.m] 29) = W13 at *
      generalize w13.heap.size = g20 at *
      have HST := sameTexts_any _ _ L L W13 (Strs.own HO3d.out) (Strs.own HO4d.out) hLm
      rw [decide_eq_true rfl] at HST
      go_cut [161] from 122 (fun s wx => s = .bool false ∧ ∃ n, wx = W13.drewN n)
      case first =>
        as_aux_lemma =>
          have hff : (f != f) = false := by simp
          have hll : (cl != cl) = false := by simp
          have HC18 : Hid (∀ k, NodCells (W13.drewN k) g18 0 F1) := fun k => (HI18b.out.below (below_drewN (Below.refl _ _) k)).nod
          have HC20 : Hid (∀ k, NodCells (W13.drewN k) g20 0 F1) := fun k => (HI20.out.below (below_drewN (Below.refl _ _) k)).nod
          have HCN : Hid (∀ k, NodCells (W13.drewN k) g 0 n) := fun k => HNI.out _ (below_drewN b13 k)
          by_cases h0 : c = 0
          · subst h0
            obtain ⟨hF, hlen, -⟩ := HAD.out rfl
            cases hF
            have hlen2 : ((T.length : Int) != (t.length : Int) + 1) = false := by simp; omega
            clear hlen
            go_wp2_with fail
            refine HST.mono ?_
            rintro e w14 ⟨rfl, n14, rfl⟩
            obtain ⟨p0, p1, p2, p3⟩ := HC18.out n14
            obtain ⟨q0, q1, q2, q3⟩ := HC20.out n14
            obtain ⟨m0, m1, m2, m3⟩ := HCN.out n14
            go_wp2_with fail
            go_meet
            exact ⟨rfl, _, rfl⟩
          · have q0c : (c == 0) = false := by simpa using h0
            go_wp2_with fail
            refine HST.mono ?_
            rintro e w14 ⟨rfl, n14, rfl⟩
            obtain ⟨p0, p1, p2, p3⟩ := HC18.out n14
            obtain ⟨q0, q1, q2, q3⟩ := HC20.out n14
            obtain ⟨m0, m1, m2, m3⟩ := HCN.out n14
            go_wp2_with fail
            go_meet
            exact ⟨rfl, _, rfl⟩
      case rest =>
        as_aux_lemma =>
          rename_i s161
          obtain ⟨hs, n14, hwc⟩ := hcut
          subst hs
          subst hwc
          have b14 : Below W0.heap.size W0 (W13.drewN n14) := below_drewN b13 n14
          have d14 : Below w8.heap.size w8 (W13.drewN n14) := below_drewN d13 n14
          clear HST HO3d HO4d HI18b HI20 b13 d13
          generalize W13.drewN n14 = W14 at *
          have HQL : Hid ((remR T n.p).length ≤ 1048576) := rem_len T n.p (by omega)
          have HRI := removeNode_impl _ T n.p x y W14 (HY8.out _ d14).sl (by omega) HTPT.out hnm (HTT.out _ b14)
          obtain ⟨m0, m1, m2, m3⟩ := HNI.out _ b14
          go_wp2_with fail
          refine HRI.mono ?_
          rintro e w15 ⟨x5, rfl, hb15, hr5⟩
          obtain ⟨A5, cap5, rfl⟩ := own_form hr5.2.1
          have HR5 := Lib.hid hr5
          have b15 := b14.trans (hb15.mono b14.size)
          have d15 := d14.trans (hb15.mono d14.size)
          clear HRI hr5 m0 m1 m2 m3
          have HRS := removeNode_spec _ T n.p w4.heap.size w15 (HY8.out _ d15) HNV.out (by omega)
          obtain ⟨m0, m1, m2, m3⟩ := HNI.out _ b15
          go_wp2_with fail
          refine HRS.mono ?_
          rintro e w16 ⟨x6, rfl, hb16, hr6⟩
          obtain ⟨A6, cap6, rfl⟩ := own_form hr6.2.1
          have HR6 := Lib.hid hr6
          have HR5b := Lib.hid (HR5.out.below hb16)
          have b16 := b15.trans (hb16.mono b15.size)
          have d16 := d15.trans (hb16.mono d15.size)
          clear HRS hr6 HR5 m0 m1 m2 m3
          rw [HRM.out.1]
          have HQE := Lib.hid HRM.out.2
          clear HRM
          generalize remR T n.p = Q at *
          have hQ := HQL.out
          go_upto_region 21 with (fail)
          go_cut [204] from 176 (fun s wx => s = .bool false ∧ ∃ n, wx = w16.drewN n)
          case first =>
            as_aux_lemma =>
              have hff : (f != f) = false := by simp
              have HS1 := sameNodes_any _ _ Q Q w16 HR5b.out.sl HR6.out.sl hQ
              rw [decide_eq_true rfl] at HS1
              have HR5c : Hid (∀ k, NodSl (w16.drewN k) (.slice A5 Q.length cap5) Q) := fun k => (HR5b.out.below (below_drewN (Below.refl _ _) k)).sl
              have HYc : Hid (∀ k, NodSl (w16.drewN k) (.slice yA T.length ycap) T) := fun k => (HY8.out _ (below_drewN d16 k)).sl
              have HTc : Hid (∀ k, NodSl (w16.drewN k) (.slice uA t.length ucap) t) := fun k => (HRT.out _ (below_drewN b16 k)).sl
              by_cases h0 : c = 0
              · subst h0
                obtain ⟨hF, -, hw⟩ := HAD.out rfl
                cases hF
                have HQt : Hid (Q = t) := (by show _ = _; rw [HQE.out, if_pos rfl, hw])
                clear hw
                go_wp2_with fail
                refine HS1.mono ?_
                rintro e w17 ⟨rfl, n17, rfl⟩
                have HS2 := sameNodes_any _ _ Q t _ (HR5c.out n17) (HTc.out n17) hQ
                rw [decide_eq_true HQt.out] at HS2
                go_wp2_with fail
                refine HS2.mono ?_
                rintro e w18 ⟨rfl, n18, rfl⟩
                go_wp2_with fail
                go_meet
                exact ⟨rfl, n17 + n18, by simp⟩
              · have q0c : (c == 0) = false := by simpa using h0
                by_cases hf : f = 0
                · subst hf
                  go_wp2_with fail
                  refine HS1.mono ?_
                  rintro e w17 ⟨rfl, n17, rfl⟩
                  go_wp2_with fail
                  go_meet
                  exact ⟨rfl, _, rfl⟩
                · have qf : (f != 0) = true := by simpa using hf
                  have HQT : Hid (Q = T) := (by show _ = _; rw [HQE.out, if_neg hf])
                  go_wp2_with fail
                  refine HS1.mono ?_
                  rintro e w17 ⟨rfl, n17, rfl⟩
                  have HS2 := sameNodes_any _ _ Q T _ (HR5c.out n17) (HYc.out n17) hQ
                  rw [decide_eq_true HQT.out] at HS2
                  go_wp2_with fail
                  refine HS2.mono ?_
                  rintro e w18 ⟨rfl, n18, rfl⟩
                  go_wp2_with fail
                  go_meet
                  exact ⟨rfl, n17 + n18, by simp⟩
          case rest =>
            as_aux_lemma =>
              rename_i s204
              obtain ⟨hs, n17, hwc⟩ := hcut
              subst hs
              subst hwc
              have b17 : Below W0.heap.size W0 (w16.drewN n17) := below_drewN b16 n17
              have d17 : Below w8.heap.size w8 (w16.drewN n17) := below_drewN d16 n17
              have HQ17 : Hid (∀ W, Below (w16.drewN n17).heap.size (w16.drewN n17) W → NodSl W (.slice A5 Q.length cap5) Q) := fun W hW => ((HR5b.out.below (below_drewN (Below.refl _ _) n17)).below hW).sl
              clear HR5b HR6 b16 d16
              generalize w16.drewN n17 = W17 at *
              go_upto_block 0 with (fail)
              go_cut [26, 27] from 205 (fun _ _ wx => Hid (Below W17.heap.size W17 wx))
              case first =>
                as_aux_lemma =>
                  by_cases hf : f = 0
                  · subst hf
                    have HQW : Hid (Q = withoutL T n.p true) := (by show _ = _; rw [HQE.out, if_pos rfl])
                    go_wp2_with fail
                    go_loopw [26] (fun i wr => ∃ k : Nat, k ≤ T.length ∧ i = .int .i64 k ∧ Below W17.heap.size W17 wr) (fun i _ => T.length - (intOf i).toNat)
                    case atStart => exact ⟨0, by omega, rfl, Below.refl _ _⟩
                    case round =>
                      obtain ⟨k, hk, rfl, kw⟩ := hrel
                      have hi0 : (0 : Int) ≤ (k : Int) := by omega
                      by_cases hlt : k < T.length
                      · have hi1 : (k : Int) < (T.length : Int) := by omega
                        have hdl : decide ((k : Int) < (T.length : Int)) = true := by simp; omega
                        have kd := d17.trans (kw.mono d17.size)
                        have kb := b17.trans (kw.mono b17.size)
                        obtain ⟨_, A9, cap9, e9, _, h9⟩ := (HY8.out _ d17).sl
                        cases e9
                        obtain ⟨b9, off9, rfl, hb9, hcell9⟩ := h9 (by omega)
                        have HY9 : Hid (∀ W, Below W17.heap.size W17 W → W.cell? ⟨b9, off9 + k * 4 + 1, none⟩ = some (.string T[k].p)) := fun W hW => ((hW.cell (p := ⟨b9, off9 + k * 4 + 1, none⟩) hb9).trans (hcell9 k T[k] (by simp [hlt])).2.1)
                        have HN9 : Hid (∀ W, Below W17.heap.size W17 W → W.cell? ⟨g, 1, none⟩ = some (.string n.p)) := fun W hW => (by have := (HNI.out _ (b17.trans (hW.mono b17.size))).2.1; simpa using this)
                        have HRA := Lib.hid (rest_at HAF.out HPP.out (List.getElem_mem hlt))
                        have hcw : Below W17.heap.size W17 wr := kw
                        have y1 := HY9.out _ kw
                        have p1 := HN9.out _ kw
                        have hgy : b9 < wr.heap.size := Nat.lt_of_lt_of_le hb9 kw.size
                        have hgn := World.block_lt_of_cell? wr _ p1
                        clear h9 hcell9
                        by_cases heq : T[k].p = n.p
                        · have hd : (T[k].p.toList == n.p.toList) = true := by rw [heq]; simp
                          have hz : decide ((0 : Int) ≤ atL Q T[k].p) = false := (by rw [HQW.out, HRA.out, decide_eq_true heq]; rfl)
                          have HZ := Lib.hid hz
                          clear hz heq
                          go_wp2_with fail
                          go_quiet (fail)
                          have kq : Below W17.heap.size W17 (wr.drewN nq) := below_drewN kw nq
                          generalize wr.drewN nq = wq at *
                          clear y1 p1
                          have y1 := HY9.out _ kq
                          have HFD := find_any _ Q T[k].p wq (HQ17.out _ kq) (by omega)
                          go_wp2_with fail
                          refine HFD.mono ?_
                          rintro e w20 ⟨rfl, rfl⟩
                          have hz := HZ.out
                          go_wp2_with fail
                          exact ⟨⟨k + 1, by omega, by go_num, kq⟩, by simp [intOf]; omega⟩
                        · have hd : (T[k].p.toList == n.p.toList) = false := (by rw [Bool.eq_false_iff]; exact fun e => heq (str_eq_of e))
                          have HBS := fun W => isBelow_spec T[k].p n.p W
                          have HZ : Hid (decide ((0 : Int) ≤ atL Q T[k].p) = !(isBelowB T[k].p n.p)) := (by show _ = _; rw [HQW.out, HRA.out, decide_eq_false heq]; rfl)
                          clear heq
                          cases hbb : isBelowB T[k].p n.p with
                          | true =>
                            rw [hbb] at HBS HZ
                            go_wp2_with fail
                            go_region_held3 (fun w' => w'.cell? ⟨b9, off9 + k * 4 + 1, none⟩ = some (.string T[k].p) ∧ w'.cell? ⟨g, 1, none⟩ = some (.string n.p)) (first | exact ⟨y1, p1⟩ | exact ⟨(hb3.cell (p := ⟨b9, off9 + k * 4 + 1, none⟩) hgy).trans y1, (hb3.cell (p := ⟨g, 1, none⟩) hgn).trans p1⟩ | go_keep) (first | (go_at_call 25; refine (HBS _).mono ?_; rintro e wq ⟨rfl, hb3⟩))
                            have kq : Below W17.heap.size W17 wq := kw.drew.trans (hb3.mono kw.size)
                            clear y1 p1
                            have y1 := HY9.out _ kq
                            have HFD := find_any _ Q T[k].p wq (HQ17.out _ kq) (by omega)
                            go_wp2_with fail
                            refine HFD.mono ?_
                            rintro e w20 ⟨rfl, rfl⟩
                            have hz : decide ((0 : Int) ≤ atL Q T[k].p) = false := HZ.out
                            go_wp2_with fail
                            exact ⟨⟨k + 1, by omega, by go_num, kq⟩, by simp [intOf]; omega⟩
                          | false =>
                            rw [hbb] at HBS HZ
                            go_wp2_with fail
                            go_region_held3 (fun w' => w'.cell? ⟨b9, off9 + k * 4 + 1, none⟩ = some (.string T[k].p) ∧ w'.cell? ⟨g, 1, none⟩ = some (.string n.p)) (first | exact ⟨y1, p1⟩ | exact ⟨(hb3.cell (p := ⟨b9, off9 + k * 4 + 1, none⟩) hgy).trans y1, (hb3.cell (p := ⟨g, 1, none⟩) hgn).trans p1⟩ | go_keep) (first | (go_at_call 25; refine (HBS _).mono ?_; rintro e wq ⟨rfl, hb3⟩))
                            have kq : Below W17.heap.size W17 wq := kw.drew.trans (hb3.mono kw.size)
                            clear y1 p1
                            have y1 := HY9.out _ kq
                            have HFD := find_any _ Q T[k].p wq (HQ17.out _ kq) (by omega)
                            go_wp2_with fail
                            refine HFD.mono ?_
                            rintro e w20 ⟨rfl, rfl⟩
                            have hz : decide ((0 : Int) ≤ atL Q T[k].p) = true := HZ.out
                            go_wp2_with fail
                            exact ⟨⟨k + 1, by omega, by go_num, kq⟩, by simp [intOf]; omega⟩
                      · have hdl : decide ((k : Int) < (T.length : Int)) = false := by simp; omega
                        go_wp2_with fail
                        go_meet
                        exact kw
                  · have qf : (f == 0) = false := by simpa using hf
                    have HF0 := Lib.hid hf
                    clear hf
                    go_wp2_with fail
                    go_loopw [26] (fun i wr => i = .int .i64 0 ∧ wr = W17) (fun _ _ => 0)
                    case atStart => exact ⟨rfl, rfl⟩
                    case round =>
                      obtain ⟨rfl, rfl⟩ := hrel
                      by_cases hlt : 0 < T.length
                      · have hdl : decide ((0 : Int) < (T.length : Int)) = true := decide_eq_true (by omega)
                        go_wp2_with fail
                        go_meet
                        exact Below.refl _ _
                      · have hdl : decide ((0 : Int) < (T.length : Int)) = false := decide_eq_false (by omega)
                        go_wp2_with fail
                        go_meet
                        exact Below.refl _ _
              case rest =>
                as_aux_lemma =>
                  rename_i s26 s27
                  have b18 : Below W0.heap.size W0 wc := b17.trans (hcut.out.mono b17.size)
                  generalize hwq : wc = W18 at *
                  clear hwq hcut HQ17 HY8
                  obtain ⟨l0, l1, l2⟩ := lay_fine HTR.out HLK.out
                  obtain ⟨a0c, a1c⟩ := app_none HTR.out HTO.out HLK.out
                  have HSF := Lib.hid (same_fine HTR.out)
                  have HLI := layerOfTree_impl _ t x y W18 (HRT.out _ b18).sl (by omega) HTP.out (HTT.out _ b18)
                  unfold LayPost at HLI
                  rw [l0, l1] at HLI
                  go_wp2_with fail
                  refine HLI.mono ?_
                  rintro e w19 ⟨x7, rfl, hb19, hr7⟩
                  have b19 := b18.trans (hb19.mono b18.size)
                  have HLS := layerOfTree_spec _ t w19 (HRT.out _ b19).sl (by omega)
                  unfold LayPost at HLS
                  rw [l0, l1] at HLS
                  obtain ⟨A7, cap7, rfl⟩ := hr7.form
                  go_wp2_with fail
                  refine HLS.mono ?_
                  rintro e w20 ⟨x8, rfl, hb20, hr8⟩
                  have b20 := b19.trans (hb20.mono b19.size)
                  obtain ⟨A8, cap8, rfl⟩ := hr8.form
                  have hr7b := hr7.below hb20
                  have HAP := apply_impl _ (.slice none 0 0) t [] x y w20 hr7b.sl ⟨fun r hr => (by cases hr), none, 0, rfl, Nat.le_refl _, fun h => (by cases h)⟩ (by omega) (by simp) HTP.out (fun r hr => (by cases hr)) (HTT.out _ b20)
                  rw [a0c, a1c] at HAP
                  go_wp2_with fail
                  refine HAP.mono ?_
                  rintro e w21 ⟨x9, rfl, hb21, hr9⟩
                  have b21 := b20.trans (hb21.mono b20.size)
                  obtain ⟨A9, cap9, rfl⟩ := own_form hr9.2.1
                  have HSL := sameLayer_impl _ _ t t x w21 (hr7b.below hb21).sl (hr8.below hb21).sl (by omega) (by omega) HTP.out HTP.out (HTT.out _ b21).tab (HTT.out _ b21).long
                  rw [l2] at HSL
                  go_wp2_with fail
                  refine HSL.mono ?_
                  rintro e w22 ⟨rfl, hb22⟩
                  have b22 := b21.trans (hb22.mono b21.size)
                  have HST := sameTree_impl _ _ t t x y w22 (hr9.below hb22).sl (HRT.out _ b22).sl (by omega) (by omega) HTP.out HTP.out (HTT.out _ b22)
                  rw [HSF.out] at HST
                  go_wp2_with fail
                  refine HST.mono ?_
                  rintro e w23 ⟨rfl, hb23⟩
                  go_wp2_with fail
                  go_ret
                  exact ⟨rfl, c3.trans ((b22.trans (hb23.mono b22.size)).mono c3.size)⟩

theorem walk (a0 : Option Addr) (len0 cap0 : Nat) (z0 : List Int) (a1 : Option Addr) (len1 cap1 : Nat) (z1 : List Int) (w : World) (r0 : IsRow .u8 w a0 len0 cap0 z0) (r1 : IsRow .u8 w a1 len1 cap1 z1) (hT : ∃ x y, Three w x y) :
    Calls Tryz.prog 3 #[.slice a0 len0 cap0, .slice a1 len1 cap1] w fun e w' => e = .returned (.bool true) ∧ Below w.heap.size w w' := by
  obtain ⟨x, y, hT⟩ := hT
  by_cases h0 : len0 ≤ 1048576
  · by_cases h1 : len1 ≤ 1048576
    · obtain ⟨v0, c0, _⟩ := r0.vals h0
      obtain ⟨v1, c1, n1⟩ := r1.vals h1
      exact walk_small a0 len0 cap0 a1 len1 cap1 w v0.byts c0 h0 v1.byts c1 h1 x y hT
    · have hd0 : decide ((1048576 : Int) < (len0 : Int)) = false := by simp; omega
      have hd1 : decide ((1048576 : Int) < (len1 : Int)) = true := by simp; omega
      clear r0 r1
      go_enter Tryz.func3, Tryz.ntmps3
      go_wp2_with fail
      go_ret
      exact ⟨rfl, Below.refl _ _⟩
  · have hd0 : decide ((1048576 : Int) < (len0 : Int)) = true := by simp; omega
    clear r0 r1
    go_enter Tryz.func3, Tryz.ntmps3
    go_wp2_with fail
    go_ret
    exact ⟨rfl, Below.refl _ _⟩

end Go.Proofs.YtcbmnihepeefaaaGreatDoor.LawFnTrees0
