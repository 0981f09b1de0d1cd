/- Parts of several texts of mine in one file (each begins with its own remark). -/
import Derived.Test.YtibekkfbpmloiabGreatDoorCA1
import Derived.Test.YtibekkfbpmloiabGreatDoorCA10
import Derived.Test.YtibekkfbpmloiabGreatDoorCA11
import Derived.Test.YtibekkfbpmloiabGreatDoorCA13
import Derived.Test.YtibekkfbpmloiabGreatDoorCA14
import Derived.Test.YtibekkfbpmloiabGreatDoorCA15
import Derived.Test.YtibekkfbpmloiabGreatDoorCA16
import Derived.Test.YtibekkfbpmloiabGreatDoorCA17
import Derived.Test.YtibekkfbpmloiabGreatDoorCA18
import Derived.Test.YtibekkfbpmloiabGreatDoorCA19
import Derived.Test.YtibekkfbpmloiabGreatDoorCA2
import Derived.Test.YtibekkfbpmloiabGreatDoorCA20
import Derived.Test.YtibekkfbpmloiabGreatDoorCA21
import Derived.Test.YtibekkfbpmloiabGreatDoorCA3
import Derived.Test.YtibekkfbpmloiabGreatDoorCA4
import Derived.Test.YtibekkfbpmloiabGreatDoorCA5
import Derived.Test.YtibekkfbpmloiabGreatDoorCA6
import Derived.Test.YtibekkfbpmloiabGreatDoorCA7
import Derived.Test.YtibekkfbpmloiabGreatDoorCA8
import Derived.Test.YtibekkfbpmloiabGreatDoorCA9
import Derived.Test.YtibekkfbpmloiabGreatDoorCC1
import Derived.Test.YtibekkfbpmloiabGreatDoorCC6
import Derived.Test.YtibekkfbpmloiabGreatDoorCC7
import Derived.Test.YtibekkfbpmloiabGreatDoorChecked
import Derived.Test.YtibekkfbpmloiabGreatDoorShelf
import Derived.Test.YtibekkfbpmloiabGreatDoorProg
import Derived.Test.YtibekkfbpmloiabGreatDoorRows
import Derived.Test.YtibekkfbpmloiabGreatDoorShelf2
import Derived.Deep.RegionHeld3
import Derived.Deep.Cut
import Derived.Deep.CutRange
import Derived.Deep.Slices
import Derived.OpenShut
import Derived.ShutString
import Derived.ChangeArms
import Derived.WideShapes
import Derived.Lib.LaidTab
import Derived.BigQuiet
import Derived.Deep.QuietTactic
import Derived.StillTailTactics
import Derived.Deep.Draws
import Derived.Deep.LoopGhost
import Derived.WalkKit
import Derived.WalkSpells
import Derived.WalkSmall
import Derived.Lib.OthersKept
import Derived.Lib.Hide
import Derived.Lib.Strings
import Derived.Lib.Join
import Derived.Deep.RegionWith
import Derived.Laws.OwnMore
import Derived.BigRegion
import Derived.Laws.BytesArg
import Derived.Stop.LaidErr
import Derived.WalkLawsBesides
import Derived.LaidEql
import Derived.Stop.Asserts
import Derived.Below
import Derived.Stop.LaidTwo
import Derived.OneCell
import Derived.Lib.SliceRun
import Derived.Lib.Overlaps
import Derived.Lib.AppendZerosOnto
import Derived.Laws.NewBlocks
import Derived.Laws.IdiomCopy
import Derived.Deep.RegionLaw
import Derived.ChangeVars
import Derived.Deep.DeepHandedRow
import Derived.Deep.AppendLies
import Derived.Laws.EntriesVeiled
import Derived.Deep.CutBlock
import Derived.Laws.IdiomRangeMap
import Derived.Maps.RangeWalk
import Derived.Maps.Ext
import Derived.Lib.SlMapFilter
import Derived.Laws.AppendOwnNone
import Derived.RegionTactic
import Derived.Shelf.SlSortCmp.NoneTotal
import Derived.Sort.OwnSorted
import Derived.RangeFuncNested
import Derived.RangeFuncBound
import Derived.RangeFuncCalls
import Derived.RangeFuncLeaves
import Derived.RangeFuncBox
import Derived.Shelf.Abstract
import Derived.Shelf.RegionOpen
import Derived.OwnWalkIn
import Derived.TacticsInMore
import Derived.LoopNIn
import Derived.LoopIn
import Derived.Maps.OwnIn
import Derived.Maps.AppendAt
import Derived.Sort.MapsRangeIn
import Derived.Sort.KeysCollected
import Derived.Sort.Grow
/- The model's draws: a tree drawn is one. -/
namespace Go.Proofs.YtibekkfbpmloiabGreatDoor.Draw
set_option maxRecDepth 100000
open Go.RowKit
open Paths Recs

/-- The record that a drawn record gives a tree. -/
def plainR (r : R) : R := ⟨if r.k = 4 then 3 else r.k, r.m, r.p, r.b, false⟩
theorem plain_fault {r : R} (h : r.fault = 0) : (plainR r).fault = 0 := by
  by_cases hk : r.k = 4
  · obtain ⟨hb, hm, _⟩ := (fault_more h).2 hk
    unfold plainR R.fault
    simp only [if_pos hk, hb, hm]
    exact good_dir (fault_path h).1 (by omega) false
  · unfold plainR
    rw [if_neg hk]
    exact nodeOf_fault h
theorem plain_is (r : R) : (plainR r).o = false ∧ (plainR r).k ≠ 4 := by
  refine ⟨rfl, ?_⟩
  unfold plainR
  split
  · show (3 : Int) ≠ 4
    decide
  · rename_i h
    exact h
def Plain (l : List R) : Prop := ∀ x ∈ l, x.o = false ∧ x.k ≠ 4
theorem plain_put {l : List R} {r : R} (hl : layerOK l = true) (hp : Plain l) (hr : r.fault = 0) : Plain (lputF 4 l (plainR r)) :=
  lput_all (P := fun x => x.o = false ∧ x.k ≠ 4) (fun q => ⟨rfl, by show (3 : Int) ≠ 4; decide⟩) 4 (layer_lays hl) (plain_fault hr) (pathB_parts (fault_path (plain_fault hr)).1).1 hp (plain_is r)
theorem plain_tree {l : List R} (hl : layerOK l = true) (hp : Plain l) : Tree l := lays_tree (layer_lays hl) (fun r hr => (hp r hr).2) (by have := layer_len hl; omega)
set_option maxHeartbeats 4000000 in
theorem tree_any (w : World) (B g m : Nat) (h : Src w B g m) (hm : m + 100 ≤ 1000000) :
    Calls Tryz.prog 64 #[.pointer (some ⟨g, 0, none⟩)] w fun e w' => ∃ v t, e = .returned v ∧ Tree t ∧ (∀ r ∈ t, r.o = false) ∧ Went w w' B g (m + 100) ∧ RowN w' w.heap.size v t.length t ∧ v ≠ .slice none 0 0 ∧ layerOK t = true := by
  obtain ⟨i0, hi, hI0, hI1, hI2⟩ := info_parts nodInfo
  have hgl := h.lt
  have hb0 : Below w.heap.size w (w.alloc (.cells #[] 53)) := (Below.refl _ _).alloc (Nat.le_refl _) _
  have HO0 : Hid (layerOK [] = true ∧ Plain [] ∧ RowOf (w.alloc (.cells #[] 53)) w.heap.size (.slice (some ⟨w.heap.size, 0, none⟩) 0 0) ([] : List R).length []) := ⟨fine_ok fine_nil (by simp), (fun x hx => by cases hx), ⟨rfl, World.ownsRow_lit w #[] 0 (Nat.le_refl _) (Nat.zero_le _) rfl⟩⟩
  have HW0 := Lib.hid ((Went.refl h).below hb0)
  have HRM := room_any _ B g m 7 (h.below hb0) (by omega)
  clear h
  go_enter Tryz.func64, Tryz.ntmps64
  go_wp2_with fail
  generalize w.alloc (.cells #[] 53) = W1 at *
  refine HRM.mono ?_
  rintro e w2 ⟨r, hr1, hr6, rfl, rfl⟩
  have HNX := next_small W1 B g m ((r : Int) + 2) HW0.out.1 (by omega) (by omega)
  go_wp2_with fail
  refine HNX.mono ?_
  rintro e w3 ⟨N, hN, rfl, hw3⟩
  have hN9 : N ≤ 9 := by omega
  have HI0 : Hid (Went w w3 B g (m + 1) ∧ layerOK [] = true ∧ Plain [] ∧ RowOf w3 w.heap.size (.slice (some ⟨w.heap.size, 0, none⟩) 0 0) ([] : List R).length []) := ⟨HW0.out.trans hw3, HO0.out.1, HO0.out.2.1, row_went HO0.out.2.2 hw3 hgl⟩
  clear hN hw3 HO0 HW0
  go_wp2
  go_loopw [3, 4] (fun lv iv wr => ∃ (k : Nat) (l : List R), k ≤ N ∧ iv = .int .i64 k ∧ Hid (Went w wr B g (m + 1 + 7 * (N - k)) ∧ layerOK l = true ∧ Plain l ∧ RowOf wr w.heap.size lv l.length l)) (fun _ i _ => (intOf i).toNat)
  case atStart => exact ⟨N, [], Nat.le_refl _, rfl, by
    have h1 := HI0.out
    show Went w w3 B g (m + 1 + 7 * (N - N)) ∧ _
    rw [Nat.sub_self]
    exact h1⟩
  case round =>
    obtain ⟨k, l, hk, rfl, HI⟩ := hrel
    obtain ⟨lA, lcap, rfl⟩ := HI.out.2.2.2.form
    have hl16 := layer_len HI.out.2.1
    by_cases h0 : 0 < k
    · have hd : decide ((0 : Int) < (k : Int)) = true := by simp; omega
      have HPT := path_any wr B g _ HI.out.1.1 (by omega)
      go_wp2_with fail
      refine HPT.mono ?_
      rintro e w4 ⟨q, hq, rfl, hw4⟩
      have HW4 := Lib.hid hw4
      have HP := Lib.hid (show pathB (⟨q.toArray⟩ : ByteArray).data.toList = true by simpa using hq)
      clear hw4 hq
      rw [strV_eq2]
      have HRC := record_any w4 B g _ ⟨q.toArray⟩ HP.out HW4.out.1 (by omega)
      go_wp2_with fail
      refine HRC.mono ?_
      rintro e w5 ⟨rk, rm, rb, ro, hf, _, rfl, hw5⟩
      have HW5 := Lib.hid (HI.out.1.trans (HW4.out.trans hw5))
      have HR5 := Lib.hid (row_went (row_went HI.out.2.2.2 HW4.out hgl) hw5 hgl)
      have HF := Lib.hid (fault_i hf)
      have HPR : Hid (plainR ⟨rk, rm, ⟨q.toArray⟩, rb, ro⟩ = ⟨if rk = 4 then 3 else rk, rm, ⟨q.toArray⟩, rb, false⟩) := rfl
      have HPF := Lib.hid (plain_fault HF.out)
      have HPL := Lib.hid (plain_put HI.out.2.1 HI.out.2.2.1 HF.out)
      have h5l : w.heap.size ≤ w5.heap.size := HW5.out.2.size
      have hk1 : ((k - 1 : Nat) : Int) = (k : Int) - 1 := by omega
      clear hw5 hf
      have HPU : ∀ W, Below w5.heap.size w5 W → Calls Tryz.prog 121 #[.slice lA l.length lcap, (plainR ⟨rk, rm, ⟨q.toArray⟩, rb, ro⟩).val] W fun e w' => ∃ x, e = .returned x ∧ Below W.heap.size W w' ∧ RowOf w' W.heap.size x (lputF 4 l (plainR ⟨rk, rm, ⟨q.toArray⟩, rb, ro⟩)).length (lputF 4 l (plainR ⟨rk, rm, ⟨q.toArray⟩, rb, ro⟩)) ∧ x ≠ .slice none 0 0 := fun W hW =>
        l03Put_any 4 _ l _ W (HR5.out.below hW).sl (layer_lays HI.out.2.1) HPF.out (pathB_parts (fault_path HPF.out).1).1 (by omega)
      rw [HPR.out] at HPU
      have HLO : Hid ((lputF 4 l (plainR ⟨rk, rm, ⟨q.toArray⟩, rb, ro⟩)).length ≤ 16 → layerOK (lputF 4 l (plainR ⟨rk, rm, ⟨q.toArray⟩, rb, ro⟩)) = true) := fun h16 => lput_layer HI.out.2.1 HPF.out h16
      rw [HPR.out] at HLO HPL
      unfold R.val at HPU
      by_cases h4 : rk = 4
      · have q4 : (rk == 4) = true := by simp [h4]
        rw [if_pos h4] at HPU HLO HPL
        clear h4
        have HWQ : Below w5.heap.size w5 (w5.alloc (.cells #[.int .i64 3, .string ⟨q.toArray⟩, .string rb, .int .i64 rm, .bool false] 53)) := (Below.refl _ _).alloc (Nat.le_refl _) _
        have HP2 := HPU _ HWQ
        generalize lputF 4 l ⟨3, rm, ⟨q.toArray⟩, rb, false⟩ = X at *
        go_wp2_with fail
        refine HP2.mono ?_
        rintro e w6 ⟨x, rfl, hb6, hrow6, hx6⟩
        obtain ⟨xA, xcap, rfl⟩ := hrow6.form
        have HR6 := Lib.hid hrow6
        have c6 : Below w5.heap.size w5 w6 := HWQ.trans (hb6.mono HWQ.size)
        have h6l := HWQ.size
        have HW6 : Hid (Went w w6 B g (m + 1 + 7 * (N - (k - 1)))) := (HW5.out.below c6).more (by omega) (by omega)
        clear hrow6 hx6
        by_cases h16 : X.length ≤ 16
        · have hd2 : decide ((X.length : Int) ≤ 16) = true := by simp; omega
          have HOK := Lib.hid (HLO.out h16)
          clear h16
          go_wp2_with fail
          go_roundw
          case rel => exact ⟨k - 1, _, by omega, by rw [hk1], HW6.out, HOK.out, HPL.out, ⟨HR6.out.1, own_down HR6.out.2 (Nat.le_trans h5l h6l)⟩⟩
          case measure => simp [intOf]; omega
        · have hd2 : decide ((X.length : Int) ≤ 16) = false := by simp; omega
          have HRL := Lib.hid (HR5.out.below c6)
          clear h16
          go_wp2_with fail
          go_roundw
          case rel => exact ⟨k - 1, l, by omega, by rw [hk1], HW6.out, HI.out.2.1, HI.out.2.2.1, HRL.out⟩
          case measure => simp [intOf]; omega
      · have q4 : (rk == 4) = false := by simp [h4]
        rw [if_neg h4] at HPU HLO HPL
        clear h4
        have HWQ : Below w5.heap.size w5 (w5.alloc (.cells #[.int .i64 rk, .string ⟨q.toArray⟩, .string rb, .int .i64 rm, .bool false] 53)) := (Below.refl _ _).alloc (Nat.le_refl _) _
        have HP2 := HPU _ HWQ
        generalize lputF 4 l ⟨rk, rm, ⟨q.toArray⟩, rb, false⟩ = X at *
        go_wp2_with fail
        refine HP2.mono ?_
        rintro e w6 ⟨x, rfl, hb6, hrow6, hx6⟩
        obtain ⟨xA, xcap, rfl⟩ := hrow6.form
        have HR6 := Lib.hid hrow6
        have c6 : Below w5.heap.size w5 w6 := HWQ.trans (hb6.mono HWQ.size)
        have h6l := HWQ.size
        have HW6 : Hid (Went w w6 B g (m + 1 + 7 * (N - (k - 1)))) := (HW5.out.below c6).more (by omega) (by omega)
        clear hrow6 hx6
        by_cases h16 : X.length ≤ 16
        · have hd2 : decide ((X.length : Int) ≤ 16) = true := by simp; omega
          have HOK := Lib.hid (HLO.out h16)
          clear h16
          go_wp2_with fail
          go_roundw
          case rel => exact ⟨k - 1, _, by omega, by rw [hk1], HW6.out, HOK.out, HPL.out, ⟨HR6.out.1, own_down HR6.out.2 (Nat.le_trans h5l h6l)⟩⟩
          case measure => simp [intOf]; omega
        · have hd2 : decide ((X.length : Int) ≤ 16) = false := by simp; omega
          have HRL := Lib.hid (HR5.out.below c6)
          clear h16
          go_wp2_with fail
          go_roundw
          case rel => exact ⟨k - 1, l, by omega, by rw [hk1], HW6.out, HI.out.2.1, HI.out.2.2.1, HRL.out⟩
          case measure => simp [intOf]; omega
    · have hd : decide ((0 : Int) < (k : Int)) = false := by simp; omega
      have HTR := Lib.hid (plain_tree HI.out.2.1 HI.out.2.2.1)
      have HLK := Lib.hid HI.out.2.1
      have HPL := Lib.hid HI.out.2.2.1
      have HSL := Lib.hid HI.out.2.2.2.sl
      have HWE : Hid (Went w wr B g (m + 100)) := HI.out.1.more (by omega) (by omega)
      have hwr : w.heap.size ≤ wr.heap.size := HWE.out.2.size
      have HQ0 : Hid (([] : List R) = l.take 0 ∧ RowN (wr.alloc (.cells #[] 68)) wr.heap.size (.slice (some ⟨wr.heap.size, 0, none⟩) 0 0) ([] : List R).length [] ∧ (Value.slice (some ⟨wr.heap.size, 0, none⟩) 0 0) ≠ .slice none 0 0) := ⟨rfl, emptyN wr (Nat.le_refl _), (fun e => by cases e)⟩
      have kA : Below wr.heap.size wr (wr.alloc (.cells #[] 68)) := (Below.refl _ _).alloc (Nat.le_refl _) _
      clear HI
      generalize hwo : wr = wo at *
      clear hwo
      go_wp2
      go_loopw [7, 8] (fun ov iv wx => ∃ (j : Nat) (O : List R), j ≤ l.length ∧ iv = .int .i64 j ∧ Below wo.heap.size wo wx ∧ Hid (O = l.take j ∧ RowN wx wo.heap.size ov O.length O ∧ ov ≠ .slice none 0 0)) (fun _ i _ => l.length - (intOf i).toNat)
      case atStart => exact ⟨0, [], by omega, rfl, kA, HQ0.out⟩
      case round =>
        obtain ⟨j, O, hj, rfl, kw, HJ⟩ := hrel
        obtain ⟨oA, ocap, rfl⟩ := own_form HJ.out.2.1.2.1
        by_cases hlt : j < l.length
        · obtain ⟨_, _, hsle, _, HS0⟩ := HSL.out
          cases hsle
          obtain ⟨b, off, hsA, hb, hcell⟩ := HS0 (by omega)
          cases hsA
          obtain ⟨c0, c1, c2, c3, c4⟩ := (hcell j l[j] (by simp [hlt])).below kw hb
          clear hcell HS0
          have hi1 : (j : Int) < (l.length : Int) := by omega
          have hi0 : (0 : Int) ≤ (j : Int) := by omega
          have HNO := l04Node_any l[j] wr
          unfold R.val R.nod at HNO
          have hl2 : O.length ≤ 16 := by have := congrArg List.length HJ.out.1; rw [List.length_take] at this; omega
          have HTK := Lib.hid (List.take_succ_eq_append_getElem hlt)
          have HOF := Lib.hid (HPL.out _ (List.getElem_mem hlt)).1
          go_wp2_with fail
          refine HNO.mono ?_
          rintro e w6 ⟨rfl, hb6⟩
          have k6 := kw.trans (hb6.mono kw.size)
          have HR6 := Lib.hid (HJ.out.2.1.below hb6)
          have hr3 : (w6.alloc (.cells #[.int .i64 l[j].k, .string l[j].p, .string l[j].b, .int .i64 l[j].m] 68)).ownsRow wo.heap.size 68 4 (.slice oA O.length ocap) O.length (flatN O) := HR6.out.2.1.alloc _
          have hnews := nodR_cells_new w6 l[j] 68
          have hone := nodR_one l[j]
          have hbz : wo.heap.size ≤ (w6.alloc (.cells #[.int .i64 l[j].k, .string l[j].p, .string l[j].b, .int .i64 l[j].m] 68)).heap.size := (k6.alloc k6.size _).size
          go_wp2_with (first
            | (at_builtin; refine wpList_append_own _ rfl _ _ 23 rfl wo.heap.size 68 i0 (.agg #[.int .i64 0, .string ByteArray.empty, .string ByteArray.empty, .int .i64 0]) 4 48 Tryz.underlying23 hi hI0 hI1 hI2 rfl (by decide) _ _ _ rfl hr3 ⟨w6.heap.size, 0, none⟩ 1 1 (R.ns l[j]) rfl rfl hnews hone (by unfold maxLen; omega) (by omega) hbz ?_; intro v' w9 hown' hgrow9 hnil9; have HRN : Hid (RowN w9 wo.heap.size v' (O ++ [l[j]]).length (O ++ [l[j]])) := rowN_snoc hown' HR6.out.2.2 HOF.out; have HNN : Hid (v' ≠ .slice none 0 0) := (fun e => by have := (hnil9.1 e).2; omega); have k9 := (k6.alloc k6.size _).grown hgrow9 hbz (fun j hj => (HR6.out.2.1.lt j hj).1); clear hown' hgrow9 hnil9)
            | go_in)
          go_roundw
          case rel => exact ⟨j + 1, O ++ [l[j]], by omega, by go_num, k9, ⟨by rw [HTK.out, HJ.out.1], HRN.out, HNN.out⟩⟩
          case measure => simp [intOf]; omega
        · obtain rfl : j = l.length := by omega
          have HOL : Hid (O = l) := (by show _ = _; rw [HJ.out.1, List.take_of_length_le (Nat.le_refl _)])
          go_wp2
          go_ret
          exact ⟨_, O, rfl, by rw [HOL.out]; exact HTR.out, by rw [HOL.out]; exact fun r hr => (HPL.out r hr).1, HWE.out.below kw, HJ.out.2.1.down hwr, HJ.out.2.2, by rw [HOL.out]; exact HLK.out⟩

set_option maxHeartbeats 400000 in
theorem treeDrawn_any (w : World) (A : Option Addr) (n cap : Nat) (hB : Byts w w.heap.size A n) (hn : n ≤ cap) :
    Calls Tryz.prog 9 #[.slice A n cap] w fun e w' => ∃ v t, e = .returned v ∧ Tree t ∧ (∀ r ∈ t, r.o = false) ∧ Below w.heap.size w w' ∧ RowN w' w.heap.size v t.length t ∧ v ≠ .slice none 0 0 ∧ layerOK t = true := by
  have HB := Lib.hid hB
  clear hB
  go_enter Tryz.func9, Tryz.ntmps9
  go_wp2_with fail
  refine (source_any w A n cap HB.out hn).mono ?_
  rintro e w1 ⟨rfl, hs1, hb1⟩
  have HS1 := Lib.hid hs1
  clear hs1
  go_wp2_with fail
  refine (tree_any w1 w.heap.size w.heap.size 0 HS1.out (by omega)).mono ?_
  rintro e w2 ⟨v, t, rfl, htr, hto, hw2, hrow, hv, hlk⟩
  have HL := Lib.hid htr
  have HO := Lib.hid hto
  have HB2 := Lib.hid (hb1.trans (hw2.belowB hb1.size))
  have HR := Lib.hid hrow
  have HV := Lib.hid hv
  have HLK := Lib.hid hlk
  have hz := hb1.size
  clear htr hto hw2 hrow hv hlk
  go_wp2_with fail
  go_ret
  exact ⟨v, t, rfl, HL.out, HO.out, HB2.out, HR.out.down hz, HV.out, HLK.out⟩
end Go.Proofs.YtibekkfbpmloiabGreatDoor.Draw

/- A heap as a list, plain: sinking, building it up, replacing and taking away its first one. -/
namespace Go.Proofs.YtibekkfbpmloiabGreatDoor.Heap
set_option maxRecDepth 100000

section
variable {α : Type} (lt : α → α → Bool)
variable (has : ∀ a b, lt a b = true → lt b a = false) (hnt : ∀ a b c, lt a c = true → lt a b = true ∨ lt b c = true)
include has hnt in
include has hnt in
include has hnt in
include has hnt in
end
/-- Two lists in strict order with the same members are one. -/
theorem pw_ext {α : Type} {lt : α → α → Prop} (irr : ∀ a, ¬ lt a a) (tr : ∀ a b c, lt a b → lt b c → lt a c) : ∀ a b : List α, a.Pairwise lt → b.Pairwise lt → (∀ x, x ∈ a ↔ x ∈ b) → a = b
  | [], [], _, _, _ => rfl
  | [], y :: b, _, _, h => absurd ((h y).2 (List.mem_cons_self ..)) (by simp)
  | x :: a, [], _, _, h => absurd ((h x).1 (List.mem_cons_self ..)) (by simp)
  | x :: a, y :: b, ha, hb, h => by
    obtain ⟨ha1, ha2⟩ := List.pairwise_cons.1 ha
    obtain ⟨hb1, hb2⟩ := List.pairwise_cons.1 hb
    have hxy : x = y := by
      rcases List.mem_cons.1 ((h x).1 (List.mem_cons_self ..)) with e | hx
      · exact e
      · rcases List.mem_cons.1 ((h y).2 (List.mem_cons_self ..)) with e | hy
        · exact e.symm
        · exact absurd (tr _ _ _ (hb1 x hx) (ha1 y hy)) (irr y)
    subst hxy
    rw [pw_ext irr tr a b ha2 hb2 fun z => ?_]
    constructor
    · intro hz
      rcases List.mem_cons.1 ((h z).1 (List.mem_cons_of_mem _ hz)) with e | h2
      · subst e; exact absurd (ha1 z hz) (irr z)
      · exact h2
    · intro hz
      rcases List.mem_cons.1 ((h z).2 (List.mem_cons_of_mem _ hz)) with e | h2
      · subst e; exact absurd (hb1 z hz) (irr z)
      · exact h2
end Go.Proofs.YtibekkfbpmloiabGreatDoor.Heap

/- All layers passed through at once, plain: the order of records by path and layer, the cursors, the groups of records of one path. -/
namespace Go.Proofs.YtibekkfbpmloiabGreatDoor.Recs
set_option maxRecDepth 100000
open Go.RowKit Paths Heap

/-- The paths of all records, each once, in order. -/
def lessQ (a b : ByteArray) : Bool := lessP (cutAt 47 a.data.toList) (cutAt 47 b.data.toList)
def Ups (P : List ByteArray) : Prop := P.Pairwise fun a b => lessQ a b = true
theorem lessQ_irr (a : ByteArray) : ¬ lessQ a a = true := by unfold lessQ; rw [lessP_irrefl]; decide
theorem lessQ_trans (a b c : ByteArray) (h : lessQ a b = true) (k : lessQ b c = true) : lessQ a c = true := lessP_trans _ _ _ h k
theorem lessQ_total {a b : ByteArray} (h : a ≠ b) : lessQ a b = true ∨ lessQ b a = true := by
  cases h1 : lessQ a b with
  | true => exact .inl rfl
  | false =>
    cases h2 : lessQ b a with
    | true => exact .inr rfl
    | false => exact absurd (bytes_cut (lessP_total _ _ h1 h2)) h
theorem ups_ext {P Q : List ByteArray} (hp : Ups P) (hq : Ups Q) (h : ∀ x, x ∈ P ↔ x ∈ Q) : P = Q := pw_ext lessQ_irr lessQ_trans P Q hp hq h

end Go.Proofs.YtibekkfbpmloiabGreatDoor.Recs

/- Differences of trees, plain: the changes between two lists in the order of paths. -/
namespace Go.Proofs.YtibekkfbpmloiabGreatDoor.Recs
set_option maxRecDepth 100000
open Go.RowKit Paths

/-- A path, and what two lists have there; zR stands for none. -/
abbrev Chg := ByteArray × R × R
def chgs : List R → List R → List Chg
  | [], [] => []
  | x :: a, [] => (x.p, x, zR) :: chgs a []
  | [], y :: b => (y.p, zR, y) :: chgs [] b
  | x :: a, y :: b =>
    if lessR x y then (x.p, x, zR) :: chgs a (y :: b)
    else if x.p = y.p then (if x = y then chgs a b else (y.p, x, y) :: chgs a b)
    else (y.p, zR, y) :: chgs (x :: a) b
termination_by a b => a.length + b.length
theorem chg_nil : chgs [] [] = [] := by rw [chgs]
theorem chg_left (x : R) (a : List R) : chgs (x :: a) [] = (x.p, x, zR) :: chgs a [] := by rw [chgs]
theorem chg_right (y : R) (b : List R) : chgs [] (y :: b) = (y.p, zR, y) :: chgs [] b := by rw [chgs]
theorem chg_less {x y : R} (h : lessR x y = true) (a b : List R) : chgs (x :: a) (y :: b) = (x.p, x, zR) :: chgs a (y :: b) := by rw [chgs, if_pos h]
theorem chg_same {x y : R} (h : x = y) (a b : List R) : chgs (x :: a) (y :: b) = chgs a b := by
  subst h
  rw [chgs, if_neg (by unfold lessR; rw [lessP_irrefl]; decide), if_pos rfl, if_pos rfl]
theorem chg_both {x y : R} (hp : x.p = y.p) (h : x ≠ y) (a b : List R) : chgs (x :: a) (y :: b) = (y.p, x, y) :: chgs a b := by
  rw [chgs, if_neg (by unfold lessR; rw [hp, lessP_irrefl]; decide), if_pos hp, if_neg h]
theorem chg_more {x y : R} (hl : lessR x y = false) (hp : x.p ≠ y.p) (a b : List R) : chgs (x :: a) (y :: b) = (y.p, zR, y) :: chgs (x :: a) b := by
  rw [chgs, if_neg (by rw [hl]; decide), if_neg hp]

/-- What two lists have at a path, and that it is not the same. -/
def Differs (A B : List R) (c : Chg) : Prop := recAt A c.1 ≠ recAt B c.1 ∧ c.2 = ((recAt A c.1).getD zR, (recAt B c.1).getD zR)
theorem recAt_front {x : R} {a : List R} (h : ∀ w ∈ a, lessR x w = true) : recAt a x.p = none := recAt_less h
theorem differs_skip {x : R} {A B a : List R} {c : Chg} (hc : c.1 ≠ x.p) (he : ∀ q, q ≠ x.p → recAt A q = recAt a q) : Differs A B c ↔ Differs a B c := by unfold Differs; rw [he _ hc]
theorem cons_at {x : R} (a : List R) {q : ByteArray} (h : q ≠ x.p) : recAt (x :: a) q = recAt a q := recAt_cons_ne (fun e => h e.symm)
theorem cons_here (x : R) (a : List R) : recAt (x :: a) x.p = some x := recAt_cons_eq rfl
theorem less_no {x y : R} {b : List R} (hb : ∀ w ∈ b, lessR y w = true) (h : lessR x y = true) : ∀ w ∈ y :: b, lessR x w = true := fun w hw => by
  rcases List.mem_cons.1 hw with rfl | hw
  · exact h
  · exact lessR_trans h (hb w hw)
theorem less_flip {x y : R} (hl : lessR x y = false) (hp : x.p ≠ y.p) : lessR y x = true := by
  rcases less_or hp with h | h
  · rw [hl] at h; cases h
  · exact h

theorem chg_mem : ∀ A B : List R, Sorted A → Sorted B → ∀ c, c ∈ chgs A B ↔ Differs A B c
  | [], [], _, _, c => by rw [chg_nil]; unfold Differs; simp [recAt]
  | x :: a, [], ha, _, c => by
    obtain ⟨ha1, ha2⟩ := List.pairwise_cons.1 ha
    rw [chg_left, List.mem_cons, chg_mem a [] ha2 List.Pairwise.nil c]
    by_cases hc : c.1 = x.p
    · have e1 : recAt a c.1 = none := by rw [hc]; exact recAt_front ha1
      have e2 : recAt (x :: a) c.1 = some x := by rw [hc]; exact cons_here x a
      unfold Differs
      rw [e1, e2]
      simp only [recAt, List.find?_nil, ne_eq, not_true_eq_false, false_and, or_false, reduceCtorEq, not_false_eq_true, true_and, Option.getD_some, Option.getD_none]
      exact ⟨fun e => by rw [e], fun e => Prod.ext hc e⟩
    · rw [differs_skip hc (fun q hq => cons_at a hq)]
      exact ⟨fun e => e.elim (fun e => absurd (by rw [e]) hc) id, .inr⟩
  | [], y :: b, _, hb, c => by
    obtain ⟨hb1, hb2⟩ := List.pairwise_cons.1 hb
    rw [chg_right, List.mem_cons, chg_mem [] b List.Pairwise.nil hb2 c]
    by_cases hc : c.1 = y.p
    · have e1 : recAt b c.1 = none := by rw [hc]; exact recAt_front hb1
      have e2 : recAt (y :: b) c.1 = some y := by rw [hc]; exact cons_here y b
      unfold Differs
      rw [e1, e2]
      simp only [recAt, List.find?_nil, ne_eq, not_true_eq_false, false_and, or_false, reduceCtorEq, not_false_eq_true, true_and, Option.getD_some, Option.getD_none]
      exact ⟨fun e => by rw [e], fun e => Prod.ext hc e⟩
    · have : Differs [] (y :: b) c ↔ Differs [] b c := by unfold Differs; rw [cons_at b hc]
      rw [this]
      exact ⟨fun e => e.elim (fun e => absurd (by rw [e]) hc) id, .inr⟩
  | x :: a, y :: b, ha, hb, c => by
    obtain ⟨ha1, ha2⟩ := List.pairwise_cons.1 ha
    obtain ⟨hb1, hb2⟩ := List.pairwise_cons.1 hb
    rcases Bool.eq_false_or_eq_true (lessR x y) with hl | hl
    · rw [chg_less hl, List.mem_cons, chg_mem a (y :: b) ha2 hb c]
      by_cases hc : c.1 = x.p
      · have e1 : recAt a c.1 = none := by rw [hc]; exact recAt_front ha1
        have e2 : recAt (x :: a) c.1 = some x := by rw [hc]; exact cons_here x a
        have e3 : recAt (y :: b) c.1 = none := by rw [hc]; exact recAt_front (less_no hb1 hl)
        unfold Differs
        rw [e1, e2, e3]
        simp only [ne_eq, not_true_eq_false, false_and, or_false, reduceCtorEq, not_false_eq_true, true_and, Option.getD_some, Option.getD_none]
        exact ⟨fun e => by rw [e], fun e => Prod.ext hc e⟩
      · rw [differs_skip hc (fun q hq => cons_at a hq)]
        exact ⟨fun e => e.elim (fun e => absurd (by rw [e]) hc) id, .inr⟩
    · by_cases hp : x.p = y.p
      · have hsk : c.1 ≠ y.p → (Differs (x :: a) (y :: b) c ↔ Differs a b c) := fun hc => by
          unfold Differs
          rw [cons_at b hc, cons_at a (by rw [hp]; exact hc)]
        have h1 : c.1 = y.p → recAt a c.1 = none ∧ recAt b c.1 = none ∧ recAt (x :: a) c.1 = some x ∧ recAt (y :: b) c.1 = some y := fun hc => by
          rw [hc]
          refine ⟨?_, recAt_front hb1, ?_, cons_here y b⟩
          · rw [← hp]; exact recAt_front ha1
          · rw [← hp]; exact cons_here x a
        by_cases he : x = y
        · rw [chg_same he, chg_mem a b ha2 hb2 c]
          by_cases hc : c.1 = y.p
          · obtain ⟨e1, e2, e3, e4⟩ := h1 hc
            unfold Differs
            rw [e1, e2, e3, e4, he]
            simp
          · exact (hsk hc).symm
        · rw [chg_both hp he, List.mem_cons, chg_mem a b ha2 hb2 c]
          by_cases hc : c.1 = y.p
          · obtain ⟨e1, e2, e3, e4⟩ := h1 hc
            unfold Differs
            rw [e1, e2, e3, e4]
            have : (some x ≠ some y) := fun e => he (Option.some.inj e)
            simp only [ne_eq, not_true_eq_false, false_and, or_false, Option.getD_some, Option.getD_none]
            exact ⟨fun e => ⟨this, by rw [e]⟩, fun e => Prod.ext hc e.2⟩
          · rw [hsk hc]
            exact ⟨fun e => e.elim (fun e => absurd (by rw [e]) hc) id, .inr⟩
      · have hl2 := less_flip hl hp
        rw [chg_more hl hp, List.mem_cons, chg_mem (x :: a) b ha hb2 c]
        by_cases hc : c.1 = y.p
        · have e1 : recAt b c.1 = none := by rw [hc]; exact recAt_front hb1
          have e2 : recAt (y :: b) c.1 = some y := by rw [hc]; exact cons_here y b
          have e3 : recAt (x :: a) c.1 = none := by rw [hc]; exact recAt_front (less_no ha1 hl2)
          unfold Differs
          rw [e1, e2, e3]
          simp only [ne_eq, not_true_eq_false, false_and, or_false, reduceCtorEq, not_false_eq_true, true_and, Option.getD_some, Option.getD_none]
          exact ⟨fun e => by rw [e], fun e => Prod.ext hc e⟩
        · have : Differs (x :: a) (y :: b) c ↔ Differs (x :: a) b c := by unfold Differs; rw [cons_at b hc]
          rw [this]
          exact ⟨fun e => e.elim (fun e => absurd (by rw [e]) hc) id, .inr⟩
termination_by a b => a.length + b.length

theorem differs_path {A B : List R} {c : Chg} (h : Differs A B c) : (∃ x ∈ A, x.p = c.1) ∨ ∃ y ∈ B, y.p = c.1 := by
  obtain ⟨h1, _⟩ := h
  cases ha : recAt A c.1 with
  | some x => exact .inl ⟨x, recAt_mem ha⟩
  | none =>
    cases hb : recAt B c.1 with
    | some y => exact .inr ⟨y, recAt_mem hb⟩
    | none => rw [ha, hb] at h1; exact absurd rfl h1
/-- All changes of lists that lie behind a path lie behind it. -/
theorem chg_after {A B : List R} (ha : Sorted A) (hb : Sorted B) {q : ByteArray} (h1 : ∀ x ∈ A, lessQ q x.p = true) (h2 : ∀ y ∈ B, lessQ q y.p = true) : ∀ c ∈ chgs A B, lessQ q c.1 = true := fun c hc => by
  rcases differs_path ((chg_mem A B ha hb c).1 hc) with ⟨x, hx, e⟩ | ⟨x, hx, e⟩
  · rw [← e]; exact h1 x hx
  · rw [← e]; exact h2 x hx
theorem chg_sorted : ∀ A B : List R, Sorted A → Sorted B → (chgs A B).Pairwise fun c d => lessQ c.1 d.1 = true
  | [], [], _, _ => by rw [chg_nil]; exact List.Pairwise.nil
  | x :: a, [], ha, hb => by
    obtain ⟨ha1, ha2⟩ := List.pairwise_cons.1 ha
    rw [chg_left]
    exact List.pairwise_cons.2 ⟨chg_after ha2 hb ha1 (fun y hy => by cases hy), chg_sorted a [] ha2 hb⟩
  | [], y :: b, ha, hb => by
    obtain ⟨hb1, hb2⟩ := List.pairwise_cons.1 hb
    rw [chg_right]
    exact List.pairwise_cons.2 ⟨chg_after ha hb2 (fun y hy => by cases hy) hb1, chg_sorted [] b ha hb2⟩
  | x :: a, y :: b, ha, hb => by
    obtain ⟨ha1, ha2⟩ := List.pairwise_cons.1 ha
    obtain ⟨hb1, hb2⟩ := List.pairwise_cons.1 hb
    rcases Bool.eq_false_or_eq_true (lessR x y) with hl | hl
    · rw [chg_less hl]
      exact List.pairwise_cons.2 ⟨chg_after ha2 hb ha1 (less_no hb1 hl), chg_sorted a (y :: b) ha2 hb⟩
    · by_cases hp : x.p = y.p
      · by_cases he : x = y
        · rw [chg_same he]; exact chg_sorted a b ha2 hb2
        · rw [chg_both hp he]
          exact List.pairwise_cons.2 ⟨chg_after ha2 hb2 (fun w hw => by show lessQ y.p w.p = true; rw [← hp]; exact ha1 w hw) hb1, chg_sorted a b ha2 hb2⟩
      · have hl2 := less_flip hl hp
        rw [chg_more hl hp]
        exact List.pairwise_cons.2 ⟨chg_after ha hb2 (less_no ha1 hl2) hb1, chg_sorted (x :: a) b ha hb2⟩
termination_by a b => a.length + b.length
theorem chg_len : ∀ A B : List R, (chgs A B).length ≤ A.length + B.length
  | [], [] => by rw [chg_nil]; simp
  | x :: a, [] => by rw [chg_left]; have := chg_len a []; simp at this ⊢; omega
  | [], y :: b => by rw [chg_right]; have := chg_len [] b; simp at this ⊢; omega
  | x :: a, y :: b => by
    rw [chgs]
    have h1 := chg_len a (y :: b)
    have h2 := chg_len (x :: a) b
    have h3 := chg_len a b
    simp only [List.length_cons] at h1 h2 h3 ⊢
    split
    · simp only [List.length_cons]; omega
    · split
      · split
        · omega
        · simp only [List.length_cons]; omega
      · simp only [List.length_cons]; omega
termination_by a b => a.length + b.length
end Go.Proofs.YtibekkfbpmloiabGreatDoor.Recs
