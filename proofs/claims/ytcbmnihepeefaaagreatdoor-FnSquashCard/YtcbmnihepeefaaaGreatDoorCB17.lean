/- Parts of several texts of mine in one file (each begins with its own remark). -/
import Derived.Test.YtcbmnihepeefaaaGreatDoorCA1
import Derived.Test.YtcbmnihepeefaaaGreatDoorCA10
import Derived.Test.YtcbmnihepeefaaaGreatDoorCA2
import Derived.Test.YtcbmnihepeefaaaGreatDoorCA3
import Derived.Test.YtcbmnihepeefaaaGreatDoorCA4
import Derived.Test.YtcbmnihepeefaaaGreatDoorCA5
import Derived.Test.YtcbmnihepeefaaaGreatDoorCA6
import Derived.Test.YtcbmnihepeefaaaGreatDoorCA7
import Derived.Test.YtcbmnihepeefaaaGreatDoorCA8
import Derived.Test.YtcbmnihepeefaaaGreatDoorCA9
import Derived.Test.YtcbmnihepeefaaaGreatDoorCB1
import Derived.Test.YtcbmnihepeefaaaGreatDoorCB12
import Derived.Test.YtcbmnihepeefaaaGreatDoorCB13
import Derived.Test.YtcbmnihepeefaaaGreatDoorCB14
import Derived.Test.YtcbmnihepeefaaaGreatDoorCB15
import Derived.Test.YtcbmnihepeefaaaGreatDoorCB16
import Derived.Test.YtcbmnihepeefaaaGreatDoorCB2
import Derived.Test.YtcbmnihepeefaaaGreatDoorCB5
import Derived.Test.YtcbmnihepeefaaaGreatDoorCB6
import Derived.Test.YtcbmnihepeefaaaGreatDoorCB8
import Derived.Test.YtcbmnihepeefaaaGreatDoorCB9
import Derived.Test.YtcbmnihepeefaaaGreatDoorChecked
import Derived.Test.YtcbmnihepeefaaaGreatDoorShelf
import Derived.Test.YtcbmnihepeefaaaGreatDoorProg
import Derived.Test.YtcbmnihepeefaaaGreatDoorRows
import Derived.Test.YtcbmnihepeefaaaGreatDoorShelf2
import Derived.Deep.RegionHeld3
import Derived.Deep.Slices
import Derived.OpenShut
import Derived.ShutString
import Derived.ChangeArms
import Derived.WideShapes
import Derived.Lib.LaidTab
import Derived.BigQuiet
import Derived.Deep.QuietTactic
import Derived.StillTailTactics
import Derived.Deep.Draws
import Derived.Deep.LoopGhost
import Derived.WalkKit
import Derived.WalkSpells
import Derived.WalkSmall
import Derived.Lib.OthersKept
import Derived.Lib.Hide
import Derived.Lib.Strings
import Derived.Lib.Join
import Derived.Deep.RegionWith
import Derived.Laws.OwnMore
import Derived.BigRegion
import Derived.Laws.BytesArg
import Derived.Stop.LaidErr
import Derived.WalkLawsBesides
import Derived.LaidEql
import Derived.Stop.Asserts
import Derived.Below
import Derived.Stop.LaidTwo
import Derived.OneCell
import Derived.Lib.SliceRun
import Derived.Lib.Overlaps
import Derived.Lib.AppendZerosOnto
import Derived.Laws.NewBlocks
import Derived.Laws.IdiomCopy
import Derived.Deep.RegionLaw
import Derived.ChangeVars
import Derived.Deep.DeepHandedRow
import Derived.Deep.AppendLies
import Derived.Laws.EntriesVeiled
import Derived.Laws.IdiomRangeMap
import Derived.Maps.RangeWalk
import Derived.Maps.Ext
import Derived.Lib.SlMapFilter
import Derived.Laws.AppendOwnNone
import Derived.RegionTactic
import Derived.Shelf.SlSortCmp.NoneTotal
import Derived.Sort.OwnSorted
import Derived.RangeFuncNested
import Derived.RangeFuncBound
import Derived.RangeFuncCalls
import Derived.RangeFuncLeaves
import Derived.RangeFuncBox
import Derived.Shelf.Abstract
import Derived.Shelf.RegionOpen
import Derived.OwnWalkIn
import Derived.TacticsInMore
import Derived.LoopNIn
import Derived.LoopIn
import Derived.Maps.OwnIn
import Derived.Maps.AppendAt
import Derived.Sort.MapsRangeIn
import Derived.Sort.KeysCollected
import Derived.Sort.Grow
import Derived.IntWalk
/- The model's draws: a tree drawn is one. -/
namespace Go.Proofs.YtcbmnihepeefaaaGreatDoor.Draw
set_option maxRecDepth 100000
open Go.RowKit
open Paths Recs

/-- The record that a drawn record gives a tree. -/
def plainR (r : R) : R := ⟨if r.k = 4 then 3 else r.k, r.m, r.p, r.b, false⟩
theorem plain_fault {r : R} (h : r.fault = 0) : (plainR r).fault = 0 := by
  by_cases hk : r.k = 4
  · obtain ⟨hb, hm, _⟩ := (fault_more h).2 hk
    unfold plainR R.fault
    simp only [if_pos hk, hb, hm]
    exact good_dir (fault_path h).1 (by omega) false
  · unfold plainR
    rw [if_neg hk]
    exact nodeOf_fault h
theorem plain_is (r : R) : (plainR r).o = false ∧ (plainR r).k ≠ 4 := by
  refine ⟨rfl, ?_⟩
  unfold plainR
  split
  · show (3 : Int) ≠ 4
    decide
  · rename_i h
    exact h
def Plain (l : List R) : Prop := ∀ x ∈ l, x.o = false ∧ x.k ≠ 4
theorem plain_put {l : List R} {r : R} (hl : layerOK l = true) (hp : Plain l) (hr : r.fault = 0) : Plain (lputF 4 l (plainR r)) :=
  lput_all (P := fun x => x.o = false ∧ x.k ≠ 4) (fun q => ⟨rfl, by show (3 : Int) ≠ 4; decide⟩) 4 (layer_lays hl) (plain_fault hr) (pathB_parts (fault_path (plain_fault hr)).1).1 hp (plain_is r)
theorem plain_tree {l : List R} (hl : layerOK l = true) (hp : Plain l) : Tree l := lays_tree (layer_lays hl) (fun r hr => (hp r hr).2) (by have := layer_len hl; omega)
set_option maxHeartbeats 4000000 in
theorem tree_any (w : World) (B g m : Nat) (h : Src w B g m) (hm : m + 100 ≤ 1000000) :
    Calls Tryz.prog 85 #[.pointer (some ⟨g, 0, none⟩)] w fun e w' => ∃ v t, e = .returned v ∧ Tree t ∧ (∀ r ∈ t, r.o = false) ∧ Went w w' B g (m + 100) ∧ RowN w' w.heap.size v t.length t ∧ v ≠ .slice none 0 0 ∧ layerOK t = true := by
  obtain ⟨i0, hi, hI0, hI1, hI2⟩ := info_parts nodInfo
  have hgl := h.lt
  have hb0 : Below w.heap.size w (w.alloc (.cells #[] 26)) := (Below.refl _ _).alloc (Nat.le_refl _) _
  have HO0 : Hid (layerOK [] = true ∧ Plain [] ∧ RowOf (w.alloc (.cells #[] 26)) w.heap.size (.slice (some ⟨w.heap.size, 0, none⟩) 0 0) ([] : List R).length []) := ⟨fine_ok fine_nil (by simp), (fun x hx => by cases hx), ⟨rfl, World.ownsRow_lit w #[] 0 (Nat.le_refl _) (Nat.zero_le _) rfl⟩⟩
  have HW0 := Lib.hid ((Went.refl h).below hb0)
  have HRM := room_any _ B g m 7 (h.below hb0) (by omega)
  clear h
  go_enter Tryz.func85, Tryz.ntmps85
  go_wp2_with fail
  generalize w.alloc (.cells #[] 26) = W1 at *
  refine HRM.mono ?_
  rintro e w2 ⟨r, hr1, hr6, rfl, rfl⟩
  have HNX := next_small W1 B g m ((r : Int) + 2) HW0.out.1 (by omega) (by omega)
  go_wp2_with fail
  refine HNX.mono ?_
  rintro e w3 ⟨N, hN, rfl, hw3⟩
  have hN9 : N ≤ 9 := by omega
  have HI0 : Hid (Went w w3 B g (m + 1) ∧ layerOK [] = true ∧ Plain [] ∧ RowOf w3 w.heap.size (.slice (some ⟨w.heap.size, 0, none⟩) 0 0) ([] : List R).length []) := ⟨HW0.out.trans hw3, HO0.out.1, HO0.out.2.1, row_went HO0.out.2.2 hw3 hgl⟩
  clear hN hw3 HO0 HW0
  go_wp2
  go_loopw [3, 4] (fun lv iv wr => ∃ (k : Nat) (l : List R), k ≤ N ∧ iv = .int .i64 k ∧ Hid (Went w wr B g (m + 1 + 7 * (N - k)) ∧ layerOK l = true ∧ Plain l ∧ RowOf wr w.heap.size lv l.length l)) (fun _ i _ => (intOf i).toNat)
  case atStart => exact ⟨N, [], Nat.le_refl _, rfl, by
    have h1 := HI0.out
    show Went w w3 B g (m + 1 + 7 * (N - N)) ∧ _
    rw [Nat.sub_self]
    exact h1⟩
  case round =>
    obtain ⟨k, l, hk, rfl, HI⟩ := hrel
    obtain ⟨lA, lcap, rfl⟩ := HI.out.2.2.2.form
    have hl16 := layer_len HI.out.2.1
    by_cases h0 : 0 < k
    · have hd : decide ((0 : Int) < (k : Int)) = true := by simp; omega
      have HPT := path_any wr B g _ HI.out.1.1 (by omega)
      go_wp2_with fail
      refine HPT.mono ?_
      rintro e w4 ⟨q, hq, rfl, hw4⟩
      have HW4 := Lib.hid hw4
      have HP := Lib.hid (show pathB (⟨q.toArray⟩ : ByteArray).data.toList = true by simpa using hq)
      clear hw4 hq
      rw [strV_eq2]
      have HRC := record_any w4 B g _ ⟨q.toArray⟩ HP.out HW4.out.1 (by omega)
      go_wp2_with fail
      refine HRC.mono ?_
      rintro e w5 ⟨rk, rm, rb, ro, hf, _, rfl, hw5⟩
      have HW5 := Lib.hid (HI.out.1.trans (HW4.out.trans hw5))
      have HR5 := Lib.hid (row_went (row_went HI.out.2.2.2 HW4.out hgl) hw5 hgl)
      have HF := Lib.hid (fault_i hf)
      have HPR : Hid (plainR ⟨rk, rm, ⟨q.toArray⟩, rb, ro⟩ = ⟨if rk = 4 then 3 else rk, rm, ⟨q.toArray⟩, rb, false⟩) := rfl
      have HPF := Lib.hid (plain_fault HF.out)
      have HPL := Lib.hid (plain_put HI.out.2.1 HI.out.2.2.1 HF.out)
      have h5l : w.heap.size ≤ w5.heap.size := HW5.out.2.size
      have hk1 : ((k - 1 : Nat) : Int) = (k : Int) - 1 := by omega
      clear hw5 hf
      have HPU : ∀ W, Below w5.heap.size w5 W → Calls Tryz.prog 162 #[.slice lA l.length lcap, (plainR ⟨rk, rm, ⟨q.toArray⟩, rb, ro⟩).val] W fun e w' => ∃ x, e = .returned x ∧ Below W.heap.size W w' ∧ RowOf w' W.heap.size x (lputF 4 l (plainR ⟨rk, rm, ⟨q.toArray⟩, rb, ro⟩)).length (lputF 4 l (plainR ⟨rk, rm, ⟨q.toArray⟩, rb, ro⟩)) ∧ x ≠ .slice none 0 0 := fun W hW =>
        l03Put_any 4 _ l _ W (HR5.out.below hW).sl (layer_lays HI.out.2.1) HPF.out (pathB_parts (fault_path HPF.out).1).1 (by omega)
      rw [HPR.out] at HPU
      have HLO : Hid ((lputF 4 l (plainR ⟨rk, rm, ⟨q.toArray⟩, rb, ro⟩)).length ≤ 16 → layerOK (lputF 4 l (plainR ⟨rk, rm, ⟨q.toArray⟩, rb, ro⟩)) = true) := fun h16 => lput_layer HI.out.2.1 HPF.out h16
      rw [HPR.out] at HLO HPL
      unfold R.val at HPU
      by_cases h4 : rk = 4
      · have q4 : (rk == 4) = true := by simp [h4]
        rw [if_pos h4] at HPU HLO HPL
        clear h4
        have HWQ : Below w5.heap.size w5 (w5.alloc (.cells #[.int .i64 3, .string ⟨q.toArray⟩, .string rb, .int .i64 rm, .bool false] 26)) := (Below.refl _ _).alloc (Nat.le_refl _) _
        have HP2 := HPU _ HWQ
        generalize lputF 4 l ⟨3, rm, ⟨q.toArray⟩, rb, false⟩ = X at *
        go_wp2_with fail
        refine HP2.mono ?_
        rintro e w6 ⟨x, rfl, hb6, hrow6, hx6⟩
        obtain ⟨xA, xcap, rfl⟩ := hrow6.form
        have HR6 := Lib.hid hrow6
        have c6 : Below w5.heap.size w5 w6 := HWQ.trans (hb6.mono HWQ.size)
        have h6l := HWQ.size
        have HW6 : Hid (Went w w6 B g (m + 1 + 7 * (N - (k - 1)))) := (HW5.out.below c6).more (by omega) (by omega)
        clear hrow6 hx6
        by_cases h16 : X.length ≤ 16
        · have hd2 : decide ((X.length : Int) ≤ 16) = true := by simp; omega
          have HOK := Lib.hid (HLO.out h16)
          clear h16
          go_wp2_with fail
          go_roundw
          case rel => exact ⟨k - 1, _, by omega, by rw [hk1], HW6.out, HOK.out, HPL.out, ⟨HR6.out.1, own_down HR6.out.2 (Nat.le_trans h5l h6l)⟩⟩
          case measure => simp [intOf]; omega
        · have hd2 : decide ((X.length : Int) ≤ 16) = false := by simp; omega
          have HRL := Lib.hid (HR5.out.below c6)
          clear h16
          go_wp2_with fail
          go_roundw
          case rel => exact ⟨k - 1, l, by omega, by rw [hk1], HW6.out, HI.out.2.1, HI.out.2.2.1, HRL.out⟩
          case measure => simp [intOf]; omega
      · have q4 : (rk == 4) = false := by simp [h4]
        rw [if_neg h4] at HPU HLO HPL
        clear h4
        have HWQ : Below w5.heap.size w5 (w5.alloc (.cells #[.int .i64 rk, .string ⟨q.toArray⟩, .string rb, .int .i64 rm, .bool false] 26)) := (Below.refl _ _).alloc (Nat.le_refl _) _
        have HP2 := HPU _ HWQ
        generalize lputF 4 l ⟨rk, rm, ⟨q.toArray⟩, rb, false⟩ = X at *
        go_wp2_with fail
        refine HP2.mono ?_
        rintro e w6 ⟨x, rfl, hb6, hrow6, hx6⟩
        obtain ⟨xA, xcap, rfl⟩ := hrow6.form
        have HR6 := Lib.hid hrow6
        have c6 : Below w5.heap.size w5 w6 := HWQ.trans (hb6.mono HWQ.size)
        have h6l := HWQ.size
        have HW6 : Hid (Went w w6 B g (m + 1 + 7 * (N - (k - 1)))) := (HW5.out.below c6).more (by omega) (by omega)
        clear hrow6 hx6
        by_cases h16 : X.length ≤ 16
        · have hd2 : decide ((X.length : Int) ≤ 16) = true := by simp; omega
          have HOK := Lib.hid (HLO.out h16)
          clear h16
          go_wp2_with fail
          go_roundw
          case rel => exact ⟨k - 1, _, by omega, by rw [hk1], HW6.out, HOK.out, HPL.out, ⟨HR6.out.1, own_down HR6.out.2 (Nat.le_trans h5l h6l)⟩⟩
          case measure => simp [intOf]; omega
        · have hd2 : decide ((X.length : Int) ≤ 16) = false := by simp; omega
          have HRL := Lib.hid (HR5.out.below c6)
          clear h16
          go_wp2_with fail
          go_roundw
          case rel => exact ⟨k - 1, l, by omega, by rw [hk1], HW6.out, HI.out.2.1, HI.out.2.2.1, HRL.out⟩
          case measure => simp [intOf]; omega
    · have hd : decide ((0 : Int) < (k : Int)) = false := by simp; omega
      have HTR := Lib.hid (plain_tree HI.out.2.1 HI.out.2.2.1)
      have HLK := Lib.hid HI.out.2.1
      have HPL := Lib.hid HI.out.2.2.1
      have HSL := Lib.hid HI.out.2.2.2.sl
      have HWE : Hid (Went w wr B g (m + 100)) := HI.out.1.more (by omega) (by omega)
      have hwr : w.heap.size ≤ wr.heap.size := HWE.out.2.size
      have HQ0 : Hid (([] : List R) = l.take 0 ∧ RowN (wr.alloc (.cells #[] 29)) wr.heap.size (.slice (some ⟨wr.heap.size, 0, none⟩) 0 0) ([] : List R).length [] ∧ (Value.slice (some ⟨wr.heap.size, 0, none⟩) 0 0) ≠ .slice none 0 0) := ⟨rfl, emptyN wr (Nat.le_refl _), (fun e => by cases e)⟩
      have kA : Below wr.heap.size wr (wr.alloc (.cells #[] 29)) := (Below.refl _ _).alloc (Nat.le_refl _) _
      clear HI
      generalize hwo : wr = wo at *
      clear hwo
      go_wp2
      go_loopw [7, 8] (fun ov iv wx => ∃ (j : Nat) (O : List R), j ≤ l.length ∧ iv = .int .i64 j ∧ Below wo.heap.size wo wx ∧ Hid (O = l.take j ∧ RowN wx wo.heap.size ov O.length O ∧ ov ≠ .slice none 0 0)) (fun _ i _ => l.length - (intOf i).toNat)
      case atStart => exact ⟨0, [], by omega, rfl, kA, HQ0.out⟩
      case round =>
        obtain ⟨j, O, hj, rfl, kw, HJ⟩ := hrel
        obtain ⟨oA, ocap, rfl⟩ := own_form HJ.out.2.1.2.1
        by_cases hlt : j < l.length
        · obtain ⟨_, _, hsle, _, HS0⟩ := HSL.out
          cases hsle
          obtain ⟨b, off, hsA, hb, hcell⟩ := HS0 (by omega)
          cases hsA
          obtain ⟨c0, c1, c2, c3, c4⟩ := (hcell j l[j] (by simp [hlt])).below kw hb
          clear hcell HS0
          have hi1 : (j : Int) < (l.length : Int) := by omega
          have hi0 : (0 : Int) ≤ (j : Int) := by omega
          have HNO := l04Node_any l[j] wr
          unfold R.val R.nod at HNO
          have hl2 : O.length ≤ 16 := by have := congrArg List.length HJ.out.1; rw [List.length_take] at this; omega
          have HTK := Lib.hid (List.take_succ_eq_append_getElem hlt)
          have HOF := Lib.hid (HPL.out _ (List.getElem_mem hlt)).1
          go_wp2_with fail
          refine HNO.mono ?_
          rintro e w6 ⟨rfl, hb6⟩
          have k6 := kw.trans (hb6.mono kw.size)
          have HR6 := Lib.hid (HJ.out.2.1.below hb6)
          have hr3 : (w6.alloc (.cells #[.int .i64 l[j].k, .string l[j].p, .string l[j].b, .int .i64 l[j].m] 29)).ownsRow wo.heap.size 29 4 (.slice oA O.length ocap) O.length (flatN O) := HR6.out.2.1.alloc _
          have hnews := nodR_cells_new w6 l[j] 29
          have hone := nodR_one l[j]
          have hbz : wo.heap.size ≤ (w6.alloc (.cells #[.int .i64 l[j].k, .string l[j].p, .string l[j].b, .int .i64 l[j].m] 29)).heap.size := (k6.alloc k6.size _).size
          go_wp2_with (first
            | (at_builtin; refine wpList_append_own _ rfl _ _ 23 rfl wo.heap.size 29 i0 (.agg #[.int .i64 0, .string ByteArray.empty, .string ByteArray.empty, .int .i64 0]) 4 48 Tryz.underlying23 hi hI0 hI1 hI2 rfl (by decide) _ _ _ rfl hr3 ⟨w6.heap.size, 0, none⟩ 1 1 (R.ns l[j]) rfl rfl hnews hone (by unfold maxLen; omega) (by omega) hbz ?_; intro v' w9 hown' hgrow9 hnil9; have HRN : Hid (RowN w9 wo.heap.size v' (O ++ [l[j]]).length (O ++ [l[j]])) := rowN_snoc hown' HR6.out.2.2 HOF.out; have HNN : Hid (v' ≠ .slice none 0 0) := (fun e => by have := (hnil9.1 e).2; omega); have k9 := (k6.alloc k6.size _).grown hgrow9 hbz (fun j hj => (HR6.out.2.1.lt j hj).1); clear hown' hgrow9 hnil9)
            | go_in)
          go_roundw
          case rel => exact ⟨j + 1, O ++ [l[j]], by omega, by go_num, k9, ⟨by rw [HTK.out, HJ.out.1], HRN.out, HNN.out⟩⟩
          case measure => simp [intOf]; omega
        · obtain rfl : j = l.length := by omega
          have HOL : Hid (O = l) := (by show _ = _; rw [HJ.out.1, List.take_of_length_le (Nat.le_refl _)])
          go_wp2
          go_ret
          exact ⟨_, O, rfl, by rw [HOL.out]; exact HTR.out, by rw [HOL.out]; exact fun r hr => (HPL.out r hr).1, HWE.out.below kw, HJ.out.2.1.down hwr, HJ.out.2.2, by rw [HOL.out]; exact HLK.out⟩

set_option maxHeartbeats 400000 in
theorem treeDrawn_any (w : World) (A : Option Addr) (n cap : Nat) (hB : Byts w w.heap.size A n) (hn : n ≤ cap) :
    Calls Tryz.prog 11 #[.slice A n cap] w fun e w' => ∃ v t, e = .returned v ∧ Tree t ∧ (∀ r ∈ t, r.o = false) ∧ Below w.heap.size w w' ∧ RowN w' w.heap.size v t.length t ∧ v ≠ .slice none 0 0 ∧ layerOK t = true := by
  have HB := Lib.hid hB
  clear hB
  go_enter Tryz.func11, Tryz.ntmps11
  go_wp2_with fail
  refine (source_any w A n cap HB.out hn).mono ?_
  rintro e w1 ⟨rfl, hs1, hb1⟩
  have HS1 := Lib.hid hs1
  clear hs1
  go_wp2_with fail
  refine (tree_any w1 w.heap.size w.heap.size 0 HS1.out (by omega)).mono ?_
  rintro e w2 ⟨v, t, rfl, htr, hto, hw2, hrow, hv, hlk⟩
  have HL := Lib.hid htr
  have HO := Lib.hid hto
  have HB2 := Lib.hid (hb1.trans (hw2.belowB hb1.size))
  have HR := Lib.hid hrow
  have HV := Lib.hid hv
  have HLK := Lib.hid hlk
  have hz := hb1.size
  clear htr hto hw2 hrow hv hlk
  go_wp2_with fail
  go_ret
  exact ⟨v, t, rfl, HL.out, HO.out, HB2.out, HR.out.down hz, HV.out, HLK.out⟩
end Go.Proofs.YtcbmnihepeefaaaGreatDoor.Draw

/- For laws that look at trees: the laws' own comparison of lists of nodes, and their search. -/
namespace Go.Proofs.YtcbmnihepeefaaaGreatDoor.Recs
set_option maxRecDepth 100000
open Go.RowKit Paths

set_option maxHeartbeats 1600000 in
theorem sameNodes_any (v1 v2 : Value) (A B : List R) (w : World) (h1 : NodSl w v1 A) (h2 : NodSl w v2 B) (hl : A.length ≤ 1048576) :
    Calls Tryz.prog 15 #[v1, v2] w fun e w' => e = .returned (.bool (decide (A = B))) ∧ ∃ n, w' = w.drewN n := by
  obtain ⟨ho1, a1, cap1, rfl, hcap1, h1⟩ := h1
  obtain ⟨ho2, a2, cap2, rfl, hcap2, h2⟩ := h2
  by_cases hL : A.length = B.length
  · have hne : ((A.length : Int) != (B.length : Int)) = false := by simp [hL]
    have HL := Lib.hid hL
    have H1 := Lib.hid h1
    have H2 := Lib.hid h2
    clear hL h1 h2
    go_enter Tryz.func15, Tryz.ntmps15
    go_wp2
    go_loopw [5] (fun i wr => ∃ k n : Nat, k ≤ A.length ∧ i = .int .i64 k ∧ wr = w.drewN n ∧ Hid (A.take k = B.take k)) (fun i _ => A.length - (intOf i).toNat)
    case atStart => exact ⟨0, 0, by omega, rfl, rfl, rfl⟩
    case round =>
      obtain ⟨k, n, hk, rfl, rfl, HK⟩ := hrel
      by_cases hlt : k < A.length
      · obtain ⟨b1, o1, rfl, hb1, hcell1⟩ := H1.out (by omega)
        have hL2 := HL.out
        have hlt2 : k < B.length := by omega
        obtain ⟨b2, o2, rfl, hb2, hcell2⟩ := H2.out (by omega)
        obtain ⟨c0, c1, c2, c3⟩ := hcell1 k A[k] (by simp [hlt])
        obtain ⟨d0, d1, d2, d3⟩ := hcell2 k B[k] (by simp [hlt2])
        clear hcell1 hcell2 hL2 H1 H2
        have hi1 : (k : Int) < (A.length : Int) := by omega
        have hi2 : (k : Int) < (B.length : Int) := by omega
        have hi0 : (0 : Int) ≤ (k : Int) := by omega
        have f4 : (A[k].o == B[k].o) = true := by rw [ho1 A[k] (List.getElem_mem hlt), ho2 B[k] (List.getElem_mem hlt2)]; rfl
        rcases four A[k] B[k] with f0 | ⟨f0, f1⟩ | ⟨f0, f1, f2⟩ | ⟨f0, f1, f2, f3⟩ | ⟨f0, f1, f2, f3⟩
        · have HF := ne_at hlt hlt2 (fun e => by rw [e] at f0; simp at f0)
          go_wp2
          go_quiet (fail)
          go_wp2
          go_ret
          exact ⟨ret_bool (by simp [HF.out]), n + nq, World.drewN_drewN _ _ _⟩
        · have HF := ne_at hlt hlt2 (fun e => by rw [e] at f1; simp at f1)
          go_wp2
          go_quiet (fail)
          go_wp2
          go_ret
          exact ⟨ret_bool (by simp [HF.out]), n + nq, World.drewN_drewN _ _ _⟩
        · have HF := ne_at hlt hlt2 (fun e => by rw [e] at f2; simp at f2)
          go_wp2
          go_quiet (fail)
          go_wp2
          go_ret
          exact ⟨ret_bool (by simp [HF.out]), n + nq, World.drewN_drewN _ _ _⟩
        · have HF := ne_at hlt hlt2 (fun e => by rw [e] at f3; simp at f3)
          go_wp2
          go_quiet (fail)
          go_wp2
          go_ret
          exact ⟨ret_bool (by simp [HF.out]), n + nq, World.drewN_drewN _ _ _⟩
        · have HT := Lib.hid (take_snoc_eq hlt hlt2 HK.out (rec_eq f0 f1 f2 f3 f4))
          go_wp2
          go_quiet (fail)
          go_wp2
          exact ⟨⟨k + 1, _, by omega, by go_num, rfl, HT⟩, by simp [intOf]; omega⟩
      · have HE : Hid (A = B) := by
          have hL2 := HL.out
          have := HK.out
          rw [List.take_of_length_le (by omega), List.take_of_length_le (by omega)] at this
          exact this
        go_wp2
        go_ret
        exact ⟨ret_bool (by simp [HE.out]), _, rfl⟩
  · have hne : ((A.length : Int) != (B.length : Int)) = true := by simp; omega
    have HE : Hid (¬ A = B) := fun e => hL (by rw [e])
    clear hL
    go_enter Tryz.func15, Tryz.ntmps15
    go_wp2
    go_ret
    exact ⟨ret_bool (by simp [HE.out]), 0, rfl⟩
end Go.Proofs.YtcbmnihepeefaaaGreatDoor.Recs

/- The choice that some bytes make (laws.at), as a plain function of the bytes. -/
namespace Go.Proofs.YtcbmnihepeefaaaGreatDoor.Draw
open Go.RowKit

/-- A slice of bytes that reads as f. -/
def Vals (w : World) (A : Option Addr) (n : Nat) (f : Nat → Nat) : Prop :=
  n ≤ 1048577 ∧ (0 < n → ∃ b off, A = some ⟨b, off, none⟩ ∧ b < w.heap.size ∧ ∀ k, k < n → f k ≤ 255 ∧ w.cell? ⟨b, off + k, none⟩ = some (.int .u8 (f k)))
theorem Vals.byts {w : World} {A : Option Addr} {n : Nat} {f : Nat → Nat} (h : Vals w A n f) : Byts w w.heap.size A n := by
  refine ⟨h.1, fun hn => ?_⟩
  obtain ⟨b, off, e, hb, hc⟩ := h.2 hn
  exact ⟨b, off, e, hb, fun k hk => ⟨f k, hc k hk⟩⟩
theorem Vals.below {w w' : World} {A : Option Addr} {n : Nat} {f : Nat → Nat} (h : Vals w A n f) (hb : Below w.heap.size w w') : Vals w' A n f := by
  refine ⟨h.1, fun hn => ?_⟩
  obtain ⟨b, off, e, hlt, hc⟩ := h.2 hn
  exact ⟨b, off, e, Nat.lt_of_lt_of_le hlt hb.size, fun k hk => ⟨(hc k hk).1, (hb.cell (p := ⟨b, off + k, none⟩) hlt).trans (hc k hk).2⟩⟩

theorem ret_int {a b : Int} (h : a = b) : Ending.returned (.int .i64 a) = .returned (.int .i64 b) := by rw [h]

end Go.Proofs.YtcbmnihepeefaaaGreatDoor.Draw

/- Slices of bytes that came in: what the laws read off them. -/
namespace Go.Proofs.YtcbmnihepeefaaaGreatDoor.Draw
open Go.RowKit Go.ChangeShapes Go.WideShapes

/-- What is known of a slice of integers that came in. -/
def IsRow (k : IntKind) (w : World) (a : Option Addr) (len cap : Nat) (zs : List Int) : Prop :=
  (a = none ∧ len = 0 ∧ cap = 0 ∧ zs = []) ∨
  ∃ x, a = some x ∧ len ≤ cap ∧ cap ≤ maxLen ∧ zs.length = cap ∧ (∀ i, i < zs.length → w.cell? (x.add i) = some (.int k (zs.getD i 0))) ∧ ∀ n ∈ zs, (Lit.int k n).wf = true
theorem IsRow.vals {w : World} {a : Option Addr} {len cap : Nat} {zs : List Int} (h : IsRow .u8 w a len cap zs) (hl : len ≤ 1048576) : Vals w a len (fun k => (zs.getD k 0).toNat) ∧ len ≤ cap ∧ (a = none → len = 0 ∧ cap = 0) := by
  rcases h with ⟨rfl, rfl, rfl, rfl⟩ | ⟨x, rfl, h1, h2, h3, h4, h5⟩
  · exact ⟨⟨by omega, fun h => by omega⟩, Nat.le_refl _, fun _ => ⟨rfl, rfl⟩⟩
  · refine ⟨⟨by omega, fun hn => ?_⟩, h1, fun h => by cases h⟩
    have hc := h4 0 (by omega)
    obtain ⟨b, off, spot⟩ := x
    have hspot : spot = none := by simpa [Addr.add] using World.cell?_spot hc
    subst hspot
    refine ⟨b, off, rfl, World.block_lt_of_cell? w _ (by simpa [Addr.add_lit] using hc), fun k hk => ?_⟩
    have hck := h4 k (by omega)
    have hw := h5 (zs.getD k 0) (by simp [List.getD, show k < zs.length by omega])
    have hb : 0 ≤ zs.getD k 0 ∧ zs.getD k 0 ≤ 255 := bounds_u8 hw
    refine ⟨by show (zs.getD k 0).toNat ≤ 255; omega, ?_⟩
    show w.cell? ⟨b, off + k, none⟩ = some (.int .u8 (((zs.getD k 0).toNat : Nat) : Int))
    rw [Int.toNat_of_nonneg hb.1]
    simpa [Addr.add_lit] using hck

theorem Vals.later {w w' : World} {A : Option Addr} {n : Nat} {f : Nat → Nat} (h : Vals w A n f) (hb : Below w.heap.size w w') : Byts w' w'.heap.size A n := (h.below hb).byts

end Go.Proofs.YtcbmnihepeefaaaGreatDoor.Draw

/- A record drawn out of some bytes is valid. -/
namespace Go.Proofs.YtcbmnihepeefaaaGreatDoor.Draw
open Go.RowKit
open Paths Recs

/-- A valid record of which the path is short. -/
def Drawn (w : World) (e : Ending) (w' : World) : Prop :=
  ∃ (k mm : Int) (p b : ByteArray) (o : Bool), faultI k p.data.toList b.size mm o = 0 ∧ pathB p.data.toList = true ∧ p.size ≤ 35 ∧ b.size ≤ 20 ∧ e = .returned (.agg #[.int .i64 k, .string p, .string b, .int .i64 mm, .bool o]) ∧ Below w.heap.size w w'

set_option maxHeartbeats 400000 in
theorem recordDrawn_any (w : World) (A : Option Addr) (n cap : Nat) (hB : Byts w w.heap.size A n) (hn : n ≤ cap) :
    Calls Tryz.prog 12 #[.slice A n cap] w (Drawn w) := by
  have hb0 := (Below.refl w.heap.size w).alloc (Nat.le_refl _) (.cells #[.int .i64 0, .string ⟨#[]⟩, .string ⟨#[]⟩, .int .i64 0, .bool false] 26)
  have HB : Hid (Byts (w.alloc (.cells #[.int .i64 0, .string ⟨#[]⟩, .string ⟨#[]⟩, .int .i64 0, .bool false] 26)) (w.alloc (.cells #[.int .i64 0, .string ⟨#[]⟩, .string ⟨#[]⟩, .int .i64 0, .bool false] 26)).heap.size A n) := by
    have h2 := hB.below hb0
    refine ⟨h2.1, fun h => ?_⟩
    obtain ⟨b, off, e, hlt, hc⟩ := h2.2 h
    exact ⟨b, off, e, by simp; omega, hc⟩
  have HB0 := Lib.hid hb0
  clear hB hb0
  go_enter Tryz.func12, Tryz.ntmps12
  go_wp2_with fail
  refine (source_any _ A n cap HB.out hn).mono ?_
  rintro e w1 ⟨rfl, hs1, hb1⟩
  have hs1' : Src w1 (w.heap.size + 1) (w.heap.size + 1) 0 := by simpa using hs1
  have HS1 := Lib.hid hs1'
  have hc1 := fun o => hb1.cell (p := ⟨w.heap.size, o, none⟩) (by simp)
  have hf1 := fun o => hb1.frozen (p := ⟨w.heap.size, o, none⟩) (by simp)
  have hz1 : w.heap.size < w1.heap.size := by have := hb1.size; simp at this; omega
  have HB1 := Lib.hid hb1
  have hB1 : w.heap.size + 1 ≤ w1.heap.size := by omega
  clear hs1 hb1 hs1'
  go_wp2_with fail
  refine (path_any w1 (w.heap.size + 1) (w.heap.size + 1) 0 HS1.out (by omega)).mono ?_
  rintro e w2 ⟨l, hl, rfl, hw2⟩
  have hne : ¬ w.heap.size = w.heap.size + 1 := by omega
  have hc2 := fun o => (hw2.cell (k := w.heap.size) (o := o) hz1 hne).trans (hc1 o)
  have hf2 := fun o => (hw2.frozen (k := w.heap.size) (o := o) hz1 hne).trans (hf1 o)
  have hz2 : w.heap.size < w2.heap.size := by have := hw2.2.size; omega
  have HW2 := Lib.hid hw2
  have HS2 := Lib.hid hw2.1
  have HL := Lib.hid hl
  have HP := Lib.hid (show pathB (⟨l.toArray⟩ : ByteArray).data.toList = true by simpa using hl)
  clear hw2 hl hc1 hf1
  rw [strV_eq2]
  go_wp2_with fail
  with_reducible refine (record_any w2 (w.heap.size + 1) (w.heap.size + 1) (0 + 4) ⟨l.toArray⟩ HP.out HS2.out (by omega)).mono ?_
  rintro e w3 ⟨k, mm, b, o, hk, hb, rfl, hw3⟩
  have hc3 := fun o => (hw3.cell (k := w.heap.size) (o := o) hz2 hne).trans (hc2 o)
  have hf3 := fun o => (hw3.frozen (k := w.heap.size) (o := o) hz2 hne).trans (hf2 o)
  have hz3 : w.heap.size < w3.heap.size := by have := hw3.2.size; omega
  have HW3 := Lib.hid (HW2.out.trans hw3)
  have HK := Lib.hid hk
  clear hw3 hk hc2 hf2
  go_wp2_with fail
  refine bodyPost_ret (v := .agg #[.int .i64 k, .string ⟨l.toArray⟩, .string b, .int .i64 mm, .bool o]) (by simp [results, Tryz.results12, go_sem, hc3]) rfl ?_
  refine ⟨k, mm, ⟨l.toArray⟩, b, o, HK.out, by simpa using HL.out, pathB_len HL.out, hb, rfl, ?_⟩
  repeat (refine Below.setCell ?_ (by simp) _)
  exact HB0.out.trans ((HB1.out.mono (by simp)).trans ((HW3.out.belowB hB1).mono (by omega)))

end Go.Proofs.YtcbmnihepeefaaaGreatDoor.Draw
