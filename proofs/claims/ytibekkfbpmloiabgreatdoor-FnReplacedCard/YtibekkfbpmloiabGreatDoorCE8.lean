/- Parts of several texts of mine in one file (each begins with its own remark). -/
import Derived.Test.YtibekkfbpmloiabGreatDoorCA10
import Derived.Test.YtibekkfbpmloiabGreatDoorCA11
import Derived.Test.YtibekkfbpmloiabGreatDoorCA14
import Derived.Test.YtibekkfbpmloiabGreatDoorCA15
import Derived.Test.YtibekkfbpmloiabGreatDoorCA16
import Derived.Test.YtibekkfbpmloiabGreatDoorCA2
import Derived.Test.YtibekkfbpmloiabGreatDoorCA22
import Derived.Test.YtibekkfbpmloiabGreatDoorCA3
import Derived.Test.YtibekkfbpmloiabGreatDoorCA4
import Derived.Test.YtibekkfbpmloiabGreatDoorCA5
import Derived.Test.YtibekkfbpmloiabGreatDoorCA6
import Derived.Test.YtibekkfbpmloiabGreatDoorCA7
import Derived.Test.YtibekkfbpmloiabGreatDoorCA9
import Derived.Test.YtibekkfbpmloiabGreatDoorCE1
import Derived.Test.YtibekkfbpmloiabGreatDoorCE2
import Derived.Test.YtibekkfbpmloiabGreatDoorCE6
import Derived.Test.YtibekkfbpmloiabGreatDoorCE7
import Derived.Test.YtibekkfbpmloiabGreatDoorChecked
import Derived.Test.YtibekkfbpmloiabGreatDoorRows
import Derived.Test.YtibekkfbpmloiabGreatDoorProg
import Derived.Test.YtibekkfbpmloiabGreatDoorShelf
import Derived.Test.YtibekkfbpmloiabGreatDoorShelf2
import Derived.Laws.AppendOwnNone
import Derived.StillTailTactics
import Derived.Laws.OwnMore
import Derived.BigQuiet
import Derived.BigRegion
import Derived.Deep.QuietTactic
import Derived.Deep.RegionHeld3
import Derived.Deep.Slices
import Derived.OpenShut
import Derived.ShutString
import Derived.ChangeArms
import Derived.WideShapes
import Derived.Lib.LaidTab
import Derived.Deep.Draws
import Derived.Deep.LoopGhost
import Derived.WalkKit
import Derived.WalkSpells
import Derived.WalkSmall
import Derived.Lib.OthersKept
import Derived.Lib.Hide
import Derived.Lib.Strings
import Derived.Lib.Join
import Derived.Laws.BytesArg
import Derived.Deep.RegionWith
import Derived.OneCell
import Derived.Lib.SliceRun
import Derived.Lib.Overlaps
import Derived.Lib.AppendZerosOnto
import Derived.Laws.NewBlocks
import Derived.Laws.IdiomCopy
import Derived.Deep.RegionLaw
import Derived.ChangeVars
import Derived.Deep.DeepHandedRow
import Derived.LaidEql
import Derived.Stop.Asserts
import Derived.Below
import Derived.Stop.LaidErr
import Derived.Stop.LaidTwo
import Derived.WalkLawsBesides
import Derived.Deep.AppendLies
import Derived.RangeFuncNested
import Derived.RangeFuncBound
import Derived.RangeFuncCalls
import Derived.RangeFuncLeaves
import Derived.RangeFuncBox
import Derived.Shelf.Abstract
import Derived.Shelf.RegionOpen
import Derived.OwnWalkIn
import Derived.TacticsInMore
import Derived.LoopNIn
import Derived.LoopIn
import Derived.Deep.Cut
import Derived.Deep.CutRange
import Derived.Deep.CutBlock
import Derived.Shelf.SlSortCmp.NoneTotal
import Derived.Sort.OwnSorted
import Derived.Maps.OwnIn
import Derived.Maps.AppendAt
import Derived.Sort.MapsRangeIn
import Derived.Sort.KeysCollected
import Derived.Laws.IdiomRangeMap
import Derived.Maps.RangeWalk
import Derived.Maps.Ext
import Derived.Lib.SlMapFilter
import Derived.Sort.Grow
import Derived.Laws.EntriesVeiled
/- A stack with layers in its middle replaced by one, of the model. -/
namespace Go.Proofs.YtibekkfbpmloiabGreatDoor.Recs
set_option maxRecDepth 100000
open Go.RowKit Paths

theorem drop_take_snoc {LL : List (List R)} {t k : Nat} (h : k < LL.length) (htk : t ≤ k) : (LL.take k).drop t ++ [LL[k]] = (LL.take (k + 1)).drop t := by
  rw [List.take_succ_eq_append_getElem h, List.drop_append_of_le_length (by rw [List.length_take]; omega)]

set_option maxHeartbeats 6400000 in
theorem l06Put_any (v x0 : Value) (LL : List (List R)) (X : List R) (f t base : Nat) (w : World) (h : StkGood w v LL) (hl : LL.length ≤ 5) (hll : ∀ l ∈ LL, l.length ≤ 16) (hf : f ≤ LL.length) (ht : t ≤ LL.length) (hx : RowOf w base x0 X.length X) (hbase : base ≤ w.heap.size) :
    Calls Tryz.prog 106 #[v, .int .i64 f, .int .i64 t, x0] w fun e w' => ∃ z, e = .returned z ∧ Below w.heap.size w w' ∧ StkOwn w' w.heap.size base z (LL.take f ++ [X] ++ LL.drop t) := by
  obtain ⟨i0, hi, hI0, hI1, hI2⟩ := info_parts recInfo
  obtain ⟨s0, hs, hS0, hS1, hS2⟩ := info_parts ssInfo
  obtain ⟨sA, cap, rfl, hcap, h⟩ := h
  have H := Lib.hid h
  have HLL := Lib.hid hll
  have HX := Lib.hid hx
  obtain ⟨xA0, xc0, rfl⟩ := hx.form
  clear h hll hx
  have hb0 : Below w.heap.size w (w.alloc (.cells #[] 27)) := (Below.refl _ _).alloc (Nat.le_refl _) _
  have HS0 : Hid (StkOwn (w.alloc (.cells #[] 27)) w.heap.size w.heap.size (.slice (some ⟨w.heap.size, 0, none⟩) 0 0) []) := ⟨[], rfl, World.ownsRow_lit w #[] 0 (Nat.le_refl _) (Nat.zero_le _) rfl, fun i u l h => by simp at h, fun i k u u' c h => by simp at h⟩
  go_enter Tryz.func106, Tryz.ntmps106
  go_wp2
  go_loopw [9, 10] (fun o i wr => ∃ k : Nat, k ≤ f ∧ i = .int .i64 k ∧ Hid (StkOwn wr w.heap.size w.heap.size o (LL.take k)) ∧ Below w.heap.size w wr) (fun _ i _ => f - (intOf i).toNat)
  case atStart => exact ⟨0, by omega, rfl, HS0, hb0⟩
  case round =>
    obtain ⟨k, hk, rfl, HS, hbw⟩ := hrel
    by_cases hkf : k < f
    · have hlt : k < LL.length := by omega
      have hdf : decide ((k : Int) < (f : Int)) = true := decide_eq_true (by omega)
      have hpf : (k : Int) < (f : Int) := by omega
      have HTK := Lib.hid (stk_take hlt)
      obtain ⟨us, hn, ho, h1, h2⟩ := HS.out
      have hkl : (LL.take k).length = k := by rw [List.length_take]; omega
      rw [hkl] at hn ho
      obtain ⟨fA, fcap, rfl⟩ := own_form ho
      obtain ⟨b, off, rfl, hb, hcell⟩ := H.out (by omega)
      obtain ⟨u, hu0, hur, hpl⟩ := hcell k LL[k] (by simp [hlt])
      have hu : wr.cell? ⟨b, off + k, none⟩ = some u := (hbw.cell (p := ⟨b, off + k, none⟩) hb).trans hu0
      have hur2 := hur.below hbw
      have hl16 := HLL.out LL[k] (List.getElem_mem hlt)
      have hi1 : (k : Int) < (LL.length : Int) := by omega
      have hi0 : (0 : Int) ≤ (k : Int) := by omega
      have eL : Below wr.heap.size wr (wr.alloc (.cells #[] 53)) := (Below.refl _ _).alloc (Nat.le_refl _) _
      have hE0 : (wr.alloc (.cells #[] 53)).ownsRow wr.heap.size 53 5 (.slice (some ⟨wr.heap.size, 0, none⟩) 0 0) 0 [] := World.ownsRow_lit wr #[] 0 (Nat.le_refl _) (Nat.zero_le _) rfl
      have huL : (wr.alloc (.cells #[] 53)).cell? ⟨b, off + k, none⟩ = some u := cell?_alloc_old _ hu
      have hurL := hur2.below eL
      have hszr := hbw.size
      clear hcell hu0 hur
      have HMID : Hid (∀ x w5, w5.ownsRow wr.heap.size 53 5 x LL[k].length (flat LL[k]) → Below wr.heap.size wr w5 → (∃ A c, x = .slice A LL[k].length c) ∧ (w5.alloc (.cells #[x] 27)).ownsRow w.heap.size 27 1 (.slice fA (k) fcap) (k) us ∧ w.heap.size ≤ (w5.alloc (.cells #[x] 27)).heap.size ∧ (∀ y ∈ [x], y.oneCell' = true) ∧
          ∀ v' w9, w9.ownsRow w.heap.size 27 1 v' (k + 1) (us ++ [x]) → (w5.alloc (.cells #[x] 27)).grownBy w9 (Value.slice fA (k) fcap).ownBlock → StkOwn w9 w.heap.size w.heap.size v' (LL.take k ++ [LL[k]]) ∧ Below w.heap.size w w9) := fun x w5 hx hb5 => by
        have eA : Below w5.heap.size w5 (w5.alloc (.cells #[x] 27)) := (Below.refl _ _).alloc (Nat.le_refl _) _
        have bA := hb5.trans (eA.mono hb5.size)
        have hbA := hbw.trans (bA.mono hbw.size)
        have hoA := own_below ho bA
        have hxr : RowOf w5 wr.heap.size x LL[k].length LL[k] := ⟨rfl, hx⟩
        refine ⟨hxr.form, hoA, hbA.size, ?_, fun v' w9 hown hg => ⟨?_, hbA.grown hg hbA.size (fun j hj => (ho.lt j hj).1)⟩⟩
        · intro y hy
          rw [List.mem_singleton.1 hy]
          obtain ⟨A, c, rfl⟩ := hxr.form
          rfl
        · have hxA := hxr.below eA
          refine stk_snoc (LL := LL.take k) (l := LL[k]) (by rw [hkl]; exact hn) (by rw [hkl]; exact hoA) (fun i u l hi hl => (h1 i u l hi hl).below bA) h2 ⟨rfl, own_down hxA.2 (by omega)⟩ (fun i u c hi hc e => ?_) (by rw [hkl]; exact hown) hg
          have e1 := (hxr.2.lt c e).1
          have hil : i < (LL.take k).length := by have := (List.getElem?_eq_some_iff.1 hi).1; rw [hkl]; omega
          have e2 := ((h1 i u _ hi (List.getElem?_eq_getElem hil)).2.lt c hc).2
          omega
      clear h1 h2 HS hur2
      rcases hpl with rfl | ⟨ad, m, c, rfl⟩
      · have hz := sl_none hurL
        have hk0 : LL[k].length = 0 := by rw [hz]; rfl
        obtain ⟨-, m1, m2, m3, m4⟩ := HMID.out (.slice (some ⟨wr.heap.size, 0, none⟩) 0 0) _ (by rw [hz]; exact hE0) eL
        clear hz hk0
        go_wp2_with (first
          | (at_builtin; refine wpList_append_own_none rfl _ _ 27 rfl wr.heap.size 53 i0 5 Tryz.underlying27 hi (.slice (some ⟨wr.heap.size, 0, none⟩) 0 0) 0 [] rfl hE0 rfl ?_)
          | (at_builtin; refine wpList_append_own _ rfl _ _ 43 rfl w.heap.size 27 s0 (.slice none 0 0) 1 24 Tryz.underlying43 hs hS0 hS1 hS2 rfl (by decide) _ _ _ rfl m1 ⟨(wr.alloc (.cells #[] 53)).heap.size, 0, none⟩ 1 1 [.slice (some ⟨wr.heap.size, 0, none⟩) 0 0] (by simp [Act.eval]) rfl (cell_one_new _ _ _) m3 (by unfold maxLen; omega) (by omega) m2 ?_; intro v' w9 hown' hgrow9 hnil9))
        obtain ⟨r1, r2⟩ := m4 _ _ hown' hgrow9
        exact ⟨⟨k + 1, by omega, by go_num, by have q := r1; rw [HTK.out] at q; exact q, r2⟩, by simp [intOf]; omega⟩
      · obtain ⟨rfl, hsrc⟩ := sl_srcs hurL
        have hfl := flat_len LL[k]
        have hone : ∀ u ∈ flat LL[k], u.oneCell' = true := fun u hu => by
          unfold flat at hu
          obtain ⟨r, _, hr⟩ := List.mem_flatMap.1 hu
          exact rec_one r u hr
        have HM5 : Hid (∀ x w5, w5.ownsRow wr.heap.size 53 5 x (0 + LL[k].length) ([] ++ flat LL[k]) → (wr.alloc (.cells #[] 53)).grownBy w5 (Value.slice (some ⟨wr.heap.size, 0, none⟩) 0 0).ownBlock → w5.ownsRow wr.heap.size 53 5 x LL[k].length (flat LL[k]) ∧ Below wr.heap.size wr w5) := fun x w5 hx hg5 => ⟨by simpa using hx, eL.grown hg5 eL.size (fun j hj => (hE0.lt j hj).1)⟩
        clear hurL
        go_wp2_with (first
          | (at_builtin; refine wpList_append_own _ rfl _ _ 27 rfl wr.heap.size 53 i0 (.agg #[.int .i64 0, .string ByteArray.empty, .string ByteArray.empty, .int .i64 0, .bool false]) 5 56 Tryz.underlying27 hi hI0 hI1 hI2 rfl (by decide) _ _ _ rfl hE0 ad LL[k].length c (flat LL[k]) rfl hfl hsrc hone (by unfold maxLen; omega) (by omega) eL.size ?_; intro x w5 hx5 hg5 hn5; obtain ⟨q1, q2⟩ := HM5.out x w5 hx5 hg5; obtain ⟨⟨xA, xc, rfl⟩, m1, m2, m3, m4⟩ := HMID.out x w5 q1 q2)
          | (at_builtin; refine wpList_append_own _ rfl _ _ 43 rfl w.heap.size 27 s0 (.slice none 0 0) 1 24 Tryz.underlying43 hs hS0 hS1 hS2 rfl (by decide) _ _ _ rfl m1 ⟨w5.heap.size, 0, none⟩ 1 1 [.slice xA LL[k].length xc] rfl rfl (cell_one_new _ _ _) m3 (by unfold maxLen; omega) (by omega) m2 ?_; intro v' w9 hown' hgrow9 hnil9))
        obtain ⟨r1, r2⟩ := m4 _ _ hown' hgrow9
        exact ⟨⟨k + 1, by omega, by go_num, by have q := r1; rw [HTK.out] at q; exact q, r2⟩, by simp [intOf]; omega⟩
    · have hkf2 : k = f := by omega
      obtain ⟨k0, hk00⟩ : ∃ k0, k0 = k := ⟨_, rfl⟩
      subst hk00
      subst hkf2
      have hdf : decide ((k0 : Int) < (k0 : Int)) = false := by simp
      obtain ⟨us, hn, ho, h1, h2⟩ := HS.out
      have hkl : (LL.take k0).length = k0 := by rw [List.length_take]; omega
      rw [hkl] at hn ho
      obtain ⟨fA, fcap, rfl⟩ := own_form ho
      have eA : Below wr.heap.size wr (wr.alloc (.cells #[.slice xA0 X.length xc0] 27)) := (Below.refl _ _).alloc (Nat.le_refl _) _
      have hbA := hbw.trans (eA.mono hbw.size)
      have hoA := own_below ho eA
      have hszA := hbA.size
      have HFIN : Hid (∀ v' w9, w9.ownsRow w.heap.size 27 1 v' (k0 + 1) (us ++ [.slice xA0 X.length xc0]) → (wr.alloc (.cells #[.slice xA0 X.length xc0] 27)).grownBy w9 (Value.slice fA k0 fcap).ownBlock → StkOwn w9 w.heap.size base v' (LL.take k0 ++ [X]) ∧ Below w.heap.size w w9) := fun v' w9 hown hg => by
        refine ⟨?_, hbA.grown hg hbA.size (fun j hj => (ho.lt j hj).1)⟩
        refine stk_snoc (LL := LL.take k0) (l := X) (by rw [hkl]; exact hn) (by rw [hkl]; exact hoA) (fun i u l hi hl => ⟨rfl, own_down ((h1 i u l hi hl).below eA).2 hbase⟩) h2 (HX.out.below hbA) (fun i u c hi hc e => ?_) (by rw [hkl]; exact hown) hg
        have hil : i < (LL.take k0).length := by have := (List.getElem?_eq_some_iff.1 hi).1; rw [hkl]; omega
        have e2 := ((h1 i u _ hi (List.getElem?_eq_getElem hil)).2.lt c hc).1
        have e1 := (HX.out.2.lt c e).2
        omega
      clear h1 h2 HS
      go_wp2_with (first
        | (at_builtin; refine wpList_append_own _ rfl _ _ 43 rfl w.heap.size 27 s0 (.slice none 0 0) 1 24 Tryz.underlying43 hs hS0 hS1 hS2 rfl (by decide) _ _ _ rfl hoA ⟨wr.heap.size, 0, none⟩ 1 1 [.slice xA0 X.length xc0] rfl rfl (cell_one_new _ _ _) (fun y hy => by rw [List.mem_singleton.1 hy]; rfl) (by unfold maxLen; omega) (by omega) hszA ?_; intro v' w9 hown' hgrow9 hnil9))
      obtain ⟨r1, r2⟩ := HFIN.out _ _ hown' hgrow9
      have HS1 := Lib.hid r1
      have HB1 := Lib.hid r2
      clear hown' hgrow9 hnil9 HFIN hoA eA hbA hszA ho hn
      go_loopw [9, 11] (fun o i wr => ∃ j : Nat, t ≤ j ∧ j ≤ LL.length ∧ i = .int .i64 j ∧ Hid (StkOwn wr w.heap.size base o (LL.take k0 ++ [X] ++ (LL.take j).drop t)) ∧ Below w.heap.size w wr) (fun _ i _ => LL.length - (intOf i).toNat)
      case atStart => exact ⟨t, Nat.le_refl _, ht, rfl, by have e : (LL.take t).drop t = [] := List.drop_eq_nil_of_le (by rw [List.length_take]; omega); rw [e, List.append_nil]; exact HS1, HB1.out⟩
      case round =>
        obtain ⟨k, htk, hk, rfl, HS, hbw⟩ := hrel
        by_cases hlt : k < LL.length
        · have HTK := Lib.hid (drop_take_snoc hlt htk)
          obtain ⟨us, hn, ho, h1, h2⟩ := HS.out
          have hkl : (LL.take k0 ++ [X] ++ (LL.take k).drop t).length = k0 + 1 + (k - t) := by simp [List.length_take]; omega
          rw [hkl] at hn ho
          obtain ⟨fA, fcap, rfl⟩ := own_form ho
          obtain ⟨b, off, rfl, hb, hcell⟩ := H.out (by omega)
          obtain ⟨u, hu0, hur, hpl⟩ := hcell k LL[k] (by simp [hlt])
          have hu : wr.cell? ⟨b, off + k, none⟩ = some u := (hbw.cell (p := ⟨b, off + k, none⟩) hb).trans hu0
          have hur2 := hur.below hbw
          have hl16 := HLL.out LL[k] (List.getElem_mem hlt)
          have hi1 : (k : Int) < (LL.length : Int) := by omega
          have hi0 : (0 : Int) ≤ (k : Int) := by omega
          have eL : Below wr.heap.size wr (wr.alloc (.cells #[] 53)) := (Below.refl _ _).alloc (Nat.le_refl _) _
          have hE0 : (wr.alloc (.cells #[] 53)).ownsRow wr.heap.size 53 5 (.slice (some ⟨wr.heap.size, 0, none⟩) 0 0) 0 [] := World.ownsRow_lit wr #[] 0 (Nat.le_refl _) (Nat.zero_le _) rfl
          have huL : (wr.alloc (.cells #[] 53)).cell? ⟨b, off + k, none⟩ = some u := cell?_alloc_old _ hu
          have hurL := hur2.below eL
          have hszr := hbw.size
          clear hcell hu0 hur
          have HMID : Hid (∀ x w5, w5.ownsRow wr.heap.size 53 5 x LL[k].length (flat LL[k]) → Below wr.heap.size wr w5 → (∃ A c, x = .slice A LL[k].length c) ∧ (w5.alloc (.cells #[x] 27)).ownsRow w.heap.size 27 1 (.slice fA (k0 + 1 + (k - t)) fcap) (k0 + 1 + (k - t)) us ∧ w.heap.size ≤ (w5.alloc (.cells #[x] 27)).heap.size ∧ (∀ y ∈ [x], y.oneCell' = true) ∧
              ∀ v' w9, w9.ownsRow w.heap.size 27 1 v' (k0 + 1 + (k - t) + 1) (us ++ [x]) → (w5.alloc (.cells #[x] 27)).grownBy w9 (Value.slice fA (k0 + 1 + (k - t)) fcap).ownBlock → StkOwn w9 w.heap.size base v' (LL.take k0 ++ [X] ++ (LL.take k).drop t ++ [LL[k]]) ∧ Below w.heap.size w w9) := fun x w5 hx hb5 => by
            have eA : Below w5.heap.size w5 (w5.alloc (.cells #[x] 27)) := (Below.refl _ _).alloc (Nat.le_refl _) _
            have bA := hb5.trans (eA.mono hb5.size)
            have hbA := hbw.trans (bA.mono hbw.size)
            have hoA := own_below ho bA
            have hxr : RowOf w5 wr.heap.size x LL[k].length LL[k] := ⟨rfl, hx⟩
            refine ⟨hxr.form, hoA, hbA.size, ?_, fun v' w9 hown hg => ⟨?_, hbA.grown hg hbA.size (fun j hj => (ho.lt j hj).1)⟩⟩
            · intro y hy
              rw [List.mem_singleton.1 hy]
              obtain ⟨A, c, rfl⟩ := hxr.form
              rfl
            · have hxA := hxr.below eA
              refine stk_snoc (LL := LL.take k0 ++ [X] ++ (LL.take k).drop t) (l := LL[k]) (by rw [hkl]; exact hn) (by rw [hkl]; exact hoA) (fun i u l hi hl => (h1 i u l hi hl).below bA) h2 ⟨rfl, own_down hxA.2 (by omega)⟩ (fun i u c hi hc e => ?_) (by rw [hkl]; exact hown) hg
              have e1 := (hxr.2.lt c e).1
              have hil : i < (LL.take k0 ++ [X] ++ (LL.take k).drop t).length := by have := (List.getElem?_eq_some_iff.1 hi).1; rw [hkl]; omega
              have e2 := ((h1 i u _ hi (List.getElem?_eq_getElem hil)).2.lt c hc).2
              omega
          clear h1 h2 HS hur2
          rcases hpl with rfl | ⟨ad, m, c, rfl⟩
          · have hz := sl_none hurL
            have hk0 : LL[k].length = 0 := by rw [hz]; rfl
            obtain ⟨-, m1, m2, m3, m4⟩ := HMID.out (.slice (some ⟨wr.heap.size, 0, none⟩) 0 0) _ (by rw [hz]; exact hE0) eL
            clear hz hk0
            go_wp2_with (first
              | (at_builtin; refine wpList_append_own_none rfl _ _ 27 rfl wr.heap.size 53 i0 5 Tryz.underlying27 hi (.slice (some ⟨wr.heap.size, 0, none⟩) 0 0) 0 [] rfl hE0 rfl ?_)
              | (at_builtin; refine wpList_append_own _ rfl _ _ 43 rfl w.heap.size 27 s0 (.slice none 0 0) 1 24 Tryz.underlying43 hs hS0 hS1 hS2 rfl (by decide) _ _ _ rfl m1 ⟨(wr.alloc (.cells #[] 53)).heap.size, 0, none⟩ 1 1 [.slice (some ⟨wr.heap.size, 0, none⟩) 0 0] (by simp [Act.eval]) rfl (cell_one_new _ _ _) m3 (by unfold maxLen; omega) (by omega) m2 ?_; intro v' w9 hown' hgrow9 hnil9))
            obtain ⟨r1, r2⟩ := m4 _ _ hown' hgrow9
            exact ⟨⟨k + 1, by omega, by omega, by go_num, by have q := r1; rw [List.append_assoc, HTK.out] at q; exact q, r2⟩, by simp [intOf]; omega⟩
          · obtain ⟨rfl, hsrc⟩ := sl_srcs hurL
            have hfl := flat_len LL[k]
            have hone : ∀ u ∈ flat LL[k], u.oneCell' = true := fun u hu => by
              unfold flat at hu
              obtain ⟨r, _, hr⟩ := List.mem_flatMap.1 hu
              exact rec_one r u hr
            have HM5 : Hid (∀ x w5, w5.ownsRow wr.heap.size 53 5 x (0 + LL[k].length) ([] ++ flat LL[k]) → (wr.alloc (.cells #[] 53)).grownBy w5 (Value.slice (some ⟨wr.heap.size, 0, none⟩) 0 0).ownBlock → w5.ownsRow wr.heap.size 53 5 x LL[k].length (flat LL[k]) ∧ Below wr.heap.size wr w5) := fun x w5 hx hg5 => ⟨by simpa using hx, eL.grown hg5 eL.size (fun j hj => (hE0.lt j hj).1)⟩
            clear hurL
            go_wp2_with (first
              | (at_builtin; refine wpList_append_own _ rfl _ _ 27 rfl wr.heap.size 53 i0 (.agg #[.int .i64 0, .string ByteArray.empty, .string ByteArray.empty, .int .i64 0, .bool false]) 5 56 Tryz.underlying27 hi hI0 hI1 hI2 rfl (by decide) _ _ _ rfl hE0 ad LL[k].length c (flat LL[k]) rfl hfl hsrc hone (by unfold maxLen; omega) (by omega) eL.size ?_; intro x w5 hx5 hg5 hn5; obtain ⟨q1, q2⟩ := HM5.out x w5 hx5 hg5; obtain ⟨⟨xA, xc, rfl⟩, m1, m2, m3, m4⟩ := HMID.out x w5 q1 q2)
              | (at_builtin; refine wpList_append_own _ rfl _ _ 43 rfl w.heap.size 27 s0 (.slice none 0 0) 1 24 Tryz.underlying43 hs hS0 hS1 hS2 rfl (by decide) _ _ _ rfl m1 ⟨w5.heap.size, 0, none⟩ 1 1 [.slice xA LL[k].length xc] rfl rfl (cell_one_new _ _ _) m3 (by unfold maxLen; omega) (by omega) m2 ?_; intro v' w9 hown' hgrow9 hnil9))
            obtain ⟨r1, r2⟩ := m4 _ _ hown' hgrow9
            exact ⟨⟨k + 1, by omega, by omega, by go_num, by have q := r1; rw [List.append_assoc, HTK.out] at q; exact q, r2⟩, by simp [intOf]; omega⟩
        · have HF : Hid ((LL.take k).drop t = LL.drop t) := by show _ = _; rw [List.take_of_length_le (by omega)]
          go_wp2
          go_ret
          exact ⟨_, rfl, hbw, by have q := HS.out; rw [HF.out] at q; exact q⟩
end Go.Proofs.YtibekkfbpmloiabGreatDoor.Recs

/- Replaced, plain; of the model. -/
namespace Go.Proofs.YtibekkfbpmloiabGreatDoor.Recs
set_option maxRecDepth 100000
open Go.RowKit Paths

/-- The layers from one place up to another as one. -/
def repM (LL : List (List R)) (f t : Nat) : List R := squashAllL ((LL.take t).drop f)
def repC (LL : List (List R)) (f t : Int) : Int :=
  if codeS LL ≠ 0 then codeS LL else if f < 0 ∨ t < f ∨ (LL.length : Int) < t then 4 else if f = t ∧ LL.length = 5 then 6 else limE (repM LL f.toNat t.toNat)
def repR (LL : List (List R)) (f t : Int) : List (List R) := if repC LL f t = 0 then LL.take f.toNat ++ [repM LL f.toNat t.toNat] ++ LL.drop t.toNat else []
theorem repR_bad {LL : List (List R)} {f t c : Int} (h : repC LL f t = c) (hc : c ≠ 0) : repR LL f t = [] := if_neg (by rw [h]; exact hc)
theorem repC_code {LL : List (List R)} {f t c : Int} (h : codeS LL = c) (hc : c ≠ 0) : repC LL f t = c := by
  unfold repC
  rw [if_pos (by rw [h]; exact hc), h]
theorem repC_range {LL : List (List R)} {f t : Int} (h : codeS LL = 0) (hr : f < 0 ∨ t < f ∨ (LL.length : Int) < t) : repC LL f t = 4 := by
  unfold repC
  rw [if_neg (by simpa using h), if_pos hr]
theorem repC_many {LL : List (List R)} {f t : Int} (h : codeS LL = 0) (hr : ¬ (f < 0 ∨ t < f ∨ (LL.length : Int) < t)) (hm : f = t ∧ LL.length = 5) : repC LL f t = 6 := by
  unfold repC
  rw [if_neg (by simpa using h), if_neg hr, if_pos hm]
theorem repC_lim {LL : List (List R)} {f t : Int} (h : codeS LL = 0) (hr : ¬ (f < 0 ∨ t < f ∨ (LL.length : Int) < t)) (hm : ¬ (f = t ∧ LL.length = 5)) : repC LL f t = limE (repM LL f.toNat t.toNat) := by
  unfold repC
  rw [if_neg (by simpa using h), if_neg hr, if_neg hm]
/-- A part of a stack that is read: its address as the machine lays it. -/
theorem StkGood.part {w : World} {A : Option Addr} {n cap : Nat} {LL : List (List R)} (h : StkGood w (.slice A n cap) LL) {f t : Nat} (hf : f ≤ t) (ht : t ≤ LL.length) :
    (cap = f → StkGood w (.slice A (t - f) (cap - f)) ((LL.take t).drop f)) ∧ (cap ≠ f → ∃ b off, A = some ⟨b, off, none⟩ ∧ StkGood w (.slice (some ⟨b, off + f, none⟩) (t - f) (cap - f)) ((LL.take t).drop f)) := by
  have hg := h
  obtain ⟨A', c, e, hc, h⟩ := h
  cases e
  have htl : (LL.take t).length = t := by rw [List.length_take]; omega
  have hl : ((LL.take t).drop f).length = t - f := by rw [List.length_drop, htl]
  refine ⟨fun hcf => ⟨_, _, by rw [hl], by rw [hl]; omega, fun h0 => by omega⟩, fun hcf => ?_⟩
  obtain ⟨b, off, rfl, hb, hcell⟩ := h (by omega)
  refine ⟨b, off, rfl, ?_⟩
  have h1 := (hg.take (k := t) ht).drop (k := f) (by rw [htl]; exact hf) (by omega)
  exact h1
end Go.Proofs.YtibekkfbpmloiabGreatDoor.Recs

/- What Replaced answers, in numbers; a stack of its own memory where only blocks below it have turned. -/
namespace Go.Proofs.YtibekkfbpmloiabGreatDoor.Recs
set_option maxRecDepth 100000
open Go.RowKit Paths

theorem repR_cases (LL : List (List R)) (f t : Int) : repR LL f t = [] ∨ (stackOK LL = true ∧ LL.length ≤ 5 ∧ (repM LL f.toNat t.toNat).length ≤ 16 ∧ repC LL f t = 0 ∧ repR LL f t = LL.take f.toNat ++ [repM LL f.toNat t.toNat] ++ LL.drop t.toNat) := by
  by_cases h : repC LL f t = 0
  · refine .inr ?_
    have hr : repR LL f t = LL.take f.toNat ++ [repM LL f.toNat t.toNat] ++ LL.drop t.toNat := if_pos h
    have h' := h
    unfold repC at h
    by_cases h0 : codeS LL = 0
    · rw [if_neg (by simpa using h0)] at h
      obtain ⟨_, hs⟩ := fine_s h0
      split at h
      · cases h
      · split at h
        · cases h
        · refine ⟨hs, (stack_of hs).1, ?_, h', hr⟩
          unfold limE at h
          split at h
          · cases h
          · omega
    · rw [if_pos h0] at h
      exact absurd h h0
  · exact .inl (if_neg h)
theorem repR_small (LL : List (List R)) (f t : Int) : (repR LL f t).length ≤ 11 ∧ ∀ l ∈ repR LL f t, l.length ≤ 16 := by
  rcases repR_cases LL f t with h | ⟨hs, hl, hm, -, h⟩
  · rw [h]
    exact ⟨by simp, fun l hm => by cases hm⟩
  · rw [h]
    have hst := stack_of hs
    refine ⟨by simp; omega, fun l hl => ?_⟩
    rcases List.mem_append.1 hl with h1 | h1
    · rcases List.mem_append.1 h1 with h2 | h2
      · exact layer_len (hst.2 l (List.mem_of_mem_take h2))
      · rw [List.mem_singleton.1 h2]
        exact hm
    · exact layer_len (hst.2 l (List.mem_of_mem_drop h1))
theorem repR_len (LL : List (List R)) (f t : Int) : (repR LL f t).length ≤ 1048576 := by have := (repR_small LL f t).1; omega
theorem repR_each (LL : List (List R)) (f t : Int) : ∀ l ∈ repR LL f t, l.length ≤ 1048576 := fun l hm => by have := (repR_small LL f t).2 l hm; omega
end Go.Proofs.YtibekkfbpmloiabGreatDoor.Recs

/- Stacks of drawn layers, plain: combining all, in one pass or in parts; a part replaced by its combination. -/
namespace Go.Proofs.YtibekkfbpmloiabGreatDoor.Recs
open Go.RowKit Paths

theorem stk_small {LL : List (List R)} (h5 : LL.length ≤ 5) (h : ∀ l ∈ LL, layerOK l = true) : stackOK LL = true ∧ codeS LL = 0 := by
  have hs : stackOK LL = true := by
    unfold stackOK
    rw [Bool.and_eq_true, decide_eq_true_eq, List.all_eq_true]
    exact ⟨h5, h⟩
  refine ⟨hs, ?_⟩
  unfold codeS
  rw [if_neg (by omega), if_pos hs]
/-- A part replaced by its combination: the code, the new stack, its view. -/
theorem replaced_cases {LL : List (List R)} (h3 : LL.length ≤ 3) (h : ∀ l ∈ LL, layerOK l = true) {f t : Nat} (hf : f ≤ t) (ht : t ≤ LL.length) :
    (repC LL f t = 7 ∧ repR LL f t = []) ∨
    (repC LL f t = 0 ∧ repR LL f t = LL.take f ++ [squashAllL ((LL.take t).drop f)] ++ LL.drop t ∧ (repR LL f t).length = LL.length - (t - f) + 1 ∧ (∀ l ∈ repR LL f t, layerOK l = true) ∧ viewR (repR LL f t) = viewR LL) := by
  obtain ⟨_, h0⟩ := stk_small (by omega) h
  have hc := repC_lim (LL := LL) (f := (f : Int)) (t := (t : Int)) h0 (by omega) (by omega)
  rw [Int.toNat_natCast, Int.toNat_natCast] at hc
  by_cases h16 : 16 < (repM LL f t).length
  · have h1 : repC LL f t = 7 := by rw [hc]; unfold limE; rw [if_pos h16]
    exact .inl ⟨h1, repR_bad h1 (by decide)⟩
  · have h1 : repC LL f t = 0 := by rw [hc]; unfold limE; rw [if_neg h16]
    have h2 : repR LL f t = LL.take f ++ [squashAllL ((LL.take t).drop f)] ++ LL.drop t := by
      unfold repR
      rw [if_pos h1, Int.toNat_natCast, Int.toNat_natCast]
      rfl
    have hlen : (repR LL f t).length = LL.length - (t - f) + 1 := by
      rw [h2]
      simp only [List.length_append, List.length_take, List.length_drop, List.length_cons, List.length_nil]
      omega
    have hmid : ∀ l ∈ (LL.take t).drop f, Fine l := fun l hl => fine_layer (h l (List.mem_of_mem_take (List.mem_of_mem_drop hl)))
    have hok : ∀ l ∈ repR LL f t, layerOK l = true := by
      intro l hl
      rw [h2] at hl
      rcases List.mem_append.1 hl with h3 | h3
      · rcases List.mem_append.1 h3 with h4 | h4
        · exact h l (List.mem_of_mem_take h4)
        · rw [List.mem_singleton.1 h4]
          exact fine_ok (squashAll_canon hmid).isFine (by unfold repM at h16; omega)
      · exact h l (List.mem_of_mem_drop h3)
    have hn := (stk_small (LL := repR LL f t) (by rw [hlen]; omega) hok)
    have ha := (s_fine (LL := repR LL f t) (by rw [hlen]; omega) hn.1).2
    have hb := (s_fine (LL := LL) (by omega) (stk_small (by omega) h).1).2
    refine .inr ⟨h1, h2, hlen, hok, ?_⟩
    rw [ha, hb, h2]
    have e3 : LL = LL.take f ++ ((LL.take t).drop f ++ LL.drop t) := by
      have e4 : LL.take t = LL.take f ++ (LL.take t).drop f := by
        conv => lhs; rw [← List.take_append_drop f (LL.take t)]
        rw [List.take_take, Nat.min_eq_left hf]
      rw [← List.append_assoc, ← e4, List.take_append_drop]
    conv => rhs; rw [e3]
    unfold applyAllL
    rw [List.append_assoc, List.foldl_append, List.foldl_append, List.foldl_append, List.foldl_append]
    congr 1
    show applyL (squashAllL ((LL.take t).drop f)) _ = _
    have htr : IsTree ((LL.take f).foldl (fun x l => applyL l x) []) := by
      have hall : ∀ (s : List (List R)) (x : List R), (∀ l ∈ s, layerOK l = true) → IsTree x → IsTree (s.foldl (fun x l => applyL l x) x) := by
        intro s
        induction s with
        | nil => intro x _ hx; exact hx
        | cons l s ih => intro x hs hx; exact ih _ (fun l' hl' => hs l' (List.mem_cons_of_mem _ hl')) (apply_tree (layer_is (hs l (List.mem_cons_self ..))) hx)
      exact hall _ _ (fun l hl => h l (List.mem_of_mem_take hl)) nil_tree
    exact apply_squashAll hmid htr
end Go.Proofs.YtibekkfbpmloiabGreatDoor.Recs
