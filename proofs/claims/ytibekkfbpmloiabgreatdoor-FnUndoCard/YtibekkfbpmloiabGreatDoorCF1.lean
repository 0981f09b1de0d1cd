/- Parts of several texts of mine in one file (each begins with its own remark). -/
import Derived.Test.YtibekkfbpmloiabGreatDoorCA10
import Derived.Test.YtibekkfbpmloiabGreatDoorCA11
import Derived.Test.YtibekkfbpmloiabGreatDoorCA13
import Derived.Test.YtibekkfbpmloiabGreatDoorCA15
import Derived.Test.YtibekkfbpmloiabGreatDoorCA16
import Derived.Test.YtibekkfbpmloiabGreatDoorCA17
import Derived.Test.YtibekkfbpmloiabGreatDoorCA2
import Derived.Test.YtibekkfbpmloiabGreatDoorCA20
import Derived.Test.YtibekkfbpmloiabGreatDoorCA22
import Derived.Test.YtibekkfbpmloiabGreatDoorCA3
import Derived.Test.YtibekkfbpmloiabGreatDoorCA4
import Derived.Test.YtibekkfbpmloiabGreatDoorCA5
import Derived.Test.YtibekkfbpmloiabGreatDoorCA6
import Derived.Test.YtibekkfbpmloiabGreatDoorCA7
import Derived.Test.YtibekkfbpmloiabGreatDoorCA9
import Derived.Test.YtibekkfbpmloiabGreatDoorCC1
import Derived.Test.YtibekkfbpmloiabGreatDoorCC10
import Derived.Test.YtibekkfbpmloiabGreatDoorCC11
import Derived.Test.YtibekkfbpmloiabGreatDoorCC12
import Derived.Test.YtibekkfbpmloiabGreatDoorCC13
import Derived.Test.YtibekkfbpmloiabGreatDoorCC14
import Derived.Test.YtibekkfbpmloiabGreatDoorCC15
import Derived.Test.YtibekkfbpmloiabGreatDoorCC16
import Derived.Test.YtibekkfbpmloiabGreatDoorCC17
import Derived.Test.YtibekkfbpmloiabGreatDoorCC5
import Derived.Test.YtibekkfbpmloiabGreatDoorCC6
import Derived.Test.YtibekkfbpmloiabGreatDoorCC7
import Derived.Test.YtibekkfbpmloiabGreatDoorCC9
import Derived.Test.YtibekkfbpmloiabGreatDoorChecked
import Derived.Test.YtibekkfbpmloiabGreatDoorShelf
import Derived.Test.YtibekkfbpmloiabGreatDoorProg
import Derived.Test.YtibekkfbpmloiabGreatDoorRows
import Derived.Test.YtibekkfbpmloiabGreatDoorShelf2
import Derived.Deep.Cut
import Derived.Deep.CutRange
import Derived.Deep.CutBlock
import Derived.Maps.OwnIn
import Derived.Deep.Slices
import Derived.OpenShut
import Derived.ShutString
import Derived.ChangeArms
import Derived.WideShapes
import Derived.Lib.LaidTab
import Derived.BigQuiet
import Derived.Deep.QuietTactic
import Derived.Deep.RegionHeld3
import Derived.StillTailTactics
import Derived.Deep.Draws
import Derived.Deep.LoopGhost
import Derived.WalkKit
import Derived.WalkSpells
import Derived.WalkSmall
import Derived.Lib.OthersKept
import Derived.Lib.Hide
import Derived.Lib.Strings
import Derived.Lib.Join
import Derived.WalkLawsBesides
import Derived.Laws.BytesArg
import Derived.Laws.OwnMore
import Derived.BigRegion
import Derived.Stop.LaidErr
import Derived.LaidEql
import Derived.Stop.Asserts
import Derived.Below
import Derived.Stop.LaidTwo
import Derived.Deep.RegionWith
import Derived.Laws.AppendOwnNone
import Derived.RegionTactic
import Derived.RangeFuncNested
import Derived.RangeFuncBound
import Derived.RangeFuncCalls
import Derived.RangeFuncLeaves
import Derived.RangeFuncBox
import Derived.Shelf.Abstract
import Derived.Shelf.RegionOpen
import Derived.OwnWalkIn
import Derived.TacticsInMore
import Derived.LoopNIn
import Derived.LoopIn
import Derived.ChangeVars
import Derived.Deep.DeepHandedRow
import Derived.OneCell
import Derived.Lib.SliceRun
import Derived.Lib.Overlaps
import Derived.Lib.AppendZerosOnto
import Derived.Laws.NewBlocks
import Derived.Laws.IdiomCopy
import Derived.Deep.RegionLaw
import Derived.Laws.IdiomRangeMap
import Derived.Maps.RangeWalk
import Derived.Maps.Ext
import Derived.Lib.SlMapFilter
import Derived.Deep.AppendLies
import Derived.Laws.EntriesVeiled
import Derived.Shelf.SlSortCmp.NoneTotal
import Derived.Sort.OwnSorted
import Derived.Maps.AppendAt
import Derived.Sort.MapsRangeIn
import Derived.Sort.KeysCollected
import Derived.Sort.Grow
/- UndoOf and Rebase, of the program. Conditions: the table of kinds, the two sentinels. -/
namespace Go.Proofs.YtibekkfbpmloiabGreatDoor.Recs
set_option maxRecDepth 100000
open Go.RowKit Paths Errs Go.Shelf

theorem app_ok {l t : List R} (h : appC l t = 0) : codeLN l t = 0 ∧ ¬ 24 < (applyL l t).length := by
  by_cases h0 : codeLN l t = 0
  · refine ⟨h0, fun h24 => ?_⟩
    rw [(app_fine h0).1] at h
    unfold limC at h
    rw [if_pos h24] at h
    cases h
  · exact absurd ((app_code rfl h0).1.symm.trans h) h0
theorem app_tree {l t : List R} (h : appC l t = 0) : appR l t = applyL l t ∧ Tree (applyL l t) := by
  obtain ⟨h0, h24⟩ := app_ok h
  obtain ⟨_, _, hl, ht⟩ := fine_ln h0
  refine ⟨?_, apply_full hl (tree_of ht) (by omega)⟩
  rw [(app_fine h0).2]
  exact if_neg h24
theorem emptyR {base : Nat} (w : World) (hb : base ≤ w.heap.size) : RowOf (w.alloc (.cells #[] 53)) base (.slice (some ⟨w.heap.size, 0, none⟩) 0 0) 0 [] := ⟨rfl, World.ownsRow_lit w #[] 0 hb (Nat.zero_le _) rfl⟩

def unC (l t : List R) : Int := if appC l t = 0 then lbC (appR l t) t else appC l t
def unR (l t : List R) : List R := if appC l t = 0 then lbR (appR l t) t else []
theorem un_len (l t : List R) : (unR l t).length ≤ 1048576 := by
  unfold unR
  split
  · exact lb_len _ _
  · simp
theorem un_code {l t : List R} {c : Int} (h : codeLN l t = c) (hc : c ≠ 0) : unC l t = c ∧ unR l t = [] := by
  have h1 := (app_code h hc).1
  unfold unC unR
  rw [h1, if_neg hc, if_neg hc]
  exact ⟨rfl, rfl⟩
theorem un_full {l t : List R} (h : codeLN l t = 0) (h24 : 24 < (applyL l t).length) : unC l t = 7 ∧ unR l t = [] := by
  have h1 : appC l t = 7 := (app_fine h).1.trans (if_pos h24)
  unfold unC unR
  rw [h1]
  exact ⟨rfl, rfl⟩
theorem un_fine {l t : List R} (h : codeLN l t = 0) (h24 : ¬ 24 < (applyL l t).length) : unC l t = lbC (applyL l t) t ∧ unR l t = lbR (applyL l t) t := by
  have h1 : appC l t = 0 := (app_fine h).1.trans (if_neg h24)
  have h2 : appR l t = applyL l t := (app_fine h).2.trans (if_neg h24)
  unfold unC unR
  rw [if_pos h1, if_pos h1, h2]
  exact ⟨rfl, rfl⟩
set_option maxHeartbeats 1600000 in
theorem UndoOf_impl (v u : Value) (l t : List R) (x y : Addr) (w : World) (h : RecSl w v l) (hn : NodSl w u t) (hl : l.length ≤ 1048576) (htl : t.length ≤ 1048576) (hr : ∀ r ∈ l, r.p.size ≤ maxLen) (htr : ∀ r ∈ t, r.p.size ≤ maxLen) (hT : Three w x y) :
    Calls Tryz.prog 25 #[v, u] w fun e w' => ∃ z, e = .returned (.tuple #[z, .int .i64 (unC l t)]) ∧ Below w.heap.size w w' ∧ RowOf w' w.heap.size z (unR l t).length (unR l t) := by
  have HA := apply_impl v u l t x y w h hn hl htl hr htr hT
  by_cases h0 : appC l t = 0
  · obtain ⟨hat, htt⟩ := app_tree h0
    have hl24 : (appR l t).length ≤ 1048576 := by rw [hat]; have := htt.len; omega
    have hps : ∀ r ∈ appR l t, r.p.size ≤ maxLen := fun r hr => path_max (htt.is.path r (by rw [← hat]; exact hr))
    have HLB := fun z w1 (hb : Below w.heap.size w w1) (hz : NodSl w1 z (appR l t)) => LayerBetween_impl z u (appR l t) t x y w1 hz (hn.below hb) hl24 htl hps htr (hT.below hb (Nat.le_refl _))
    have HQ : Hid (unC l t = lbC (appR l t) t ∧ unR l t = lbR (appR l t) t) := ⟨if_pos h0, if_pos h0⟩
    obtain ⟨vA, vcap, rfl⟩ := h.form
    obtain ⟨uA, ucap, rfl⟩ := nodSl_form hn
    rw [h0] at HA
    clear h0 h hn hat htt
    go_enter Tryz.func25, Tryz.ntmps25
    go_wp2_with fail
    refine HA.mono ?_
    rintro e w1 ⟨z, rfl, hb1, hz⟩
    obtain ⟨zA, zcap, rfl⟩ := own_form hz.2.1
    have HL := HLB _ w1 hb1 hz.sl
    clear hz
    go_wp2_with fail
    refine HL.mono ?_
    rintro e w2 ⟨s, rfl, hb2, hs⟩
    go_wp2_with fail
    go_ret2
    exact ⟨s, by rw [HQ.out.1]; rfl, hb1.trans (hb2.mono hb1.size), by rw [HQ.out.2]; exact ⟨hs.1, own_le hs.2 hb1.size⟩⟩
  · have hne : (appC l t != 0) = true := by simpa using h0
    have HQ : Hid (unC l t = appC l t ∧ unR l t = []) := ⟨if_neg h0, if_neg h0⟩
    generalize appC l t = C at *
    obtain ⟨vA, vcap, rfl⟩ := h.form
    obtain ⟨uA, ucap, rfl⟩ := nodSl_form hn
    clear h0 h hn
    go_enter Tryz.func25, Tryz.ntmps25
    go_wp2_with fail
    refine HA.mono ?_
    rintro e w1 ⟨z, rfl, hb1, hz⟩
    clear hz
    go_wp2_with fail
    go_ret2
    exact ⟨.slice none 0 0, by rw [HQ.out.1]; rfl, hb1, by rw [HQ.out.2]; exact ⟨rfl, World.ownsRow_nil _ _ _ _⟩⟩

def rbC (l t : List R) : Int := if appC l t = 0 then lbC t (appR l t) else appC l t
def rbR (l t : List R) : List R := if appC l t = 0 then lbR t (appR l t) else []
theorem rb_len (l t : List R) : (rbR l t).length ≤ 1048576 := by
  unfold rbR
  split
  · exact lb_len _ _
  · simp
theorem rb_code {l t : List R} {c : Int} (h : codeLN l t = c) (hc : c ≠ 0) : rbC l t = c ∧ rbR l t = [] := by
  have h1 := (app_code h hc).1
  unfold rbC rbR
  rw [h1, if_neg hc, if_neg hc]
  exact ⟨rfl, rfl⟩
theorem rb_full {l t : List R} (h : codeLN l t = 0) (h24 : 24 < (applyL l t).length) : rbC l t = 7 ∧ rbR l t = [] := by
  have h1 : appC l t = 7 := (app_fine h).1.trans (if_pos h24)
  unfold rbC rbR
  rw [h1]
  exact ⟨rfl, rfl⟩
theorem rb_fine {l t : List R} (h : codeLN l t = 0) (h24 : ¬ 24 < (applyL l t).length) : rbC l t = lbC t (applyL l t) ∧ rbR l t = lbR t (applyL l t) := by
  have h1 : appC l t = 0 := (app_fine h).1.trans (if_neg h24)
  have h2 : appR l t = applyL l t := (app_fine h).2.trans (if_neg h24)
  unfold rbC rbR
  rw [if_pos h1, if_pos h1, h2]
  exact ⟨rfl, rfl⟩
set_option maxHeartbeats 1600000 in
theorem Rebase_impl (v u : Value) (l t : List R) (x y : Addr) (w : World) (h : RecSl w v l) (hn : NodSl w u t) (hl : l.length ≤ 1048576) (htl : t.length ≤ 1048576) (hr : ∀ r ∈ l, r.p.size ≤ maxLen) (htr : ∀ r ∈ t, r.p.size ≤ maxLen) (hT : Three w x y) :
    Calls Tryz.prog 27 #[v, u] w fun e w' => ∃ z, e = .returned (.tuple #[z, .int .i64 (rbC l t)]) ∧ Below w.heap.size w w' ∧ RowOf w' w.heap.size z (rbR l t).length (rbR l t) := by
  have HA := apply_impl v u l t x y w h hn hl htl hr htr hT
  by_cases h0 : appC l t = 0
  · obtain ⟨hat, htt⟩ := app_tree h0
    have hl24 : (appR l t).length ≤ 1048576 := by rw [hat]; have := htt.len; omega
    have hps : ∀ r ∈ appR l t, r.p.size ≤ maxLen := fun r hr => path_max (htt.is.path r (by rw [← hat]; exact hr))
    have HLB := fun z w1 (hb : Below w.heap.size w w1) (hz : NodSl w1 z (appR l t)) => LayerBetween_impl u z t (appR l t) x y w1 (hn.below hb) hz htl hl24 htr hps (hT.below hb (Nat.le_refl _))
    have HQ : Hid (rbC l t = lbC t (appR l t) ∧ rbR l t = lbR t (appR l t)) := ⟨if_pos h0, if_pos h0⟩
    obtain ⟨vA, vcap, rfl⟩ := h.form
    obtain ⟨uA, ucap, rfl⟩ := nodSl_form hn
    rw [h0] at HA
    clear h0 h hn hat htt
    go_enter Tryz.func27, Tryz.ntmps27
    go_wp2_with fail
    refine HA.mono ?_
    rintro e w1 ⟨z, rfl, hb1, hz⟩
    obtain ⟨zA, zcap, rfl⟩ := own_form hz.2.1
    have HL := HLB _ w1 hb1 hz.sl
    clear hz
    go_wp2_with fail
    refine HL.mono ?_
    rintro e w2 ⟨s, rfl, hb2, hs⟩
    go_wp2_with fail
    go_ret2
    exact ⟨s, by rw [HQ.out.1]; rfl, hb1.trans (hb2.mono hb1.size), by rw [HQ.out.2]; exact ⟨hs.1, own_le hs.2 hb1.size⟩⟩
  · have hne : (appC l t != 0) = true := by simpa using h0
    have HQ : Hid (rbC l t = appC l t ∧ rbR l t = []) := ⟨if_neg h0, if_neg h0⟩
    generalize appC l t = C at *
    obtain ⟨vA, vcap, rfl⟩ := h.form
    obtain ⟨uA, ucap, rfl⟩ := nodSl_form hn
    clear h0 h hn
    go_enter Tryz.func27, Tryz.ntmps27
    go_wp2_with fail
    refine HA.mono ?_
    rintro e w1 ⟨z, rfl, hb1, hz⟩
    clear hz
    go_wp2_with fail
    go_ret2
    exact ⟨.slice none 0 0, by rw [HQ.out.1]; rfl, hb1, by rw [HQ.out.2]; exact ⟨rfl, World.ownsRow_nil _ _ _ _⟩⟩
end Go.Proofs.YtibekkfbpmloiabGreatDoor.Recs

/- UndoOf and Rebase, of the model. -/
namespace Go.Proofs.YtibekkfbpmloiabGreatDoor.Recs
set_option maxRecDepth 100000
open Go.RowKit Paths

set_option maxHeartbeats 1000000 in
theorem UndoOf_spec (v u : Value) (l t : List R) (base : Nat) (w : World) (h : RecSl w v l) (hn : RowN w base u t.length t) (hl : l.length ≤ 1048576) (htl : t.length ≤ 1048576) :
    Calls Tryz.prog 26 #[v, u] w fun e w' => ∃ z, e = .returned (.tuple #[z, .int .i64 (unC l t)]) ∧ Below w.heap.size w w' ∧ RowOf w' w.heap.size z (unR l t).length (unR l t) := by
  obtain ⟨vA, vcap, rfl⟩ := h.form
  obtain ⟨uA, ucap, rfl⟩ := own_form hn.2.1
  have HN := Lib.hid hn
  have HOK := l03OK_any _ l w h hl
  by_cases h1 : 4096 < l.length
  · have hd : decide ((4096 : Int) < (l.length : Int)) = true := by simp; omega
    have HRES := Lib.hid (un_code (show codeLN l t = 2 from ln_long (.inl h1)) (by decide))
    clear h1
    go_enter Tryz.func26, Tryz.ntmps26
    go_wp2_with fail
    go_ret2
    exact ⟨_, by rw [HRES.out.1]; rfl, (Below.refl _ _).alloc (Nat.le_refl _) _, by rw [HRES.out.2]; exact emptyR _ (Nat.le_refl _)⟩
  have hd1 : decide ((4096 : Int) < (l.length : Int)) = false := by simp; omega
  by_cases h2 : 4096 < t.length
  · have hd : decide ((4096 : Int) < (t.length : Int)) = true := by simp; omega
    have HRES := Lib.hid (un_code (show codeLN l t = 2 from ln_long (.inr h2)) (by decide))
    clear h1 h2
    go_enter Tryz.func26, Tryz.ntmps26
    go_wp2_with fail
    go_ret2
    exact ⟨_, by rw [HRES.out.1]; rfl, (Below.refl _ _).alloc (Nat.le_refl _) _, by rw [HRES.out.2]; exact emptyR _ (Nat.le_refl _)⟩
  have hd2 : decide ((4096 : Int) < (t.length : Int)) = false := by simp; omega
  have h12 : ¬ (4096 < l.length ∨ 4096 < t.length) := by omega
  cases ho : layerOK l with
  | false =>
    have HRES := Lib.hid (un_code (ln_bad h12 (.inl ho)) (by decide))
    rw [ho] at HOK
    clear h1 h2 h12 ho
    go_enter Tryz.func26, Tryz.ntmps26
    go_wp2_with fail
    refine HOK.mono ?_
    rintro e w1 ⟨rfl, hb1⟩
    have c0 := hb1
    go_wp2_with fail
    go_ret2
    exact ⟨_, by rw [HRES.out.1]; rfl, (c0).alloc c0.size _, by rw [HRES.out.2]; exact emptyR _ c0.size⟩
  | true =>
    rw [ho] at HOK
    have HTK : ∀ w', Below w.heap.size w w' → Calls Tryz.prog 66 #[.slice uA t.length ucap] w' fun e w'' => e = .returned (.bool (treeOK t)) ∧ Below w'.heap.size w' w'' := fun w' hb => l04OK_any _ t w' (hn.below hb).sl htl
    cases hto : treeOK t with
    | false =>
      have HRES := Lib.hid (un_code (ln_bad h12 (.inr hto)) (by decide))
      rw [hto] at HTK
      clear h1 h2 h12 ho hto
      go_enter Tryz.func26, Tryz.ntmps26
      go_wp2_with fail
      refine HOK.mono ?_
      rintro e w1 ⟨rfl, hb1⟩
      go_wp2_with fail
      refine (HTK _ hb1).mono ?_
      rintro e w2 ⟨rfl, hb2⟩
      have c0 := hb1.trans (hb2.mono hb1.size)
      go_wp2_with fail
      go_ret2
      exact ⟨_, by rw [HRES.out.1]; rfl, (c0).alloc c0.size _, by rw [HRES.out.2]; exact emptyR _ c0.size⟩
    | true =>
      have HZ0 := Lib.hid (ln_fine h12 ho hto)
      have HTR := Lib.hid (tree_of hto)
      have HLO := Lib.hid ho
      rw [hto] at HTK
      clear h1 h2 h12 ho hto
      go_enter Tryz.func26, Tryz.ntmps26
      go_wp2_with fail
      refine HOK.mono ?_
      rintro e w1 ⟨rfl, hb1⟩
      go_wp2_with fail
      refine (HTK _ hb1).mono ?_
      rintro e w2 ⟨rfl, hb2⟩
      have c0 := hb1.trans (hb2.mono hb1.size)
      have HAP := l05Apply_any _ _ l t base w2 (h.below c0) (hn.below c0) (layer_is HLO.out).path HTR.out.sorted HTR.out.is.path (by have h1 := layer_16 HLO.out; have h2 := HTR.out.len; omega)
      clear HTK HOK
      go_wp2_with fail
      refine HAP.mono ?_
      rintro e w3 ⟨z, rfl, hb3, hrow, hz⟩
      have c3 := c0.trans (hb3.mono c0.size)
      obtain ⟨zg, zcap, rfl, _, _, _, _⟩ := notnil hrow hz
      have HR := Lib.hid hrow
      clear hrow hz
      by_cases h24 : 24 < (applyL l t).length
      · have hd : decide ((24 : Int) < ((applyL l t).length : Int)) = true := by simp; omega
        have HRES := Lib.hid (un_full HZ0.out h24)
        clear h24
        go_wp2_with fail
        go_ret2
        exact ⟨_, by rw [HRES.out.1]; rfl, c3.alloc c3.size _, by rw [HRES.out.2]; exact emptyR _ c3.size⟩
      · have hd : decide ((24 : Int) < ((applyL l t).length : Int)) = false := by simp; omega
        have HRES := Lib.hid (un_fine HZ0.out h24)
        have HAT := Lib.hid (apply_full HLO.out HTR.out (by omega))
        have HBT := l08Between_any _ _ (applyL l t) t w3 HR.out.sl (HN.out.below c3).sl HAT.out HTR.out
        clear h24
        go_wp2_with fail
        refine HBT.mono ?_
        rintro e w4 ⟨s, rfl, hb4, hs⟩
        have c4 := c3.trans (hb4.mono c3.size)
        obtain ⟨sA, scap, rfl⟩ := hs.form
        have HS := Lib.hid hs
        clear hs HBT
        have H00 : Hid (codeNN (applyL l t) t = 0) := nn_fine (by have := HAT.out.len; have := HTR.out.len; omega) (by rw [Bool.and_eq_true]; exact ⟨treeOK_of HAT.out, treeOK_of HTR.out⟩)
        by_cases h16 : 16 < (betP (applyL l t) t).length
        · have hd2 : decide ((16 : Int) < ((betP (applyL l t) t).length : Int)) = true := decide_eq_true (by omega)
          have HQ := Lib.hid (lb_many H00.out h16)
          clear h16
          go_wp2_with fail
          go_ret2
          exact ⟨_, by rw [HRES.out.1, HQ.out.1]; rfl, c4.alloc c4.size _, by rw [HRES.out.2, HQ.out.2]; exact emptyR _ c4.size⟩
        · have hd2 : decide ((16 : Int) < ((betP (applyL l t) t).length : Int)) = false := decide_eq_false (by omega)
          have HQ := Lib.hid (lb_ok H00.out h16)
          clear h16
          go_wp2_with fail
          go_ret2
          exact ⟨_, by rw [HRES.out.1, HQ.out.1]; rfl, c4, by rw [HRES.out.2, HQ.out.2]; exact ⟨HS.out.1, own_le HS.out.2 c3.size⟩⟩

set_option maxHeartbeats 1000000 in
theorem Rebase_spec (v u : Value) (l t : List R) (base : Nat) (w : World) (h : RecSl w v l) (hn : RowN w base u t.length t) (hl : l.length ≤ 1048576) (htl : t.length ≤ 1048576) :
    Calls Tryz.prog 28 #[v, u] w fun e w' => ∃ z, e = .returned (.tuple #[z, .int .i64 (rbC l t)]) ∧ Below w.heap.size w w' ∧ RowOf w' w.heap.size z (rbR l t).length (rbR l t) := by
  obtain ⟨vA, vcap, rfl⟩ := h.form
  obtain ⟨uA, ucap, rfl⟩ := own_form hn.2.1
  have HN := Lib.hid hn
  have HOK := l03OK_any _ l w h hl
  by_cases h1 : 4096 < l.length
  · have hd : decide ((4096 : Int) < (l.length : Int)) = true := by simp; omega
    have HRES := Lib.hid (rb_code (show codeLN l t = 2 from ln_long (.inl h1)) (by decide))
    clear h1
    go_enter Tryz.func28, Tryz.ntmps28
    go_wp2_with fail
    go_ret2
    exact ⟨_, by rw [HRES.out.1]; rfl, (Below.refl _ _).alloc (Nat.le_refl _) _, by rw [HRES.out.2]; exact emptyR _ (Nat.le_refl _)⟩
  have hd1 : decide ((4096 : Int) < (l.length : Int)) = false := by simp; omega
  by_cases h2 : 4096 < t.length
  · have hd : decide ((4096 : Int) < (t.length : Int)) = true := by simp; omega
    have HRES := Lib.hid (rb_code (show codeLN l t = 2 from ln_long (.inr h2)) (by decide))
    clear h1 h2
    go_enter Tryz.func28, Tryz.ntmps28
    go_wp2_with fail
    go_ret2
    exact ⟨_, by rw [HRES.out.1]; rfl, (Below.refl _ _).alloc (Nat.le_refl _) _, by rw [HRES.out.2]; exact emptyR _ (Nat.le_refl _)⟩
  have hd2 : decide ((4096 : Int) < (t.length : Int)) = false := by simp; omega
  have h12 : ¬ (4096 < l.length ∨ 4096 < t.length) := by omega
  cases ho : layerOK l with
  | false =>
    have HRES := Lib.hid (rb_code (ln_bad h12 (.inl ho)) (by decide))
    rw [ho] at HOK
    clear h1 h2 h12 ho
    go_enter Tryz.func28, Tryz.ntmps28
    go_wp2_with fail
    refine HOK.mono ?_
    rintro e w1 ⟨rfl, hb1⟩
    have c0 := hb1
    go_wp2_with fail
    go_ret2
    exact ⟨_, by rw [HRES.out.1]; rfl, (c0).alloc c0.size _, by rw [HRES.out.2]; exact emptyR _ c0.size⟩
  | true =>
    rw [ho] at HOK
    have HTK : ∀ w', Below w.heap.size w w' → Calls Tryz.prog 66 #[.slice uA t.length ucap] w' fun e w'' => e = .returned (.bool (treeOK t)) ∧ Below w'.heap.size w' w'' := fun w' hb => l04OK_any _ t w' (hn.below hb).sl htl
    cases hto : treeOK t with
    | false =>
      have HRES := Lib.hid (rb_code (ln_bad h12 (.inr hto)) (by decide))
      rw [hto] at HTK
      clear h1 h2 h12 ho hto
      go_enter Tryz.func28, Tryz.ntmps28
      go_wp2_with fail
      refine HOK.mono ?_
      rintro e w1 ⟨rfl, hb1⟩
      go_wp2_with fail
      refine (HTK _ hb1).mono ?_
      rintro e w2 ⟨rfl, hb2⟩
      have c0 := hb1.trans (hb2.mono hb1.size)
      go_wp2_with fail
      go_ret2
      exact ⟨_, by rw [HRES.out.1]; rfl, (c0).alloc c0.size _, by rw [HRES.out.2]; exact emptyR _ c0.size⟩
    | true =>
      have HZ0 := Lib.hid (ln_fine h12 ho hto)
      have HTR := Lib.hid (tree_of hto)
      have HLO := Lib.hid ho
      rw [hto] at HTK
      clear h1 h2 h12 ho hto
      go_enter Tryz.func28, Tryz.ntmps28
      go_wp2_with fail
      refine HOK.mono ?_
      rintro e w1 ⟨rfl, hb1⟩
      go_wp2_with fail
      refine (HTK _ hb1).mono ?_
      rintro e w2 ⟨rfl, hb2⟩
      have c0 := hb1.trans (hb2.mono hb1.size)
      have HAP := l05Apply_any _ _ l t base w2 (h.below c0) (hn.below c0) (layer_is HLO.out).path HTR.out.sorted HTR.out.is.path (by have h1 := layer_16 HLO.out; have h2 := HTR.out.len; omega)
      clear HTK HOK
      go_wp2_with fail
      refine HAP.mono ?_
      rintro e w3 ⟨z, rfl, hb3, hrow, hz⟩
      have c3 := c0.trans (hb3.mono c0.size)
      obtain ⟨zg, zcap, rfl, _, _, _, _⟩ := notnil hrow hz
      have HR := Lib.hid hrow
      clear hrow hz
      by_cases h24 : 24 < (applyL l t).length
      · have hd : decide ((24 : Int) < ((applyL l t).length : Int)) = true := by simp; omega
        have HRES := Lib.hid (rb_full HZ0.out h24)
        clear h24
        go_wp2_with fail
        go_ret2
        exact ⟨_, by rw [HRES.out.1]; rfl, c3.alloc c3.size _, by rw [HRES.out.2]; exact emptyR _ c3.size⟩
      · have hd : decide ((24 : Int) < ((applyL l t).length : Int)) = false := by simp; omega
        have HRES := Lib.hid (rb_fine HZ0.out h24)
        have HAT := Lib.hid (apply_full HLO.out HTR.out (by omega))
        have HBT := l08Between_any _ _ t (applyL l t) w3 (HN.out.below c3).sl HR.out.sl HTR.out HAT.out
        clear h24
        go_wp2_with fail
        refine HBT.mono ?_
        rintro e w4 ⟨s, rfl, hb4, hs⟩
        have c4 := c3.trans (hb4.mono c3.size)
        obtain ⟨sA, scap, rfl⟩ := hs.form
        have HS := Lib.hid hs
        clear hs HBT
        have H00 : Hid (codeNN t (applyL l t) = 0) := nn_fine (by have := HAT.out.len; have := HTR.out.len; omega) (by rw [Bool.and_eq_true]; exact ⟨treeOK_of HTR.out, treeOK_of HAT.out⟩)
        by_cases h16 : 16 < (betP t (applyL l t)).length
        · have hd2 : decide ((16 : Int) < ((betP t (applyL l t)).length : Int)) = true := decide_eq_true (by omega)
          have HQ := Lib.hid (lb_many H00.out h16)
          clear h16
          go_wp2_with fail
          go_ret2
          exact ⟨_, by rw [HRES.out.1, HQ.out.1]; rfl, c4.alloc c4.size _, by rw [HRES.out.2, HQ.out.2]; exact emptyR _ c4.size⟩
        · have hd2 : decide ((16 : Int) < ((betP t (applyL l t)).length : Int)) = false := decide_eq_false (by omega)
          have HQ := Lib.hid (lb_ok H00.out h16)
          clear h16
          go_wp2_with fail
          go_ret2
          exact ⟨_, by rw [HRES.out.1, HQ.out.1]; rfl, c4, by rw [HRES.out.2, HQ.out.2]; exact ⟨HS.out.1, own_le HS.out.2 c3.size⟩⟩
end Go.Proofs.YtibekkfbpmloiabGreatDoor.Recs

/- Differences of trees, plain: what LayerBetween, UndoOf and Rebase answer of trees and layers that are drawn. -/
namespace Go.Proofs.YtibekkfbpmloiabGreatDoor.Recs
open Go.RowKit Paths

/-- The layer that undoes what a layer does to a tree, or the code. -/
theorem undo_cases {l t : List R} (hl : layerOK l = true) (ht : Tree t) (ho : ∀ r ∈ t, r.o = false) :
    (unC l t = 7 ∧ unR l t = []) ∨ (unC l t = 6 ∧ unR l t = []) ∨
    (unC l t = 0 ∧ appC l t = 0 ∧ layerOK (unR l t) = true ∧ appC (unR l t) (appR l t) = 0 ∧ appR (unR l t) (appR l t) = t) := by
  rcases app_cases hl ht ho with ⟨h1, h2⟩ | ⟨h1, h2, h3, h4⟩
  · refine .inl ?_
    unfold unC unR
    rw [h1]
    exact ⟨rfl, rfl⟩
  · have e1 : unC l t = lbC (applyL l t) t := by unfold unC; rw [if_pos h1, h2]
    have e2 : unR l t = lbR (applyL l t) t := by unfold unR; rw [if_pos h1, h2]
    by_cases h16 : 16 < (betP (applyL l t) t).length
    · obtain ⟨e3, e4⟩ := between_many h3 ht h16
      exact .inr (.inl ⟨e1.trans e3, e2.trans e4⟩)
    · obtain ⟨k1, k2, k3, _, k5, k6, _⟩ := between_facts h3 ht ho h16
      refine .inr (.inr ⟨e1.trans k1, h1, ?_, ?_, ?_⟩)
      · rw [e2, k2]; exact k3
      · rw [e2, k2, h2]; exact k5
      · rw [e2, k2, h2]; exact k6
theorem rebase_cases {l t : List R} (hl : layerOK l = true) (ht : Tree t) (ho : ∀ r ∈ t, r.o = false) :
    (rbC l t = 7 ∧ rbR l t = []) ∨ (rbC l t = 6 ∧ rbR l t = []) ∨
    (rbC l t = 0 ∧ appC l t = 0 ∧ layerOK (rbR l t) = true ∧ appC (rbR l t) t = 0 ∧ appR (rbR l t) t = appR l t) := by
  rcases app_cases hl ht ho with ⟨h1, h2⟩ | ⟨h1, h2, h3, h4⟩
  · refine .inl ?_
    unfold rbC rbR
    rw [h1]
    exact ⟨rfl, rfl⟩
  · have e1 : rbC l t = lbC t (applyL l t) := by unfold rbC; rw [if_pos h1, h2]
    have e2 : rbR l t = lbR t (applyL l t) := by unfold rbR; rw [if_pos h1, h2]
    by_cases h16 : 16 < (betP t (applyL l t)).length
    · obtain ⟨e3, e4⟩ := between_many ht h3 h16
      exact .inr (.inl ⟨e1.trans e3, e2.trans e4⟩)
    · obtain ⟨k1, k2, k3, _, k5, k6, _⟩ := between_facts ht h3 h4 h16
      refine .inr (.inr ⟨e1.trans k1, h1, ?_, ?_, ?_⟩)
      · rw [e2, k2]; exact k3
      · rw [e2, k2]; exact k5
      · rw [e2, k2, h2]; exact k6
end Go.Proofs.YtibekkfbpmloiabGreatDoor.Recs
