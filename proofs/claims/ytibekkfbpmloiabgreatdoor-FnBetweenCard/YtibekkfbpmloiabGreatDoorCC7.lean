/- Parts of several texts of mine in one file (each begins with its own remark). -/
import Derived.Test.YtibekkfbpmloiabGreatDoorCA1
import Derived.Test.YtibekkfbpmloiabGreatDoorCA10
import Derived.Test.YtibekkfbpmloiabGreatDoorCA11
import Derived.Test.YtibekkfbpmloiabGreatDoorCA13
import Derived.Test.YtibekkfbpmloiabGreatDoorCA15
import Derived.Test.YtibekkfbpmloiabGreatDoorCA16
import Derived.Test.YtibekkfbpmloiabGreatDoorCA17
import Derived.Test.YtibekkfbpmloiabGreatDoorCA18
import Derived.Test.YtibekkfbpmloiabGreatDoorCA2
import Derived.Test.YtibekkfbpmloiabGreatDoorCA20
import Derived.Test.YtibekkfbpmloiabGreatDoorCA21
import Derived.Test.YtibekkfbpmloiabGreatDoorCA3
import Derived.Test.YtibekkfbpmloiabGreatDoorCA4
import Derived.Test.YtibekkfbpmloiabGreatDoorCA5
import Derived.Test.YtibekkfbpmloiabGreatDoorCA6
import Derived.Test.YtibekkfbpmloiabGreatDoorCA7
import Derived.Test.YtibekkfbpmloiabGreatDoorCA8
import Derived.Test.YtibekkfbpmloiabGreatDoorCA9
import Derived.Test.YtibekkfbpmloiabGreatDoorCC1
import Derived.Test.YtibekkfbpmloiabGreatDoorCC5
import Derived.Test.YtibekkfbpmloiabGreatDoorCC6
import Derived.Test.YtibekkfbpmloiabGreatDoorChecked
import Derived.Test.YtibekkfbpmloiabGreatDoorShelf
import Derived.Test.YtibekkfbpmloiabGreatDoorProg
import Derived.Test.YtibekkfbpmloiabGreatDoorRows
import Derived.Test.YtibekkfbpmloiabGreatDoorShelf2
import Derived.Stop.LaidErr
import Derived.StillTailTactics
import Derived.Laws.OwnMore
import Derived.BigQuiet
import Derived.BigRegion
import Derived.Deep.QuietTactic
import Derived.Deep.RegionHeld3
import Derived.Deep.Slices
import Derived.OpenShut
import Derived.ShutString
import Derived.ChangeArms
import Derived.WideShapes
import Derived.Lib.LaidTab
import Derived.Deep.Draws
import Derived.Deep.LoopGhost
import Derived.WalkKit
import Derived.WalkSpells
import Derived.WalkSmall
import Derived.Lib.OthersKept
import Derived.Lib.Hide
import Derived.Lib.Strings
import Derived.Lib.Join
import Derived.Laws.BytesArg
import Derived.WalkLawsBesides
import Derived.LaidEql
import Derived.Stop.Asserts
import Derived.Below
import Derived.Stop.LaidTwo
import Derived.ChangeVars
import Derived.Deep.DeepHandedRow
import Derived.Deep.RegionWith
import Derived.OneCell
import Derived.Lib.SliceRun
import Derived.Lib.Overlaps
import Derived.Lib.AppendZerosOnto
import Derived.Laws.NewBlocks
import Derived.Laws.IdiomCopy
import Derived.Deep.RegionLaw
import Derived.Shelf.SlSortCmp.NoneTotal
import Derived.Sort.OwnSorted
import Derived.RangeFuncNested
import Derived.RangeFuncBound
import Derived.RangeFuncCalls
import Derived.RangeFuncLeaves
import Derived.RangeFuncBox
import Derived.Shelf.Abstract
import Derived.Shelf.RegionOpen
import Derived.OwnWalkIn
import Derived.TacticsInMore
import Derived.LoopNIn
import Derived.LoopIn
import Derived.Maps.OwnIn
import Derived.Maps.AppendAt
import Derived.Sort.MapsRangeIn
import Derived.Sort.KeysCollected
import Derived.Laws.IdiomRangeMap
import Derived.Maps.RangeWalk
import Derived.Maps.Ext
import Derived.Lib.SlMapFilter
import Derived.Deep.Cut
import Derived.Deep.CutRange
import Derived.Deep.CutBlock
import Derived.Sort.Grow
import Derived.Deep.AppendLies
import Derived.Laws.EntriesVeiled
import Derived.Laws.AppendOwnNone
import Derived.RegionTactic
/- The code of the errors of a call's arguments, whichever check they come from. Conditions: the table of kinds, the two sentinels. -/
namespace Go.Proofs.YtibekkfbpmloiabGreatDoor.Recs
set_option maxRecDepth 100000
open Go.RowKit Paths Errs

/-- The arguments' errors, as the call of a variadic function lays them. -/
theorem argU2_any (a b : EU) (x y : Addr) (w : World) (hT : Three w x y) :
    Calls Tryz.prog 69 #[.slice (some ⟨w.heap.size, 0, none⟩) 2 2] (w.alloc (.cells #[a.val x y, b.val x y] 83)) fun e w' => e = .returned (.int .i64 (euFrom [a, b] 0)) ∧ Below w.heap.size w w' := by
  have hb0 : Below w.heap.size w (w.alloc (.cells #[a.val x y, b.val x y] 83)) := (Below.refl _ _).alloc (Nat.le_refl _) _
  have := argumentU_any w.heap.size [a, b] x y (w.alloc (.cells #[a.val x y, b.val x y] 83)) (hT.below hb0 (Nat.le_refl _)) (by simp) (by simp) (fun k hk => by
    have hk2 : k < 2 := hk
    match k, hk2 with
    | 0, _ => go_simp
    | 1, _ => go_simp)
  refine this.mono ?_
  rintro e w1 ⟨rfl, hb1⟩
  exact ⟨rfl, hb0.trans (hb1.mono hb0.size)⟩
/-- What checkLayer answers. -/
def checkU (l : List R) : EU := if 4096 < l.length then .long else if (layerFaultL l).2 ≠ 0 then .bad (layerFaultL l).1 (layerFaultL l).2 else .fine
theorem checkU_val (l : List R) (x y : Addr) : (checkU l).val x y = checkV l x := by
  unfold checkU checkV
  split
  · rfl
  · split <;> rfl
theorem checkU_any (v : Value) (l : List R) (x y : Addr) (w : World) (h : RecSl w v l) (hl : l.length ≤ 1048576) (hr : ∀ r ∈ l, r.p.size ≤ maxLen) (hT : Three w x y) :
    Calls Tryz.prog 77 #[v] w fun e w' => e = .returned ((checkU l).val x y) ∧ Below w.heap.size w w' := by
  rw [checkU_val]
  exact checkLayer_any v l x w h hl hr hT.tab hT.long
theorem growU_any (v : Value) (l : List R) (x y : Addr) (w : World) (h : NodSl w v l) (hl : l.length ≤ 1048576) (hr : ∀ r ∈ l, r.p.size ≤ maxLen) (hT : Three w x y) :
    Calls Tryz.prog 70 #[v] w fun e w' => e = .returned ((growK l).u.val x y) ∧ Below w.heap.size w w' := by
  rw [EN.u_val]
  exact checkTree_any v l x y w h hl hr hT
/-- The code of a call with a layer and a tree. -/
def codeLN (l t : List R) : Int := if 4096 < l.length ∨ 4096 < t.length then 2 else if layerOK l && treeOK t then 0 else 1
theorem arg_ln (l t : List R) : euFrom [checkU l, (growK t).u] 0 = codeLN l t := by
  by_cases h1 : 4096 < l.length <;> by_cases h2 : 4096 < t.length <;> by_cases h3 : (layerFaultL l).2 = 0 <;> cases h4 : treeOK t <;> simp [checkU, growK, EN.u, codeLN, euFrom, layerOK, h1, h2, h3, h4]
end Go.Proofs.YtibekkfbpmloiabGreatDoor.Recs

/- Apply, Changes of the program. Conditions: the table of kinds, the two sentinels. -/
namespace Go.Proofs.YtibekkfbpmloiabGreatDoor.Recs
set_option maxRecDepth 100000
open Go.RowKit Paths Errs

def appC (l t : List R) : Int := if codeLN l t ≠ 0 then codeLN l t else limC (applyL l t)
def appR (l t : List R) : List R := if codeLN l t ≠ 0 then [] else limL (applyL l t)
theorem fine_ln {l t : List R} (h : codeLN l t = 0) : checkU l = .fine ∧ growK t = .fine ∧ layerOK l = true ∧ treeOK t = true := by
  unfold codeLN at h
  split at h
  · cases h
  · rename_i hn
    split at h
    · rename_i hk
      rw [Bool.and_eq_true] at hk
      have h3 : (layerFaultL l).2 = 0 := by have := hk.1; unfold layerOK at this; simpa using this
      exact ⟨by unfold checkU; rw [if_neg (fun e => hn (.inl e)), if_neg (by simpa using h3)], by unfold growK; rw [if_neg (fun e => hn (.inr e)), if_pos hk.2], hk.1, hk.2⟩
    · cases h
/-- One slice laid in a row of its own. -/
theorem stk_one {w : World} {v : Value} {l : List R} (h : RecSl w v l) : StkSl (w.alloc (.cells #[v] 27)) (.slice (some ⟨w.heap.size, 0, none⟩) 1 1) [l] := by
  refine ⟨_, 1, rfl, Nat.le_refl _, fun _ => ⟨w.heap.size, 0, rfl, by simp, fun i q hi => ?_⟩⟩
  match i, hi with
  | 0, hi =>
    cases hi
    exact ⟨v, cell_one_new w _ _ 0 _ rfl, h.below ((Below.refl _ _).alloc (Nat.le_refl _) _)⟩
  | i + 1, hi => simp at hi

set_option maxHeartbeats 1000000 in
theorem apply_impl (v u : Value) (l t : List R) (x y : Addr) (w : World) (h : RecSl w v l) (hn : NodSl w u t) (hl : l.length ≤ 1048576) (htl : t.length ≤ 1048576) (hr : ∀ r ∈ l, r.p.size ≤ maxLen) (htr : ∀ r ∈ t, r.p.size ≤ maxLen) (hT : Three w x y) :
    Calls Tryz.prog 20 #[v, u] w fun e w' => ∃ z, e = .returned (.tuple #[z, .int .i64 (appC l t)]) ∧ Below w.heap.size w w' ∧ RowN w' w.heap.size z (appR l t).length (appR l t) := by
  have HARG : euFrom [checkU l, (growK t).u] 0 = codeLN l t := arg_ln l t
  by_cases h0 : codeLN l t = 0
  · obtain ⟨hc, hg, hLO, hTO⟩ := fine_ln h0
    have HRES : Hid (appC l t = limC (applyL l t) ∧ appR l t = limL (applyL l t)) := ⟨if_neg (by simpa using h0), if_neg (by simpa using h0)⟩
    obtain ⟨vA, vcap, rfl⟩ := h.form
    have hLY := layer_is hLO
    have h16 := layer_16 hLO
    have hTR := (tree_of hTO).is
    have h24 := (tree_of hTO).len
    have HC := checkU_any _ l x y w h hl hr hT
    rw [hc] at HC
    unfold EU.val at HC
    have HARG2 := Lib.hid HARG
    clear HARG h0
    go_enter Tryz.func20, Tryz.ntmps20
    go_wp2_with fail
    refine HC.mono ?_
    rintro e w1 ⟨rfl, hb1⟩
    have hT1 := hT.below hb1 (Nat.le_refl _)
    have HG := growU_any u t x y w1 (hn.below hb1) htl htr hT1
    rw [hg] at HG
    unfold EN.u EU.val at HG
    go_wp2_with fail
    refine HG.mono ?_
    rintro e w2 ⟨rfl, hb2⟩
    have c2 := hb1.trans (hb2.mono hb1.size)
    have HA := argU2_any .fine .fine x y w2 (hT.below c2 (Nat.le_refl _))
    unfold EU.val at HA
    go_wp2_with fail
    refine HA.mono ?_
    rintro e w3 ⟨rfl, hb3⟩
    have c3 := c2.trans (hb3.mono c2.size)
    have hcode : euFrom [.fine, .fine] 0 = 0 := rfl
    rw [hcode]
    clear hcode
    have hSt := stk_one (h.below c3)
    have hbS : Below w3.heap.size w3 (w3.alloc (.cells #[.slice vA l.length vcap] 27)) := (Below.refl _ _).alloc (Nat.le_refl _) _
    have cS := c3.trans (hbS.mono c3.size)
    have HAL := afterLayers_any u _ t [l] _ (hn.below cS) hSt hTR (by omega) (fun l' hm => by rw [List.mem_singleton.1 hm]; exact ⟨hLY, h16⟩) (by simp)
    change Calls _ _ _ _ (fun e w' => ∃ x, e = .returned x ∧ _ ∧ RowN w' _ x (applyL l t).length (applyL l t)) at HAL
    clear hSt hbS
    go_wp2_with fail
    generalize w3.alloc (.cells #[.slice vA l.length vcap] 27) = W4 at *
    refine HAL.mono ?_
    rintro e w5 ⟨z, rfl, hb5, hrow⟩
    have c5 := cS.trans (hb5.mono cS.size)
    have HLM := limitNodes_any z _ _ w5 (hrow.down cS.size)
    clear hrow
    go_wp2_with fail
    refine HLM.mono ?_
    rintro e w6 ⟨z2, rfl, rfl, hrow2⟩
    have HR2 := Lib.hid hrow2
    clear hrow2
    go_wp2_with fail
    go_ret2
    exact ⟨z2, by rw [HRES.out.1]; rfl, c5, by rw [HRES.out.2]; exact HR2.out⟩
  · have HRES : Hid (appC l t = codeLN l t ∧ appR l t = []) := ⟨if_pos h0, if_pos h0⟩
    cases hc : checkU l <;> cases hg : growK t <;> (
      rw [hc, hg] at HARG
      first
      | exact absurd (HARG.symm.trans rfl) h0
      | (have HC := checkU_any _ l x y w h hl hr hT
         rw [hc] at HC
         unfold EU.val at HC
         try unfold errV at HC
         try unfold recV at HC
         go_enter Tryz.func20, Tryz.ntmps20
         go_wp2_with fail
         refine HC.mono ?_
         rintro e w1 ⟨rfl, hb1⟩
         have hT1 := hT.below hb1 (Nat.le_refl _)
         have HG := growU_any u t x y w1 (hn.below hb1) htl htr hT1
         rw [hg] at HG
         unfold EN.u EU.val at HG
         try unfold errV at HG
         go_wp2_with fail
         refine HG.mono ?_
         rintro e w2 ⟨rfl, hb2⟩
         have c2 := hb1.trans (hb2.mono hb1.size)
         have HA := argU2_any (checkU l) ((growK t).u) x y w2 (hT.below c2 (Nat.le_refl _))
         rw [hc, hg] at HA
         have hne : (codeLN l t != 0) = true := (by simpa using h0)
         rw [HARG] at HA
         try unfold EN.u at HA
         unfold EU.val at HA
         try unfold errV at HA
         try unfold recV at HA
         generalize hC : codeLN l t = C at *
         have HCC := Lib.hid hC
         clear HARG h0 hC
         go_wp2_with fail
         refine HA.mono ?_
         rintro e w3 ⟨rfl, hb3⟩
         have c3 := c2.trans (hb3.mono c2.size)
         go_wp2_with fail
         go_ret2
         exact ⟨_, by rw [HRES.out.1]; rfl, c3, by rw [HRES.out.2]; exact nilN _ _⟩))

end Go.Proofs.YtibekkfbpmloiabGreatDoor.Recs

/- Apply, Changes of the model. -/
namespace Go.Proofs.YtibekkfbpmloiabGreatDoor.Recs
set_option maxRecDepth 100000
open Go.RowKit Paths

theorem ln_long {l t : List R} (h : 4096 < l.length ∨ 4096 < t.length) : codeLN l t = 2 := if_pos h
theorem ln_bad {l t : List R} (h : ¬ (4096 < l.length ∨ 4096 < t.length)) (hb : layerOK l = false ∨ treeOK t = false) : codeLN l t = 1 := by
  unfold codeLN
  rw [if_neg h, if_neg]
  rcases hb with hb | hb <;> simp [hb]
theorem ln_fine {l t : List R} (h : ¬ (4096 < l.length ∨ 4096 < t.length)) (h1 : layerOK l = true) (h2 : treeOK t = true) : codeLN l t = 0 := by
  unfold codeLN
  rw [if_neg h, if_pos (by simp [h1, h2])]
theorem app_code {l t : List R} {c : Int} (h : codeLN l t = c) (hc : c ≠ 0) : appC l t = c ∧ appR l t = [] := by
  unfold appC appR
  rw [h, if_pos hc, if_pos hc]
  exact ⟨rfl, rfl⟩
theorem app_fine {l t : List R} (h : codeLN l t = 0) : appC l t = limC (applyL l t) ∧ appR l t = limL (applyL l t) := by
  unfold appC appR
  rw [h, if_neg (by decide), if_neg (by decide)]
  exact ⟨rfl, rfl⟩
set_option maxHeartbeats 1000000 in
theorem apply_spec (v u : Value) (l t : List R) (base : Nat) (w : World) (h : RecSl w v l) (hn : RowN w base u t.length t) (hl : l.length ≤ 1048576) (htl : t.length ≤ 1048576) :
    Calls Tryz.prog 10 #[v, u] w fun e w' => ∃ z, e = .returned (.tuple #[z, .int .i64 (appC l t)]) ∧ Below w.heap.size w w' ∧ RowN w' w.heap.size z (appR l t).length (appR l t) := by
  obtain ⟨vA, vcap, rfl⟩ := h.form
  obtain ⟨uA, ucap, rfl⟩ := own_form hn.2.1
  have HOK := l03OK_any _ l w h hl
  by_cases h1 : 4096 < l.length
  · have hd : decide ((4096 : Int) < (l.length : Int)) = true := by simp; omega
    have HRES := Lib.hid (app_code (show codeLN l t = 2 from ln_long (.inl h1)) (by decide))
    clear h1
    go_enter Tryz.func10, Tryz.ntmps10
    go_wp2_with fail
    go_ret2
    exact ⟨_, by rw [HRES.out.1]; rfl, (Below.refl _ _).alloc (Nat.le_refl _) _, by rw [HRES.out.2]; exact emptyN _ (Nat.le_refl _)⟩
  have hd1 : decide ((4096 : Int) < (l.length : Int)) = false := by simp; omega
  by_cases h2 : 4096 < t.length
  · have hd : decide ((4096 : Int) < (t.length : Int)) = true := by simp; omega
    have HRES := Lib.hid (app_code (show codeLN l t = 2 from ln_long (.inr h2)) (by decide))
    clear h1 h2
    go_enter Tryz.func10, Tryz.ntmps10
    go_wp2_with fail
    go_ret2
    exact ⟨_, by rw [HRES.out.1]; rfl, (Below.refl _ _).alloc (Nat.le_refl _) _, by rw [HRES.out.2]; exact emptyN _ (Nat.le_refl _)⟩
  have hd2 : decide ((4096 : Int) < (t.length : Int)) = false := by simp; omega
  have h12 : ¬ (4096 < l.length ∨ 4096 < t.length) := by omega
  cases ho : layerOK l with
  | false =>
    have HRES := Lib.hid (app_code (ln_bad h12 (.inl ho)) (by decide))
    rw [ho] at HOK
    clear h1 h2 h12 ho
    go_enter Tryz.func10, Tryz.ntmps10
    go_wp2_with fail
    refine HOK.mono ?_
    rintro e w1 ⟨rfl, hb1⟩
    have c0 := hb1
    go_wp2_with fail
    go_ret2
    exact ⟨_, by rw [HRES.out.1]; rfl, (c0).alloc c0.size _, by rw [HRES.out.2]; exact emptyN _ c0.size⟩
  | true =>
    rw [ho] at HOK
    have HTK : ∀ w', Below w.heap.size w w' → Calls Tryz.prog 66 #[.slice uA t.length ucap] w' fun e w'' => e = .returned (.bool (treeOK t)) ∧ Below w'.heap.size w' w'' := fun w' hb => l04OK_any _ t w' (hn.below hb).sl htl
    cases hto : treeOK t with
    | false =>
      have HRES := Lib.hid (app_code (ln_bad h12 (.inr hto)) (by decide))
      rw [hto] at HTK
      clear h1 h2 h12 ho hto
      go_enter Tryz.func10, Tryz.ntmps10
      go_wp2_with fail
      refine HOK.mono ?_
      rintro e w1 ⟨rfl, hb1⟩
      go_wp2_with fail
      refine (HTK _ hb1).mono ?_
      rintro e w2 ⟨rfl, hb2⟩
      have c0 := hb1.trans (hb2.mono hb1.size)
      go_wp2_with fail
      go_ret2
      exact ⟨_, by rw [HRES.out.1]; rfl, (c0).alloc c0.size _, by rw [HRES.out.2]; exact emptyN _ c0.size⟩
    | true =>
      have HRES := Lib.hid (app_fine (ln_fine h12 ho hto))
      have HZ0 := Lib.hid (ln_fine h12 ho hto)
      have HTR := Lib.hid (tree_of hto)
      have HLO := Lib.hid ho
      rw [hto] at HTK
      clear h1 h2 h12 ho hto
      go_enter Tryz.func10, Tryz.ntmps10
      go_wp2_with fail
      refine HOK.mono ?_
      rintro e w1 ⟨rfl, hb1⟩
      go_wp2_with fail
      refine (HTK _ hb1).mono ?_
      rintro e w2 ⟨rfl, hb2⟩
      have c0 := hb1.trans (hb2.mono hb1.size)
      have HAP := l05Apply_any _ _ l t base w2 (h.below c0) (hn.below c0) (layer_is HLO.out).path HTR.out.sorted HTR.out.is.path (by have h1 := layer_16 HLO.out; have h2 := HTR.out.len; omega)
      clear HTK HOK
      go_wp2_with fail
      refine HAP.mono ?_
      rintro e w3 ⟨z, rfl, hb3, hrow, hz⟩
      have c3 := c0.trans (hb3.mono c0.size)
      obtain ⟨zg, zcap, rfl, _, _, _, _⟩ := notnil hrow hz
      have HR := Lib.hid hrow
      clear hrow hz
      by_cases h24 : 24 < (applyL l t).length
      · have hd : decide ((24 : Int) < ((applyL l t).length : Int)) = true := by simp; omega
        have HX : Hid (limC (applyL l t) = 7 ∧ limL (applyL l t) = []) := ⟨if_pos h24, if_pos h24⟩
        clear h24
        go_wp2_with fail
        go_ret2
        exact ⟨_, by rw [HRES.out.1, HX.out.1]; rfl, c3.alloc c3.size _, by rw [HRES.out.2, HX.out.2]; exact emptyN _ c3.size⟩
      · have hd : decide ((24 : Int) < ((applyL l t).length : Int)) = false := by simp; omega
        have HX : Hid (limC (applyL l t) = 0 ∧ limL (applyL l t) = applyL l t) := ⟨if_neg h24, if_neg h24⟩
        clear h24
        go_wp2_with fail
        go_ret2
        exact ⟨_, by rw [HRES.out.1, HX.out.1]; rfl, c3, by rw [HRES.out.2, HX.out.2]; exact HR.out.down c0.size⟩

theorem lim_le (T : List R) : (limL T).length ≤ 24 := by
  unfold limL
  split
  · simp
  · omega
theorem app_len (l t : List R) (_h : t.length ≤ 1048576) : (appR l t).length ≤ 1048576 := by
  unfold appR
  split
  · simp
  · have := lim_le (applyL l t); omega
end Go.Proofs.YtibekkfbpmloiabGreatDoor.Recs

/- What the draws put into a list stays within what is asked of each record; a list without whiteouts is a tree. -/
namespace Go.Proofs.YtibekkfbpmloiabGreatDoor.Recs
open Go.RowKit Paths

theorem lput_all {P : R → Prop} (hd : ∀ q, P (dirR q)) : ∀ (n : Nat) {l : List R} {r : R}, Lays l → r.fault = 0 → (cutAt 47 r.p.data.toList).length ≤ n → (∀ x ∈ l, P x) → P r → ∀ x ∈ lputF n l r, P x := by
  intro n
  induction n with
  | zero =>
    intro l r _ _ hn
    have := cutAt_pos 47 r.p.data.toList
    omega
  | succ n ih =>
    intro l r hl hr hn hall hP x hx
    have hp := (fault_path hr).1
    by_cases hh : homed l r.p = true
    · rw [lputF, if_pos hh] at hx
      rcases (mem_base hl.sorted).1 hx with rfl | ⟨h1, _⟩
      · exact hP
      · exact hall x h1
    · have hpar : parentL r.p.data.toList ≠ [] := fun e => hh (by unfold homed; rw [decide_eq_true e]; rfl)
      obtain ⟨h1, h2⟩ := parts_parent hp hpar
      have hlen : (cutAt 47 (dirR (parO r.p)).p.data.toList).length ≤ n := show (cutAt 47 (parO r.p).data.toList).length ≤ n by omega
      have h3 := (lput_lays n hl (dir_fault h1) hlen).1
      rw [lputF, if_neg hh] at hx
      rcases (mem_base h3.sorted).1 hx with rfl | ⟨h4, _⟩
      · exact hP
      · exact ih hl (dir_fault h1) hlen hall (hd _) x h4
theorem lays_tree {l : List R} (h : Lays l) (hk : ∀ r ∈ l, r.k ≠ 4) (hl : l.length ≤ 24) : Tree l := ⟨hl, hk, h.fault, h.sorted, h.housed⟩
end Go.Proofs.YtibekkfbpmloiabGreatDoor.Recs

/- The model's draws: a layer drawn is one. -/
namespace Go.Proofs.YtibekkfbpmloiabGreatDoor.Draw
set_option maxRecDepth 100000
open Go.RowKit
open Paths Recs

set_option maxHeartbeats 400000 in
theorem layerDrawn_any (w : World) (A : Option Addr) (n cap : Nat) (hB : Byts w w.heap.size A n) (hn : n ≤ cap) :
    Calls Tryz.prog 11 #[.slice A n cap] w fun e w' => ∃ v l, e = .returned v ∧ layerOK l = true ∧ Below w.heap.size w w' ∧ RowOf w' w.heap.size v l.length l ∧ v ≠ .slice none 0 0 := by
  have HB := Lib.hid hB
  clear hB
  go_enter Tryz.func11, Tryz.ntmps11
  go_wp2_with fail
  refine (source_any w A n cap HB.out hn).mono ?_
  rintro e w1 ⟨rfl, hs1, hb1⟩
  have HS1 := Lib.hid hs1
  clear hs1
  go_wp2_with fail
  refine (layer_any w1 w.heap.size w.heap.size 0 HS1.out (by omega)).mono ?_
  rintro e w2 ⟨v, l, rfl, hok, hw2, hrow, hv⟩
  have HL := Lib.hid hok
  have HB2 := Lib.hid (hb1.trans (hw2.belowB hb1.size))
  have HR := Lib.hid hrow
  have HV := Lib.hid hv
  have hz := hb1.size
  clear hok hw2 hrow hv
  go_wp2_with fail
  go_ret
  exact ⟨v, l, rfl, HL.out, HB2.out, ⟨HR.out.1, own_down HR.out.2 hz⟩, HV.out⟩
end Go.Proofs.YtibekkfbpmloiabGreatDoor.Draw

/- Trees and applying, plain: a node added and taken out again; what a layer makes of nothing; what a tree shows of a layer and of the tree before. -/
namespace Go.Proofs.YtibekkfbpmloiabGreatDoor.Recs
open Go.RowKit Paths

theorem put_len {t : List R} (h : Sorted t) {n : R} (hn : recAt t n.p = none) : (putL t n).length = t.length + 1 := by
  have hpl : placeOf t n ≤ t.length := by unfold placeOf; exact (List.takeWhile_prefix _).sublist.length_le
  rw [put_new h hn, List.length_append, List.length_cons, List.length_take, List.length_drop]
  omega
section
variable {l t : List R}
theorem nodeOf_fault {r : R} (h : r.fault = 0) : (nodeOf r).fault = 0 := by
  have key : ∀ (k : Int) (p : List UInt8) (z : Nat) (m : Int) (o : Bool), faultI k p z m o = 0 → faultI k p z m false = 0 := by
    intro k p z m o h
    cases o with
    | false => exact h
    | true =>
      unfold faultI at h ⊢
      split at h
      · omega
      · split at h
        · omega
        · split at h
          · omega
          · split at h
            · omega
            · rename_i h1 h2 h3 h4
              have h6 := (not_or.1 h4).1
              rw [if_neg h1, if_neg h2, if_neg h3, if_neg (by rintro (h7 | h7); exact h6 h7; exact absurd h7.1 (by decide))]
              exact h
  exact key _ _ _ _ _ h
/-- The result is a tree in full, if it is short enough. -/
theorem apply_full (hl : layerOK l = true) (ht : Tree t) (hlen : (applyL l t).length ≤ 24) : Tree (applyL l t) := by
  have hL := layer_is hl
  have hI := apply_tree hL ht.is
  have hm := mem_apply ht.is l hL.sorted hL.path
  refine ⟨hlen, fun r hr => ?_, fun r hr => ?_, hI.sorted, hI.housed⟩
  · rcases (hm r).1 hr with ⟨y, _, h4, rfl⟩ | ⟨h1, _⟩
    · exact h4
    · exact ht.kind r h1
  · rcases (hm r).1 hr with ⟨y, hy, _, rfl⟩ | ⟨h1, _⟩
    · exact nodeOf_fault (layer_rec hl hy)
    · exact ht.fault r h1
theorem apply_flag (hlo : ∀ r ∈ t, r.o = false) (hl : IsLayer l) (ht : IsTree t) : ∀ r ∈ applyL l t, r.o = false := fun r hr => by
  rcases (mem_apply ht l hl.sorted hl.path r).1 hr with ⟨y, _, _, rfl⟩ | ⟨h1, _⟩
  · rfl
  · exact hlo r h1
end
end Go.Proofs.YtibekkfbpmloiabGreatDoor.Recs
