/- Parts of several texts of mine in one file (each begins with its own remark). -/
import Derived.Test.YtciflchaepchiabGreatDoorUA10
import Derived.Test.YtciflchaepchiabGreatDoorUA11
import Derived.Test.YtciflchaepchiabGreatDoorUA12
import Derived.Test.YtciflchaepchiabGreatDoorUA14
import Derived.Test.YtciflchaepchiabGreatDoorUA15
import Derived.Test.YtciflchaepchiabGreatDoorUA16
import Derived.Test.YtciflchaepchiabGreatDoorUA17
import Derived.Test.YtciflchaepchiabGreatDoorUA18
import Derived.Test.YtciflchaepchiabGreatDoorUA19
import Derived.Test.YtciflchaepchiabGreatDoorUA2
import Derived.Test.YtciflchaepchiabGreatDoorUA21
import Derived.Test.YtciflchaepchiabGreatDoorUA22
import Derived.Test.YtciflchaepchiabGreatDoorUA23
import Derived.Test.YtciflchaepchiabGreatDoorUA24
import Derived.Test.YtciflchaepchiabGreatDoorUA25
import Derived.Test.YtciflchaepchiabGreatDoorUA27
import Derived.Test.YtciflchaepchiabGreatDoorUA28
import Derived.Test.YtciflchaepchiabGreatDoorUA29
import Derived.Test.YtciflchaepchiabGreatDoorUA3
import Derived.Test.YtciflchaepchiabGreatDoorUA30
import Derived.Test.YtciflchaepchiabGreatDoorUA32
import Derived.Test.YtciflchaepchiabGreatDoorUA33
import Derived.Test.YtciflchaepchiabGreatDoorUA4
import Derived.Test.YtciflchaepchiabGreatDoorUA5
import Derived.Test.YtciflchaepchiabGreatDoorUA6
import Derived.Test.YtciflchaepchiabGreatDoorUA8
import Derived.Test.YtciflchaepchiabGreatDoorUA9
import Derived.Test.YtciflchaepchiabGreatDoorShelf2
import Derived.Test.YtciflchaepchiabGreatDoorChecked
import Derived.Test.YtciflchaepchiabGreatDoorShelf
import Derived.Test.YtciflchaepchiabGreatDoorRows
import Derived.Test.YtciflchaepchiabGreatDoorProg
import Derived.Shelf.SlSortCmp.NoneTotal
import Derived.Sort.OwnSorted
import Derived.Deep.RegionHeld3
import Derived.RangeFuncNested
import Derived.RangeFuncBound
import Derived.RangeFuncCalls
import Derived.RangeFuncLeaves
import Derived.RangeFuncBox
import Derived.Shelf.Abstract
import Derived.Shelf.RegionOpen
import Derived.OwnWalkIn
import Derived.TacticsInMore
import Derived.LoopNIn
import Derived.LoopIn
import Derived.Maps.OwnIn
import Derived.Maps.AppendAt
import Derived.Sort.MapsRangeIn
import Derived.Sort.KeysCollected
import Derived.Laws.IdiomRangeMap
import Derived.StillTailTactics
import Derived.Maps.RangeWalk
import Derived.Maps.Ext
import Derived.Lib.SlMapFilter
import Derived.Laws.OwnMore
import Derived.BigQuiet
import Derived.BigRegion
import Derived.Deep.QuietTactic
import Derived.Deep.Slices
import Derived.OpenShut
import Derived.ShutString
import Derived.ChangeArms
import Derived.WideShapes
import Derived.Lib.LaidTab
import Derived.Deep.Draws
import Derived.Deep.LoopGhost
import Derived.WalkKit
import Derived.WalkSpells
import Derived.WalkSmall
import Derived.Lib.OthersKept
import Derived.Lib.Hide
import Derived.Lib.Strings
import Derived.Lib.Join
import Derived.Laws.BytesArg
import Derived.WalkLawsBesides
import Derived.Deep.RegionWith
import Derived.OneCell
import Derived.Lib.SliceRun
import Derived.Lib.Overlaps
import Derived.Lib.AppendZerosOnto
import Derived.Laws.NewBlocks
import Derived.Laws.IdiomCopy
import Derived.Deep.RegionLaw
import Derived.ChangeVars
import Derived.Deep.DeepHandedRow
import Derived.LaidEql
import Derived.Stop.Asserts
import Derived.Below
import Derived.Stop.LaidErr
import Derived.Stop.LaidTwo
import Derived.Sort.Grow
import Derived.Deep.AppendLies
import Derived.Laws.EntriesVeiled
import Derived.Laws.AppendOwnNone
import Derived.RegionTactic
/- Apply, Changes of the program. Conditions: the table of kinds, the two sentinels. -/
namespace Go.Proofs.YtciflchaepchiabGreatDoor.Recs
set_option maxRecDepth 100000
open Go.RowKit Paths Errs

def appC (l t : List R) : Int := if codeLN l t ≠ 0 then codeLN l t else limC (applyL l t)
def appR (l t : List R) : List R := if codeLN l t ≠ 0 then [] else limL (applyL l t)
theorem fine_ln {l t : List R} (h : codeLN l t = 0) : checkU l = .fine ∧ growK t = .fine ∧ layerOK l = true ∧ treeOK t = true := by
  unfold codeLN at h
  split at h
  · cases h
  · rename_i hn
    split at h
    · rename_i hk
      rw [Bool.and_eq_true] at hk
      have h3 : (layerFaultL l).2 = 0 := by have := hk.1; unfold layerOK at this; simpa using this
      exact ⟨by unfold checkU; rw [if_neg (fun e => hn (.inl e)), if_neg (by simpa using h3)], by unfold growK; rw [if_neg (fun e => hn (.inr e)), if_pos hk.2], hk.1, hk.2⟩
    · cases h
theorem layer_16 {l : List R} (h : layerOK l = true) : l.length ≤ 16 := layer_len h
theorem RecSl.form {w : World} {v : Value} {l : List R} (h : RecSl w v l) : ∃ A cap, v = .slice A l.length cap := by
  obtain ⟨A, cap, rfl, _⟩ := h
  exact ⟨A, cap, rfl⟩
/-- One slice laid in a row of its own. -/
theorem stk_one {w : World} {v : Value} {l : List R} (h : RecSl w v l) : StkSl (w.alloc (.cells #[v] 26)) (.slice (some ⟨w.heap.size, 0, none⟩) 1 1) [l] := by
  refine ⟨_, 1, rfl, Nat.le_refl _, fun _ => ⟨w.heap.size, 0, rfl, by simp, fun i q hi => ?_⟩⟩
  match i, hi with
  | 0, hi =>
    cases hi
    exact ⟨v, cell_one_new w _ _ 0 _ rfl, h.below ((Below.refl _ _).alloc (Nat.le_refl _) _)⟩
  | i + 1, hi => simp at hi

set_option maxHeartbeats 1000000 in
theorem apply_impl (v u : Value) (l t : List R) (x y : Addr) (w : World) (h : RecSl w v l) (hn : NodSl w u t) (hl : l.length ≤ 1048576) (htl : t.length ≤ 1048576) (hr : ∀ r ∈ l, r.p.size ≤ maxLen) (htr : ∀ r ∈ t, r.p.size ≤ maxLen) (hT : Three w x y) :
    Calls Tryz.prog 56 #[v, u] w fun e w' => ∃ z, e = .returned (.tuple #[z, .int .i64 (appC l t)]) ∧ Below w.heap.size w w' ∧ RowN w' w.heap.size z (appR l t).length (appR l t) := by
  have HARG : euFrom [checkU l, (growK t).u] 0 = codeLN l t := arg_ln l t
  by_cases h0 : codeLN l t = 0
  · obtain ⟨hc, hg, hLO, hTO⟩ := fine_ln h0
    have HRES : Hid (appC l t = limC (applyL l t) ∧ appR l t = limL (applyL l t)) := ⟨if_neg (by simpa using h0), if_neg (by simpa using h0)⟩
    obtain ⟨vA, vcap, rfl⟩ := h.form
    have hLY := layer_is hLO
    have h16 := layer_16 hLO
    have hTR := (tree_of hTO).is
    have h24 := (tree_of hTO).len
    have HC := checkU_any _ l x y w h hl hr hT
    rw [hc] at HC
    unfold EU.val at HC
    have HARG2 := Lib.hid HARG
    clear HARG h0
    go_enter Tryz.func56, Tryz.ntmps56
    go_wp2_with fail
    refine HC.mono ?_
    rintro e w1 ⟨rfl, hb1⟩
    have hT1 := hT.below hb1 (Nat.le_refl _)
    have HG := growU_any u t x y w1 (hn.below hb1) htl htr hT1
    rw [hg] at HG
    unfold EN.u EU.val at HG
    go_wp2_with fail
    refine HG.mono ?_
    rintro e w2 ⟨rfl, hb2⟩
    have c2 := hb1.trans (hb2.mono hb1.size)
    have HA := argU2_any .fine .fine x y w2 (hT.below c2 (Nat.le_refl _))
    unfold EU.val at HA
    go_wp2_with fail
    refine HA.mono ?_
    rintro e w3 ⟨rfl, hb3⟩
    have c3 := c2.trans (hb3.mono c2.size)
    have hcode : euFrom [.fine, .fine] 0 = 0 := rfl
    rw [hcode]
    clear hcode
    have hSt := stk_one (h.below c3)
    have hbS : Below w3.heap.size w3 (w3.alloc (.cells #[.slice vA l.length vcap] 26)) := (Below.refl _ _).alloc (Nat.le_refl _) _
    have cS := c3.trans (hbS.mono c3.size)
    have HAL := afterLayers_any u _ t [l] _ (hn.below cS) hSt hTR (by omega) (fun l' hm => by rw [List.mem_singleton.1 hm]; exact ⟨hLY, h16⟩) (by simp)
    change Calls _ _ _ _ (fun e w' => ∃ x, e = .returned x ∧ _ ∧ RowN w' _ x (applyL l t).length (applyL l t)) at HAL
    clear hSt hbS
    go_wp2_with fail
    generalize w3.alloc (.cells #[.slice vA l.length vcap] 26) = W4 at *
    refine HAL.mono ?_
    rintro e w5 ⟨z, rfl, hb5, hrow⟩
    have c5 := cS.trans (hb5.mono cS.size)
    have HLM := limitNodes_any z _ _ w5 (hrow.down cS.size)
    clear hrow
    go_wp2_with fail
    refine HLM.mono ?_
    rintro e w6 ⟨z2, rfl, rfl, hrow2⟩
    have HR2 := Lib.hid hrow2
    clear hrow2
    go_wp2_with fail
    go_ret2
    exact ⟨z2, by rw [HRES.out.1]; rfl, c5, by rw [HRES.out.2]; exact HR2.out⟩
  · have HRES : Hid (appC l t = codeLN l t ∧ appR l t = []) := ⟨if_pos h0, if_pos h0⟩
    cases hc : checkU l <;> cases hg : growK t <;> (
      rw [hc, hg] at HARG
      first
      | exact absurd (HARG.symm.trans rfl) h0
      | (have HC := checkU_any _ l x y w h hl hr hT
         rw [hc] at HC
         unfold EU.val at HC
         try unfold errV at HC
         try unfold recV at HC
         go_enter Tryz.func56, Tryz.ntmps56
         go_wp2_with fail
         refine HC.mono ?_
         rintro e w1 ⟨rfl, hb1⟩
         have hT1 := hT.below hb1 (Nat.le_refl _)
         have HG := growU_any u t x y w1 (hn.below hb1) htl htr hT1
         rw [hg] at HG
         unfold EN.u EU.val at HG
         try unfold errV at HG
         go_wp2_with fail
         refine HG.mono ?_
         rintro e w2 ⟨rfl, hb2⟩
         have c2 := hb1.trans (hb2.mono hb1.size)
         have HA := argU2_any (checkU l) ((growK t).u) x y w2 (hT.below c2 (Nat.le_refl _))
         rw [hc, hg] at HA
         have hne : (codeLN l t != 0) = true := (by simpa using h0)
         rw [HARG] at HA
         try unfold EN.u at HA
         unfold EU.val at HA
         try unfold errV at HA
         try unfold recV at HA
         generalize hC : codeLN l t = C at *
         have HCC := Lib.hid hC
         clear HARG h0 hC
         go_wp2_with fail
         refine HA.mono ?_
         rintro e w3 ⟨rfl, hb3⟩
         have c3 := c2.trans (hb3.mono c2.size)
         go_wp2_with fail
         go_ret2
         exact ⟨_, by rw [HRES.out.1]; rfl, c3, by rw [HRES.out.2]; exact nilN _ _⟩))

end Go.Proofs.YtciflchaepchiabGreatDoor.Recs

/- Apply, Changes of the model. -/
namespace Go.Proofs.YtciflchaepchiabGreatDoor.Recs
set_option maxRecDepth 100000
open Go.RowKit Paths

theorem ln_long {l t : List R} (h : 4096 < l.length ∨ 4096 < t.length) : codeLN l t = 2 := if_pos h
theorem ln_bad {l t : List R} (h : ¬ (4096 < l.length ∨ 4096 < t.length)) (hb : layerOK l = false ∨ treeOK t = false) : codeLN l t = 1 := by
  unfold codeLN
  rw [if_neg h, if_neg]
  rcases hb with hb | hb <;> simp [hb]
theorem ln_fine {l t : List R} (h : ¬ (4096 < l.length ∨ 4096 < t.length)) (h1 : layerOK l = true) (h2 : treeOK t = true) : codeLN l t = 0 := by
  unfold codeLN
  rw [if_neg h, if_pos (by simp [h1, h2])]
theorem app_code {l t : List R} {c : Int} (h : codeLN l t = c) (hc : c ≠ 0) : appC l t = c ∧ appR l t = [] := by
  unfold appC appR
  rw [h, if_pos hc, if_pos hc]
  exact ⟨rfl, rfl⟩
theorem app_fine {l t : List R} (h : codeLN l t = 0) : appC l t = limC (applyL l t) ∧ appR l t = limL (applyL l t) := by
  unfold appC appR
  rw [h, if_neg (by decide), if_neg (by decide)]
  exact ⟨rfl, rfl⟩
end Go.Proofs.YtciflchaepchiabGreatDoor.Recs

/- UndoOf and Rebase, of the program. Conditions: the table of kinds, the two sentinels. -/
namespace Go.Proofs.YtciflchaepchiabGreatDoor.Recs
set_option maxRecDepth 100000
open Go.RowKit Paths Errs Go.Shelf

theorem app_ok {l t : List R} (h : appC l t = 0) : codeLN l t = 0 ∧ ¬ 24 < (applyL l t).length := by
  by_cases h0 : codeLN l t = 0
  · refine ⟨h0, fun h24 => ?_⟩
    rw [(app_fine h0).1] at h
    unfold limC at h
    rw [if_pos h24] at h
    cases h
  · exact absurd ((app_code rfl h0).1.symm.trans h) h0
theorem app_tree {l t : List R} (h : appC l t = 0) : appR l t = applyL l t ∧ Tree (applyL l t) := by
  obtain ⟨h0, h24⟩ := app_ok h
  obtain ⟨_, _, hl, ht⟩ := fine_ln h0
  refine ⟨?_, apply_full hl (tree_of ht) (by omega)⟩
  rw [(app_fine h0).2]
  exact if_neg h24
theorem emptyR {base : Nat} (w : World) (hb : base ≤ w.heap.size) : RowOf (w.alloc (.cells #[] 53)) base (.slice (some ⟨w.heap.size, 0, none⟩) 0 0) 0 [] := ⟨rfl, World.ownsRow_lit w #[] 0 hb (Nat.zero_le _) rfl⟩

def unC (l t : List R) : Int := if appC l t = 0 then lbC (appR l t) t else appC l t
def unR (l t : List R) : List R := if appC l t = 0 then lbR (appR l t) t else []
theorem un_len (l t : List R) : (unR l t).length ≤ 1048576 := by
  unfold unR
  split
  · exact lb_len _ _
  · simp
theorem un_code {l t : List R} {c : Int} (h : codeLN l t = c) (hc : c ≠ 0) : unC l t = c ∧ unR l t = [] := by
  have h1 := (app_code h hc).1
  unfold unC unR
  rw [h1, if_neg hc, if_neg hc]
  exact ⟨rfl, rfl⟩
theorem un_full {l t : List R} (h : codeLN l t = 0) (h24 : 24 < (applyL l t).length) : unC l t = 7 ∧ unR l t = [] := by
  have h1 : appC l t = 7 := (app_fine h).1.trans (if_pos h24)
  unfold unC unR
  rw [h1]
  exact ⟨rfl, rfl⟩
theorem un_fine {l t : List R} (h : codeLN l t = 0) (h24 : ¬ 24 < (applyL l t).length) : unC l t = lbC (applyL l t) t ∧ unR l t = lbR (applyL l t) t := by
  have h1 : appC l t = 0 := (app_fine h).1.trans (if_neg h24)
  have h2 : appR l t = applyL l t := (app_fine h).2.trans (if_neg h24)
  unfold unC unR
  rw [if_pos h1, if_pos h1, h2]
  exact ⟨rfl, rfl⟩
set_option maxHeartbeats 1600000 in
theorem UndoOf_impl (v u : Value) (l t : List R) (x y : Addr) (w : World) (h : RecSl w v l) (hn : NodSl w u t) (hl : l.length ≤ 1048576) (htl : t.length ≤ 1048576) (hr : ∀ r ∈ l, r.p.size ≤ maxLen) (htr : ∀ r ∈ t, r.p.size ≤ maxLen) (hT : Three w x y) :
    Calls Tryz.prog 15 #[v, u] w fun e w' => ∃ z, e = .returned (.tuple #[z, .int .i64 (unC l t)]) ∧ Below w.heap.size w w' ∧ RowOf w' w.heap.size z (unR l t).length (unR l t) := by
  have HA := apply_impl v u l t x y w h hn hl htl hr htr hT
  by_cases h0 : appC l t = 0
  · obtain ⟨hat, htt⟩ := app_tree h0
    have hl24 : (appR l t).length ≤ 1048576 := by rw [hat]; have := htt.len; omega
    have hps : ∀ r ∈ appR l t, r.p.size ≤ maxLen := fun r hr => path_max (htt.is.path r (by rw [← hat]; exact hr))
    have HLB := fun z w1 (hb : Below w.heap.size w w1) (hz : NodSl w1 z (appR l t)) => LayerBetween_impl z u (appR l t) t x y w1 hz (hn.below hb) hl24 htl hps htr (hT.below hb (Nat.le_refl _))
    have HQ : Hid (unC l t = lbC (appR l t) t ∧ unR l t = lbR (appR l t) t) := ⟨if_pos h0, if_pos h0⟩
    obtain ⟨vA, vcap, rfl⟩ := h.form
    obtain ⟨uA, ucap, rfl⟩ := nodSl_form hn
    rw [h0] at HA
    clear h0 h hn hat htt
    go_enter Tryz.func15, Tryz.ntmps15
    go_wp2_with fail
    refine HA.mono ?_
    rintro e w1 ⟨z, rfl, hb1, hz⟩
    obtain ⟨zA, zcap, rfl⟩ := own_form hz.2.1
    have HL := HLB _ w1 hb1 hz.sl
    clear hz
    go_wp2_with fail
    refine HL.mono ?_
    rintro e w2 ⟨s, rfl, hb2, hs⟩
    go_wp2_with fail
    go_ret2
    exact ⟨s, by rw [HQ.out.1]; rfl, hb1.trans (hb2.mono hb1.size), by rw [HQ.out.2]; exact ⟨hs.1, own_le hs.2 hb1.size⟩⟩
  · have hne : (appC l t != 0) = true := by simpa using h0
    have HQ : Hid (unC l t = appC l t ∧ unR l t = []) := ⟨if_neg h0, if_neg h0⟩
    generalize appC l t = C at *
    obtain ⟨vA, vcap, rfl⟩ := h.form
    obtain ⟨uA, ucap, rfl⟩ := nodSl_form hn
    clear h0 h hn
    go_enter Tryz.func15, Tryz.ntmps15
    go_wp2_with fail
    refine HA.mono ?_
    rintro e w1 ⟨z, rfl, hb1, hz⟩
    clear hz
    go_wp2_with fail
    go_ret2
    exact ⟨.slice none 0 0, by rw [HQ.out.1]; rfl, hb1, by rw [HQ.out.2]; exact ⟨rfl, World.ownsRow_nil _ _ _ _⟩⟩

def rbC (l t : List R) : Int := if appC l t = 0 then lbC t (appR l t) else appC l t
def rbR (l t : List R) : List R := if appC l t = 0 then lbR t (appR l t) else []
theorem rb_len (l t : List R) : (rbR l t).length ≤ 1048576 := by
  unfold rbR
  split
  · exact lb_len _ _
  · simp
theorem rb_code {l t : List R} {c : Int} (h : codeLN l t = c) (hc : c ≠ 0) : rbC l t = c ∧ rbR l t = [] := by
  have h1 := (app_code h hc).1
  unfold rbC rbR
  rw [h1, if_neg hc, if_neg hc]
  exact ⟨rfl, rfl⟩
theorem rb_full {l t : List R} (h : codeLN l t = 0) (h24 : 24 < (applyL l t).length) : rbC l t = 7 ∧ rbR l t = [] := by
  have h1 : appC l t = 7 := (app_fine h).1.trans (if_pos h24)
  unfold rbC rbR
  rw [h1]
  exact ⟨rfl, rfl⟩
theorem rb_fine {l t : List R} (h : codeLN l t = 0) (h24 : ¬ 24 < (applyL l t).length) : rbC l t = lbC t (applyL l t) ∧ rbR l t = lbR t (applyL l t) := by
  have h1 : appC l t = 0 := (app_fine h).1.trans (if_neg h24)
  have h2 : appR l t = applyL l t := (app_fine h).2.trans (if_neg h24)
  unfold rbC rbR
  rw [if_pos h1, if_pos h1, h2]
  exact ⟨rfl, rfl⟩
set_option maxHeartbeats 1600000 in
theorem Rebase_impl (v u : Value) (l t : List R) (x y : Addr) (w : World) (h : RecSl w v l) (hn : NodSl w u t) (hl : l.length ≤ 1048576) (htl : t.length ≤ 1048576) (hr : ∀ r ∈ l, r.p.size ≤ maxLen) (htr : ∀ r ∈ t, r.p.size ≤ maxLen) (hT : Three w x y) :
    Calls Tryz.prog 22 #[v, u] w fun e w' => ∃ z, e = .returned (.tuple #[z, .int .i64 (rbC l t)]) ∧ Below w.heap.size w w' ∧ RowOf w' w.heap.size z (rbR l t).length (rbR l t) := by
  have HA := apply_impl v u l t x y w h hn hl htl hr htr hT
  by_cases h0 : appC l t = 0
  · obtain ⟨hat, htt⟩ := app_tree h0
    have hl24 : (appR l t).length ≤ 1048576 := by rw [hat]; have := htt.len; omega
    have hps : ∀ r ∈ appR l t, r.p.size ≤ maxLen := fun r hr => path_max (htt.is.path r (by rw [← hat]; exact hr))
    have HLB := fun z w1 (hb : Below w.heap.size w w1) (hz : NodSl w1 z (appR l t)) => LayerBetween_impl u z t (appR l t) x y w1 (hn.below hb) hz htl hl24 htr hps (hT.below hb (Nat.le_refl _))
    have HQ : Hid (rbC l t = lbC t (appR l t) ∧ rbR l t = lbR t (appR l t)) := ⟨if_pos h0, if_pos h0⟩
    obtain ⟨vA, vcap, rfl⟩ := h.form
    obtain ⟨uA, ucap, rfl⟩ := nodSl_form hn
    rw [h0] at HA
    clear h0 h hn hat htt
    go_enter Tryz.func22, Tryz.ntmps22
    go_wp2_with fail
    refine HA.mono ?_
    rintro e w1 ⟨z, rfl, hb1, hz⟩
    obtain ⟨zA, zcap, rfl⟩ := own_form hz.2.1
    have HL := HLB _ w1 hb1 hz.sl
    clear hz
    go_wp2_with fail
    refine HL.mono ?_
    rintro e w2 ⟨s, rfl, hb2, hs⟩
    go_wp2_with fail
    go_ret2
    exact ⟨s, by rw [HQ.out.1]; rfl, hb1.trans (hb2.mono hb1.size), by rw [HQ.out.2]; exact ⟨hs.1, own_le hs.2 hb1.size⟩⟩
  · have hne : (appC l t != 0) = true := by simpa using h0
    have HQ : Hid (rbC l t = appC l t ∧ rbR l t = []) := ⟨if_neg h0, if_neg h0⟩
    generalize appC l t = C at *
    obtain ⟨vA, vcap, rfl⟩ := h.form
    obtain ⟨uA, ucap, rfl⟩ := nodSl_form hn
    clear h0 h hn
    go_enter Tryz.func22, Tryz.ntmps22
    go_wp2_with fail
    refine HA.mono ?_
    rintro e w1 ⟨z, rfl, hb1, hz⟩
    clear hz
    go_wp2_with fail
    go_ret2
    exact ⟨.slice none 0 0, by rw [HQ.out.1]; rfl, hb1, by rw [HQ.out.2]; exact ⟨rfl, World.ownsRow_nil _ _ _ _⟩⟩
end Go.Proofs.YtciflchaepchiabGreatDoor.Recs

/- UndoOf and Rebase, of the model. -/
namespace Go.Proofs.YtciflchaepchiabGreatDoor.Recs
set_option maxRecDepth 100000
open Go.RowKit Paths

set_option maxHeartbeats 1000000 in
theorem UndoOf_spec (v u : Value) (l t : List R) (base : Nat) (w : World) (h : RecSl w v l) (hn : RowN w base u t.length t) (hl : l.length ≤ 1048576) (htl : t.length ≤ 1048576) :
    Calls Tryz.prog 12 #[v, u] w fun e w' => ∃ z, e = .returned (.tuple #[z, .int .i64 (unC l t)]) ∧ Below w.heap.size w w' ∧ RowOf w' w.heap.size z (unR l t).length (unR l t) := by
  obtain ⟨vA, vcap, rfl⟩ := h.form
  obtain ⟨uA, ucap, rfl⟩ := own_form hn.2.1
  have HN := Lib.hid hn
  have HOK := l03OK_any _ l w h hl
  by_cases h1 : 4096 < l.length
  · have hd : decide ((4096 : Int) < (l.length : Int)) = true := by simp; omega
    have HRES := Lib.hid (un_code (show codeLN l t = 2 from ln_long (.inl h1)) (by decide))
    clear h1
    go_enter Tryz.func12, Tryz.ntmps12
    go_wp2_with fail
    go_ret2
    exact ⟨_, by rw [HRES.out.1]; rfl, (Below.refl _ _).alloc (Nat.le_refl _) _, by rw [HRES.out.2]; exact emptyR _ (Nat.le_refl _)⟩
  have hd1 : decide ((4096 : Int) < (l.length : Int)) = false := by simp; omega
  by_cases h2 : 4096 < t.length
  · have hd : decide ((4096 : Int) < (t.length : Int)) = true := by simp; omega
    have HRES := Lib.hid (un_code (show codeLN l t = 2 from ln_long (.inr h2)) (by decide))
    clear h1 h2
    go_enter Tryz.func12, Tryz.ntmps12
    go_wp2_with fail
    go_ret2
    exact ⟨_, by rw [HRES.out.1]; rfl, (Below.refl _ _).alloc (Nat.le_refl _) _, by rw [HRES.out.2]; exact emptyR _ (Nat.le_refl _)⟩
  have hd2 : decide ((4096 : Int) < (t.length : Int)) = false := by simp; omega
  have h12 : ¬ (4096 < l.length ∨ 4096 < t.length) := by omega
  cases ho : layerOK l with
  | false =>
    have HRES := Lib.hid (un_code (ln_bad h12 (.inl ho)) (by decide))
    rw [ho] at HOK
    clear h1 h2 h12 ho
    go_enter Tryz.func12, Tryz.ntmps12
    go_wp2_with fail
    refine HOK.mono ?_
    rintro e w1 ⟨rfl, hb1⟩
    have c0 := hb1
    go_wp2_with fail
    go_ret2
    exact ⟨_, by rw [HRES.out.1]; rfl, (c0).alloc c0.size _, by rw [HRES.out.2]; exact emptyR _ c0.size⟩
  | true =>
    rw [ho] at HOK
    have HTK : ∀ w', Below w.heap.size w w' → Calls Tryz.prog 64 #[.slice uA t.length ucap] w' fun e w'' => e = .returned (.bool (treeOK t)) ∧ Below w'.heap.size w' w'' := fun w' hb => l04OK_any _ t w' (hn.below hb).sl htl
    cases hto : treeOK t with
    | false =>
      have HRES := Lib.hid (un_code (ln_bad h12 (.inr hto)) (by decide))
      rw [hto] at HTK
      clear h1 h2 h12 ho hto
      go_enter Tryz.func12, Tryz.ntmps12
      go_wp2_with fail
      refine HOK.mono ?_
      rintro e w1 ⟨rfl, hb1⟩
      go_wp2_with fail
      refine (HTK _ hb1).mono ?_
      rintro e w2 ⟨rfl, hb2⟩
      have c0 := hb1.trans (hb2.mono hb1.size)
      go_wp2_with fail
      go_ret2
      exact ⟨_, by rw [HRES.out.1]; rfl, (c0).alloc c0.size _, by rw [HRES.out.2]; exact emptyR _ c0.size⟩
    | true =>
      have HZ0 := Lib.hid (ln_fine h12 ho hto)
      have HTR := Lib.hid (tree_of hto)
      have HLO := Lib.hid ho
      rw [hto] at HTK
      clear h1 h2 h12 ho hto
      go_enter Tryz.func12, Tryz.ntmps12
      go_wp2_with fail
      refine HOK.mono ?_
      rintro e w1 ⟨rfl, hb1⟩
      go_wp2_with fail
      refine (HTK _ hb1).mono ?_
      rintro e w2 ⟨rfl, hb2⟩
      have c0 := hb1.trans (hb2.mono hb1.size)
      have HAP := l05Apply_any _ _ l t base w2 (h.below c0) (hn.below c0) (layer_is HLO.out).path HTR.out.sorted HTR.out.is.path (by have h1 := layer_16 HLO.out; have h2 := HTR.out.len; omega)
      clear HTK HOK
      go_wp2_with fail
      refine HAP.mono ?_
      rintro e w3 ⟨z, rfl, hb3, hrow, hz⟩
      have c3 := c0.trans (hb3.mono c0.size)
      obtain ⟨zg, zcap, rfl, _, _, _, _⟩ := notnil hrow hz
      have HR := Lib.hid hrow
      clear hrow hz
      by_cases h24 : 24 < (applyL l t).length
      · have hd : decide ((24 : Int) < ((applyL l t).length : Int)) = true := by simp; omega
        have HRES := Lib.hid (un_full HZ0.out h24)
        clear h24
        go_wp2_with fail
        go_ret2
        exact ⟨_, by rw [HRES.out.1]; rfl, c3.alloc c3.size _, by rw [HRES.out.2]; exact emptyR _ c3.size⟩
      · have hd : decide ((24 : Int) < ((applyL l t).length : Int)) = false := by simp; omega
        have HRES := Lib.hid (un_fine HZ0.out h24)
        have HAT := Lib.hid (apply_full HLO.out HTR.out (by omega))
        have HBT := l08Between_any _ _ (applyL l t) t w3 HR.out.sl (HN.out.below c3).sl HAT.out HTR.out
        clear h24
        go_wp2_with fail
        refine HBT.mono ?_
        rintro e w4 ⟨s, rfl, hb4, hs⟩
        have c4 := c3.trans (hb4.mono c3.size)
        obtain ⟨sA, scap, rfl⟩ := hs.form
        have HS := Lib.hid hs
        clear hs HBT
        have H00 : Hid (codeNN (applyL l t) t = 0) := nn_fine (by have := HAT.out.len; have := HTR.out.len; omega) (by rw [Bool.and_eq_true]; exact ⟨treeOK_of HAT.out, treeOK_of HTR.out⟩)
        by_cases h16 : 16 < (betP (applyL l t) t).length
        · have hd2 : decide ((16 : Int) < ((betP (applyL l t) t).length : Int)) = true := decide_eq_true (by omega)
          have HQ := Lib.hid (lb_many H00.out h16)
          clear h16
          go_wp2_with fail
          go_ret2
          exact ⟨_, by rw [HRES.out.1, HQ.out.1]; rfl, c4.alloc c4.size _, by rw [HRES.out.2, HQ.out.2]; exact emptyR _ c4.size⟩
        · have hd2 : decide ((16 : Int) < ((betP (applyL l t) t).length : Int)) = false := decide_eq_false (by omega)
          have HQ := Lib.hid (lb_ok H00.out h16)
          clear h16
          go_wp2_with fail
          go_ret2
          exact ⟨_, by rw [HRES.out.1, HQ.out.1]; rfl, c4, by rw [HRES.out.2, HQ.out.2]; exact ⟨HS.out.1, own_le HS.out.2 c3.size⟩⟩

set_option maxHeartbeats 1000000 in
theorem Rebase_spec (v u : Value) (l t : List R) (base : Nat) (w : World) (h : RecSl w v l) (hn : RowN w base u t.length t) (hl : l.length ≤ 1048576) (htl : t.length ≤ 1048576) :
    Calls Tryz.prog 21 #[v, u] w fun e w' => ∃ z, e = .returned (.tuple #[z, .int .i64 (rbC l t)]) ∧ Below w.heap.size w w' ∧ RowOf w' w.heap.size z (rbR l t).length (rbR l t) := by
  obtain ⟨vA, vcap, rfl⟩ := h.form
  obtain ⟨uA, ucap, rfl⟩ := own_form hn.2.1
  have HN := Lib.hid hn
  have HOK := l03OK_any _ l w h hl
  by_cases h1 : 4096 < l.length
  · have hd : decide ((4096 : Int) < (l.length : Int)) = true := by simp; omega
    have HRES := Lib.hid (rb_code (show codeLN l t = 2 from ln_long (.inl h1)) (by decide))
    clear h1
    go_enter Tryz.func21, Tryz.ntmps21
    go_wp2_with fail
    go_ret2
    exact ⟨_, by rw [HRES.out.1]; rfl, (Below.refl _ _).alloc (Nat.le_refl _) _, by rw [HRES.out.2]; exact emptyR _ (Nat.le_refl _)⟩
  have hd1 : decide ((4096 : Int) < (l.length : Int)) = false := by simp; omega
  by_cases h2 : 4096 < t.length
  · have hd : decide ((4096 : Int) < (t.length : Int)) = true := by simp; omega
    have HRES := Lib.hid (rb_code (show codeLN l t = 2 from ln_long (.inr h2)) (by decide))
    clear h1 h2
    go_enter Tryz.func21, Tryz.ntmps21
    go_wp2_with fail
    go_ret2
    exact ⟨_, by rw [HRES.out.1]; rfl, (Below.refl _ _).alloc (Nat.le_refl _) _, by rw [HRES.out.2]; exact emptyR _ (Nat.le_refl _)⟩
  have hd2 : decide ((4096 : Int) < (t.length : Int)) = false := by simp; omega
  have h12 : ¬ (4096 < l.length ∨ 4096 < t.length) := by omega
  cases ho : layerOK l with
  | false =>
    have HRES := Lib.hid (rb_code (ln_bad h12 (.inl ho)) (by decide))
    rw [ho] at HOK
    clear h1 h2 h12 ho
    go_enter Tryz.func21, Tryz.ntmps21
    go_wp2_with fail
    refine HOK.mono ?_
    rintro e w1 ⟨rfl, hb1⟩
    have c0 := hb1
    go_wp2_with fail
    go_ret2
    exact ⟨_, by rw [HRES.out.1]; rfl, (c0).alloc c0.size _, by rw [HRES.out.2]; exact emptyR _ c0.size⟩
  | true =>
    rw [ho] at HOK
    have HTK : ∀ w', Below w.heap.size w w' → Calls Tryz.prog 64 #[.slice uA t.length ucap] w' fun e w'' => e = .returned (.bool (treeOK t)) ∧ Below w'.heap.size w' w'' := fun w' hb => l04OK_any _ t w' (hn.below hb).sl htl
    cases hto : treeOK t with
    | false =>
      have HRES := Lib.hid (rb_code (ln_bad h12 (.inr hto)) (by decide))
      rw [hto] at HTK
      clear h1 h2 h12 ho hto
      go_enter Tryz.func21, Tryz.ntmps21
      go_wp2_with fail
      refine HOK.mono ?_
      rintro e w1 ⟨rfl, hb1⟩
      go_wp2_with fail
      refine (HTK _ hb1).mono ?_
      rintro e w2 ⟨rfl, hb2⟩
      have c0 := hb1.trans (hb2.mono hb1.size)
      go_wp2_with fail
      go_ret2
      exact ⟨_, by rw [HRES.out.1]; rfl, (c0).alloc c0.size _, by rw [HRES.out.2]; exact emptyR _ c0.size⟩
    | true =>
      have HZ0 := Lib.hid (ln_fine h12 ho hto)
      have HTR := Lib.hid (tree_of hto)
      have HLO := Lib.hid ho
      rw [hto] at HTK
      clear h1 h2 h12 ho hto
      go_enter Tryz.func21, Tryz.ntmps21
      go_wp2_with fail
      refine HOK.mono ?_
      rintro e w1 ⟨rfl, hb1⟩
      go_wp2_with fail
      refine (HTK _ hb1).mono ?_
      rintro e w2 ⟨rfl, hb2⟩
      have c0 := hb1.trans (hb2.mono hb1.size)
      have HAP := l05Apply_any _ _ l t base w2 (h.below c0) (hn.below c0) (layer_is HLO.out).path HTR.out.sorted HTR.out.is.path (by have h1 := layer_16 HLO.out; have h2 := HTR.out.len; omega)
      clear HTK HOK
      go_wp2_with fail
      refine HAP.mono ?_
      rintro e w3 ⟨z, rfl, hb3, hrow, hz⟩
      have c3 := c0.trans (hb3.mono c0.size)
      obtain ⟨zg, zcap, rfl, _, _, _, _⟩ := notnil hrow hz
      have HR := Lib.hid hrow
      clear hrow hz
      by_cases h24 : 24 < (applyL l t).length
      · have hd : decide ((24 : Int) < ((applyL l t).length : Int)) = true := by simp; omega
        have HRES := Lib.hid (rb_full HZ0.out h24)
        clear h24
        go_wp2_with fail
        go_ret2
        exact ⟨_, by rw [HRES.out.1]; rfl, c3.alloc c3.size _, by rw [HRES.out.2]; exact emptyR _ c3.size⟩
      · have hd : decide ((24 : Int) < ((applyL l t).length : Int)) = false := by simp; omega
        have HRES := Lib.hid (rb_fine HZ0.out h24)
        have HAT := Lib.hid (apply_full HLO.out HTR.out (by omega))
        have HBT := l08Between_any _ _ t (applyL l t) w3 (HN.out.below c3).sl HR.out.sl HTR.out HAT.out
        clear h24
        go_wp2_with fail
        refine HBT.mono ?_
        rintro e w4 ⟨s, rfl, hb4, hs⟩
        have c4 := c3.trans (hb4.mono c3.size)
        obtain ⟨sA, scap, rfl⟩ := hs.form
        have HS := Lib.hid hs
        clear hs HBT
        have H00 : Hid (codeNN t (applyL l t) = 0) := nn_fine (by have := HAT.out.len; have := HTR.out.len; omega) (by rw [Bool.and_eq_true]; exact ⟨treeOK_of HTR.out, treeOK_of HAT.out⟩)
        by_cases h16 : 16 < (betP t (applyL l t)).length
        · have hd2 : decide ((16 : Int) < ((betP t (applyL l t)).length : Int)) = true := decide_eq_true (by omega)
          have HQ := Lib.hid (lb_many H00.out h16)
          clear h16
          go_wp2_with fail
          go_ret2
          exact ⟨_, by rw [HRES.out.1, HQ.out.1]; rfl, c4.alloc c4.size _, by rw [HRES.out.2, HQ.out.2]; exact emptyR _ c4.size⟩
        · have hd2 : decide ((16 : Int) < ((betP t (applyL l t)).length : Int)) = false := decide_eq_false (by omega)
          have HQ := Lib.hid (lb_ok H00.out h16)
          clear h16
          go_wp2_with fail
          go_ret2
          exact ⟨_, by rw [HRES.out.1, HQ.out.1]; rfl, c4, by rw [HRES.out.2, HQ.out.2]; exact ⟨HS.out.1, own_le HS.out.2 c3.size⟩⟩
end Go.Proofs.YtciflchaepchiabGreatDoor.Recs
