/- Parts of several texts of mine in one file (each begins with its own remark). -/
import Derived.Test.YtcbmnihepeefaaaGreatDoorCA1
import Derived.Test.YtcbmnihepeefaaaGreatDoorCA10
import Derived.Test.YtcbmnihepeefaaaGreatDoorCA2
import Derived.Test.YtcbmnihepeefaaaGreatDoorCA3
import Derived.Test.YtcbmnihepeefaaaGreatDoorCA4
import Derived.Test.YtcbmnihepeefaaaGreatDoorCA5
import Derived.Test.YtcbmnihepeefaaaGreatDoorCA6
import Derived.Test.YtcbmnihepeefaaaGreatDoorCA7
import Derived.Test.YtcbmnihepeefaaaGreatDoorCA8
import Derived.Test.YtcbmnihepeefaaaGreatDoorCA9
import Derived.Test.YtcbmnihepeefaaaGreatDoorCB1
import Derived.Test.YtcbmnihepeefaaaGreatDoorCB10
import Derived.Test.YtcbmnihepeefaaaGreatDoorCB11
import Derived.Test.YtcbmnihepeefaaaGreatDoorCB12
import Derived.Test.YtcbmnihepeefaaaGreatDoorCB13
import Derived.Test.YtcbmnihepeefaaaGreatDoorCB14
import Derived.Test.YtcbmnihepeefaaaGreatDoorCB15
import Derived.Test.YtcbmnihepeefaaaGreatDoorCB16
import Derived.Test.YtcbmnihepeefaaaGreatDoorCB17
import Derived.Test.YtcbmnihepeefaaaGreatDoorCB2
import Derived.Test.YtcbmnihepeefaaaGreatDoorCB5
import Derived.Test.YtcbmnihepeefaaaGreatDoorCB6
import Derived.Test.YtcbmnihepeefaaaGreatDoorCB8
import Derived.Test.YtcbmnihepeefaaaGreatDoorCB9
import Derived.Test.YtcbmnihepeefaaaGreatDoorCD1
import Derived.Test.YtcbmnihepeefaaaGreatDoorCD2
import Derived.Test.YtcbmnihepeefaaaGreatDoorCE1
import Derived.Test.YtcbmnihepeefaaaGreatDoorCG1
import Derived.Test.YtcbmnihepeefaaaGreatDoorChecked
import Derived.Test.YtcbmnihepeefaaaGreatDoorShelf
import Derived.Test.YtcbmnihepeefaaaGreatDoorProg
import Derived.Test.YtcbmnihepeefaaaGreatDoorRows
import Derived.Test.YtcbmnihepeefaaaGreatDoorShelf2
import Derived.Deep.RegionWith
import Derived.Laws.AppendOwnNone
import Derived.WalkKit
import Derived.WalkSpells
import Derived.WalkSmall
import Derived.WalkLawsBesides
import Derived.Lib.Hide
import Derived.BigQuiet
import Derived.BigRegion
import Derived.RegionTactic
import Derived.StillTailTactics
import Derived.Deep.QuietTactic
import Derived.Deep.RegionHeld3
import Derived.Deep.Draws
import Derived.Deep.LoopGhost
import Derived.Lib.OthersKept
import Derived.Lib.Strings
import Derived.Lib.Join
import Derived.Laws.BytesArg
import Derived.Stop.LaidErr
import Derived.Laws.OwnMore
import Derived.Deep.Slices
import Derived.OpenShut
import Derived.ShutString
import Derived.ChangeArms
import Derived.WideShapes
import Derived.Lib.LaidTab
import Derived.LaidEql
import Derived.Stop.Asserts
import Derived.Below
import Derived.Stop.LaidTwo
import Derived.ChangeVars
import Derived.Deep.DeepHandedRow
import Derived.Shelf.SlSortCmp.NoneTotal
import Derived.Sort.OwnSorted
import Derived.RangeFuncNested
import Derived.RangeFuncBound
import Derived.RangeFuncCalls
import Derived.RangeFuncLeaves
import Derived.RangeFuncBox
import Derived.Shelf.Abstract
import Derived.Shelf.RegionOpen
import Derived.OwnWalkIn
import Derived.TacticsInMore
import Derived.LoopNIn
import Derived.LoopIn
import Derived.Maps.OwnIn
import Derived.Maps.AppendAt
import Derived.Sort.MapsRangeIn
import Derived.Sort.KeysCollected
import Derived.Laws.IdiomRangeMap
import Derived.Maps.RangeWalk
import Derived.Maps.Ext
import Derived.Lib.SlMapFilter
import Derived.OneCell
import Derived.Lib.SliceRun
import Derived.Lib.Overlaps
import Derived.Lib.AppendZerosOnto
import Derived.Laws.NewBlocks
import Derived.Laws.IdiomCopy
import Derived.Deep.RegionLaw
import Derived.Sort.Grow
import Derived.Deep.AppendLies
import Derived.Laws.EntriesVeiled
import Derived.Deep.Cut
import Derived.Deep.CutRange
import Derived.IntWalk
/- The model's source of choices: strings that may be no paths; a source out of bytes; drawn paths. -/
namespace Go.Proofs.YtcbmnihepeefaaaGreatDoor.Draw
open Go.RowKit
open Paths

theorem byteInfo : (Tryz.prog.info? 5).map (fun i => (i.zero, i.size, i.bytes)) = some (some (.int .u8 0), 1, 1) := by kernel_rfl

theorem byts_own {w : World} {base : Nat} {v : Value} {n : Nat} {xs : List Value} (h : w.ownsRow base 5 1 v n xs) (hx : ∀ u ∈ xs, ∃ x : Nat, x ≤ 255 ∧ u = .int .u8 x) (hn : n ≤ 1048577) : ∃ A cap, v = .slice A n cap ∧ n ≤ cap ∧ Byts w w.heap.size A n := by
  have hl : xs.length = n := by simpa using h.1
  rcases h.2 with ⟨rfl, rfl⟩ | ⟨g, cap, cur, rfl, hb, hg, hc, _⟩
  · exact ⟨none, 0, rfl, Nat.le_refl _, hn, fun h => by omega⟩
  · refine ⟨_, cap, rfl, hc, hn, fun _ => ⟨g, 0, rfl, (Array.getElem?_eq_some_iff.1 hg).1, fun k hk => ?_⟩⟩
    obtain ⟨x, hx1, hx2⟩ := hx xs[k] (by simp)
    refine ⟨x, hx1, ?_⟩
    have := h.cells (g := g) rfl k xs[k] (by simp [hl, hk])
    rw [hx2] at this
    simpa [Addr.add_lit] using this

set_option maxHeartbeats 400000 in
theorem mix_any (w : World) (i : Int) (A : Option Addr) (n cap : Nat) (hB : Byts w w.heap.size A n) (hn : n ≤ 1048576) (hnc : n ≤ cap) (hi : 0 ≤ i ∧ i ≤ 255) (hA : A = none → n = 0 ∧ cap = 0) :
    Calls Tryz.prog 55 #[.int .i64 i, .slice A n cap] w fun e w' => ∃ A' n' cap', e = .returned (.slice A' n' cap') ∧ n' ≤ cap' ∧ Byts w' w'.heap.size A' n' ∧ Below w.heap.size w w' := by
  obtain ⟨i0, hi0, hz0, hz1, hz2⟩ := info_parts byteInfo
  obtain ⟨news, hl, hcell, hval⟩ := hB.cells
  have HB := Lib.hid hB
  have hone : ∀ u ∈ news, u.oneCell' = true := fun u hu => by obtain ⟨x, _, rfl⟩ := hval u hu; rfl
  obtain ⟨hi1, hi2⟩ := hi
  clear hB
  cases A with
  | none =>
    obtain ⟨rfl, rfl⟩ := hA rfl
    have ho := World.ownsRow_lit (e := 5) (size := 1) (base := w.heap.size) w #[.int .u8 i] 1 (Nat.le_refl _) (by simp [maxLen]) rfl
    obtain ⟨A', cap', e, hcap, hby⟩ := byts_own ho (by
      intro u hu
      simp at hu
      exact ⟨i.toNat, by omega, by rw [hu, Int.toNat_of_nonneg hi1]⟩) (by omega)
    cases e
    have HBY := Lib.hid hby
    have HO := Lib.hid ho
    clear hval hl hcell hone hA hby ho
    go_enter Tryz.func55, Tryz.ntmps55
    go_wp2_with (first
      | (at_builtin; refine wpList_append_own_none rfl _ _ 22 rfl w.heap.size 5 i0 1 Tryz.underlying22 hi0 _ _ _ rfl HO.out rfl ?_))
    go_ret
    exact ⟨_, 1, 1, rfl, hcap, HBY.out, (Below.refl _ _).alloc (Nat.le_refl _) _⟩
  | some ad =>
    have HV := Lib.hid hval
    have HL := Lib.hid hl
    have HC := Lib.hid (hcell ad rfl)
    have HO := Lib.hid hone
    clear hval hl hcell hone hA
    go_enter Tryz.func55, Tryz.ntmps55
    go_wp2_with (first
      | (at_builtin; refine wpList_append_own _ rfl _ _ 22 rfl w.heap.size 5 i0 (.int .u8 0) 1 1 Tryz.underlying22 hi0 hz0 hz1 hz2 rfl (by decide) _ _ _ rfl (World.ownsRow_lit w #[.int .u8 i] 1 (Nat.le_refl _) (by simp [maxLen]) rfl) ad n cap news rfl ?c1 ?c2 HO.out (by unfold maxLen; omega) (by omega) (by simp) ?_))
    case c1 => rw [HL.out]; simp
    case c2 =>
      intro j u hu
      have hc := HC.out j u hu
      exact (World.cell?_alloc_lt w _ _ (World.block_lt_of_cell? w _ hc)).trans hc
    intro v' w3 hown' hgrow3 hnil3
    obtain ⟨A', cap', rfl, hcap, hby⟩ := byts_own hown' (by
      intro u hu
      rcases List.mem_cons.1 hu with hu | hu
      · exact ⟨i.toNat, by omega, by rw [hu, Int.toNat_of_nonneg hi1]⟩
      · exact HV.out u hu) (by omega)
    have hg3 : (w.alloc (.cells #[.int .u8 i] 5)).grownBy w3 (some w.heap.size) := hgrow3
    have hb3 : Below w.heap.size w w3 := ((Below.refl _ _).alloc (Nat.le_refl _) _).grown hg3 (by simp) (fun q hq => by cases hq; exact Nat.le_refl _)
    have HBY := Lib.hid hby
    clear hgrow3 hnil3 hown' hg3 hby
    go_wp2
    go_ret
    exact ⟨A', _, cap', rfl, hcap, HBY.out, hb3⟩

end Go.Proofs.YtcbmnihepeefaaaGreatDoor.Draw

/- Combining two layers, plain: what the upper one cuts off as the program looks at it; the combination step by step. -/
namespace Go.Proofs.YtcbmnihepeefaaaGreatDoor.Recs
set_option maxRecDepth 100000
open Go.RowKit Paths

/-- The code of a call with two layers. -/
def codeBB (a b : List R) : Int := if 4096 < a.length ∨ 4096 < b.length then 2 else if layerOK a && layerOK b then 0 else 1
theorem arg_bb (a b : List R) : argFrom [checkK a, checkK b] 0 = codeBB a b := by
  by_cases h1 : 4096 < a.length <;> by_cases h2 : 4096 < b.length <;> by_cases h3 : (layerFaultL a).2 = 0 <;> by_cases h4 : (layerFaultL b).2 = 0 <;> simp [checkK, codeBB, argFrom, layerOK, h1, h2, h3, h4]
theorem codeBB_ok {a b : List R} (h : codeBB a b = 0) : layerOK a = true ∧ layerOK b = true := by
  unfold codeBB at h
  split at h
  · cases h
  · split at h
    · rename_i h2; simpa using h2
    · cases h
end Go.Proofs.YtcbmnihepeefaaaGreatDoor.Recs

/- ApplyAll, ViewOf of the program. Conditions: the table of kinds, the two sentinels. -/
namespace Go.Proofs.YtcbmnihepeefaaaGreatDoor.Recs
set_option maxRecDepth 100000
open Go.RowKit Paths Errs

set_option maxHeartbeats 1000000 in
theorem applyAll_impl (v u : Value) (LL : List (List R)) (t : List R) (x y : Addr) (w : World) (h : StkSl w v LL) (hn : NodSl w u t) (hl : LL.length ≤ 1048576) (htl : t.length ≤ 1048576) (hr : ∀ l ∈ LL, l.length ≤ 1048576 ∧ ∀ r ∈ l, r.p.size ≤ maxLen) (htr : ∀ r ∈ t, r.p.size ≤ maxLen) (hT : Three w x y) :
    Calls Tryz.prog 60 #[v, u] w fun e w' => ∃ z, e = .returned (.tuple #[z, .int .i64 (allC LL t)]) ∧ Below w.heap.size w w' ∧ RowN w' w.heap.size z (allR LL t).length (allR LL t) := by
  have HARG : euFrom [(stkE LL).u, (growK t).u] 0 = codeSN LL t := arg_sn LL t
  by_cases h0 : codeSN LL t = 0
  · obtain ⟨hc, hg, hSO, hTO⟩ := fine_sn h0
    have HRES : Hid (allC LL t = limC (applyAllL LL t) ∧ allR LL t = limL (applyAllL LL t)) := ⟨if_neg (by simpa using h0), if_neg (by simpa using h0)⟩
    have hTR := (tree_of hTO).is
    have h24 := (tree_of hTO).len
    have HC := stackU_any v LL x y w h hl hr hT
    rw [hc] at HC
    unfold EN.u EU.val at HC
    have HARG2 := Lib.hid HARG
    clear HARG h0
    go_enter Tryz.func60, Tryz.ntmps60
    go_wp2_with fail
    refine HC.mono ?_
    rintro e w1 ⟨rfl, hb1⟩
    have hT1 := hT.below hb1 (Nat.le_refl _)
    have HG := growU_any u t x y w1 (hn.below hb1) htl htr hT1
    rw [hg] at HG
    unfold EN.u EU.val at HG
    go_wp2_with fail
    refine HG.mono ?_
    rintro e w2 ⟨rfl, hb2⟩
    have c2 := hb1.trans (hb2.mono hb1.size)
    have HA := argU2_any .fine .fine x y w2 (hT.below c2 (Nat.le_refl _))
    unfold EU.val at HA
    go_wp2_with fail
    refine HA.mono ?_
    rintro e w3 ⟨rfl, hb3⟩
    have c3 := c2.trans (hb3.mono c2.size)
    have hcode : euFrom [.fine, .fine] 0 = 0 := rfl
    rw [hcode]
    clear hcode
    have hst := stack_of hSO
    have HAL := afterLayers_any u v t LL w3 (hn.below c3) (h.below c3) hTR (by omega) (fun l hm => ⟨layer_is (hst.2 l hm), layer_16 (hst.2 l hm)⟩) (by omega)
    clear hst
    go_wp2_with fail
    refine HAL.mono ?_
    rintro e w5 ⟨z, rfl, hb5, hrow⟩
    have c5 := c3.trans (hb5.mono c3.size)
    have HLM := limitNodes_any z _ _ w5 (hrow.down c3.size)
    clear hrow
    go_wp2_with fail
    refine HLM.mono ?_
    rintro e w6 ⟨z2, rfl, rfl, hrow2⟩
    have HR2 := Lib.hid hrow2
    clear hrow2
    go_wp2_with fail
    go_ret2
    exact ⟨z2, by rw [HRES.out.1]; rfl, c5, by rw [HRES.out.2]; exact HR2.out⟩
  · have HRES : Hid (allC LL t = codeSN LL t ∧ allR LL t = []) := ⟨if_pos h0, if_pos h0⟩
    cases hc : stkE LL <;> cases hg : growK t <;> (
      rw [hc, hg] at HARG
      first
      | exact absurd (HARG.symm.trans rfl) h0
      | (have HC := stackU_any v LL x y w h hl hr hT
         rw [hc] at HC
         unfold EN.u EU.val at HC
         try unfold errV at HC
         try unfold recV at HC
         go_enter Tryz.func60, Tryz.ntmps60
         go_wp2_with fail
         refine HC.mono ?_
         rintro e w1 ⟨rfl, hb1⟩
         have hT1 := hT.below hb1 (Nat.le_refl _)
         have HG := growU_any u t x y w1 (hn.below hb1) htl htr hT1
         rw [hg] at HG
         unfold EN.u EU.val at HG
         try unfold errV at HG
         go_wp2_with fail
         refine HG.mono ?_
         rintro e w2 ⟨rfl, hb2⟩
         have c2 := hb1.trans (hb2.mono hb1.size)
         have HA := argU2_any ((stkE LL).u) ((growK t).u) x y w2 (hT.below c2 (Nat.le_refl _))
         rw [hc, hg] at HA
         have hne : (codeSN LL t != 0) = true := (by simpa using h0)
         rw [HARG] at HA
         try unfold EN.u at HA
         unfold EU.val at HA
         try unfold errV at HA
         try unfold recV at HA
         generalize hC : codeSN LL t = C at *
         have HCC := Lib.hid hC
         clear HARG h0 hC
         go_wp2_with fail
         refine HA.mono ?_
         rintro e w3 ⟨rfl, hb3⟩
         have c3 := c2.trans (hb3.mono c2.size)
         go_wp2_with fail
         go_ret2
         exact ⟨_, by rw [HRES.out.1]; rfl, c3, by rw [HRES.out.2]; exact nilN _ _⟩))

end Go.Proofs.YtcbmnihepeefaaaGreatDoor.Recs

/- ApplyAll, ViewOf of the model. -/
namespace Go.Proofs.YtcbmnihepeefaaaGreatDoor.Recs
set_option maxRecDepth 100000
open Go.RowKit Paths

set_option maxHeartbeats 1000000 in
theorem applyAll_spec (v u : Value) (LL : List (List R)) (t : List R) (base : Nat) (w : World) (h : StkSl w v LL) (hn : RowN w base u t.length t) (hl : LL.length ≤ 1048576) (hll : ∀ l ∈ LL, l.length ≤ 1048576) (htl : t.length ≤ 1048576) :
    Calls Tryz.prog 61 #[v, u] w fun e w' => ∃ z, e = .returned (.tuple #[z, .int .i64 (allC LL t)]) ∧ Below w.heap.size w w' ∧ RowN w' w.heap.size z (allR LL t).length (allR LL t) := by
  obtain ⟨vA, vcap, rfl⟩ := h.form
  obtain ⟨uA, ucap, rfl⟩ := own_form hn.2.1
  have HOK := l05Stack_any _ LL w h hl hll
  by_cases h1 : 4096 < LL.length
  · have hd : decide ((4096 : Int) < (LL.length : Int)) = true := by simp; omega
    have HRES := Lib.hid (all_code (show codeSN LL t = 2 from sn_long (.inl h1)) (by decide))
    clear h1
    go_enter Tryz.func61, Tryz.ntmps61
    go_wp2_with fail
    go_ret2
    exact ⟨_, by rw [HRES.out.1]; rfl, (Below.refl _ _).alloc (Nat.le_refl _) _, by rw [HRES.out.2]; exact emptyN _ (Nat.le_refl _)⟩
  have hd1 : decide ((4096 : Int) < (LL.length : Int)) = false := by simp; omega
  by_cases h2 : 4096 < t.length
  · have hd : decide ((4096 : Int) < (t.length : Int)) = true := by simp; omega
    have HRES := Lib.hid (all_code (show codeSN LL t = 2 from sn_long (.inr h2)) (by decide))
    clear h1 h2
    go_enter Tryz.func61, Tryz.ntmps61
    go_wp2_with fail
    go_ret2
    exact ⟨_, by rw [HRES.out.1]; rfl, (Below.refl _ _).alloc (Nat.le_refl _) _, by rw [HRES.out.2]; exact emptyN _ (Nat.le_refl _)⟩
  have hd2 : decide ((4096 : Int) < (t.length : Int)) = false := by simp; omega
  have h12 : ¬ (4096 < LL.length ∨ 4096 < t.length) := by omega
  cases ho : stackOK LL with
  | false =>
    have HRES := Lib.hid (all_code (sn_bad h12 (.inl ho)) (by decide))
    rw [ho] at HOK
    clear h1 h2 h12 ho
    go_enter Tryz.func61, Tryz.ntmps61
    go_wp2_with fail
    refine HOK.mono ?_
    rintro e w1 ⟨rfl, hb1⟩
    have c0 := hb1
    go_wp2_with fail
    go_ret2
    exact ⟨_, by rw [HRES.out.1]; rfl, (c0).alloc c0.size _, by rw [HRES.out.2]; exact emptyN _ c0.size⟩
  | true =>
    rw [ho] at HOK
    have HTK : ∀ w', Below w.heap.size w w' → Calls Tryz.prog 94 #[.slice uA t.length ucap] w' fun e w'' => e = .returned (.bool (treeOK t)) ∧ Below w'.heap.size w' w'' := fun w' hb => l04OK_any _ t w' (hn.below hb).sl htl
    cases hto : treeOK t with
    | false =>
      have HRES := Lib.hid (all_code (sn_bad h12 (.inr hto)) (by decide))
      rw [hto] at HTK
      clear h1 h2 h12 ho hto
      go_enter Tryz.func61, Tryz.ntmps61
      go_wp2_with fail
      refine HOK.mono ?_
      rintro e w1 ⟨rfl, hb1⟩
      go_wp2_with fail
      refine (HTK _ hb1).mono ?_
      rintro e w2 ⟨rfl, hb2⟩
      have c0 := hb1.trans (hb2.mono hb1.size)
      go_wp2_with fail
      go_ret2
      exact ⟨_, by rw [HRES.out.1]; rfl, (c0).alloc c0.size _, by rw [HRES.out.2]; exact emptyN _ c0.size⟩
    | true =>
      have HRES := Lib.hid (all_fine (sn_fine h12 ho hto))
      have HZ0 := Lib.hid (sn_fine h12 ho hto)
      have HTR := Lib.hid (tree_of hto)
      have HLO := Lib.hid ho
      rw [hto] at HTK
      clear h1 h2 h12 ho hto
      go_enter Tryz.func61, Tryz.ntmps61
      go_wp2_with fail
      refine HOK.mono ?_
      rintro e w1 ⟨rfl, hb1⟩
      go_wp2_with fail
      refine (HTK _ hb1).mono ?_
      rintro e w2 ⟨rfl, hb2⟩
      have c0 := hb1.trans (hb2.mono hb1.size)
      have HAP := l05All_any _ _ LL t base w2 (h.below c0) (hn.below c0) (fun l hm => ⟨layer_16 ((stack_of HLO.out).2 l hm), (layer_is ((stack_of HLO.out).2 l hm)).path⟩) HTR.out.sorted HTR.out.is.path (by have h1 := (stack_of HLO.out).1; have h2 := HTR.out.len; omega)
      clear HTK HOK
      go_wp2_with fail
      refine HAP.mono ?_
      rintro e w3 ⟨z, rfl, hb3, hrow, hz⟩
      have c3 := c0.trans (hb3.mono c0.size)
      obtain ⟨zg, zcap, rfl, _, _, _, _⟩ := notnil hrow hz
      have HR := Lib.hid hrow
      clear hrow hz
      by_cases h24 : 24 < (applyAllL LL t).length
      · have hd : decide ((24 : Int) < ((applyAllL LL t).length : Int)) = true := by simp; omega
        have HX : Hid (limC (applyAllL LL t) = 7 ∧ limL (applyAllL LL t) = []) := ⟨if_pos h24, if_pos h24⟩
        clear h24
        go_wp2_with fail
        go_ret2
        exact ⟨_, by rw [HRES.out.1, HX.out.1]; rfl, c3.alloc c3.size _, by rw [HRES.out.2, HX.out.2]; exact emptyN _ c3.size⟩
      · have hd : decide ((24 : Int) < ((applyAllL LL t).length : Int)) = false := by simp; omega
        have HX : Hid (limC (applyAllL LL t) = 0 ∧ limL (applyAllL LL t) = applyAllL LL t) := ⟨if_neg h24, if_neg h24⟩
        clear h24
        go_wp2_with fail
        go_ret2
        exact ⟨_, by rw [HRES.out.1, HX.out.1]; rfl, c3, by rw [HRES.out.2, HX.out.2]; exact HR.out.down c0.size⟩

end Go.Proofs.YtcbmnihepeefaaaGreatDoor.Recs

/- The model's draws: a layer that is like another one is a layer. -/
namespace Go.Proofs.YtcbmnihepeefaaaGreatDoor.Draw
set_option maxRecDepth 100000
open Go.RowKit
open Paths Recs

theorem set_layer {l : List R} (h : layerOK l = true) {k : Nat} (hk : k < l.length) {x : R} (hp : x.p = l[k].p) (hkk : x.k = l[k].k) (hf : x.fault = 0) : layerOK (l.set k x) = true := by
  have h16 := layer_len h
  have hs := layer_sorted h
  have hat : ∀ i (hi : i < l.length), ((l.set k x)[i]'(by simpa using hi)).p = l[i].p ∧ ((l.set k x)[i]'(by simpa using hi)).k = l[i].k := by
    intro i hi
    rw [List.getElem_set]
    by_cases e : k = i
    · subst e
      rw [if_pos rfl]
      exact ⟨hp, hkk⟩
    · rw [if_neg e]
      exact ⟨rfl, rfl⟩
  refine layerOK_of (by simpa using h16) (fun r hr => ?_) ?_ ?_
  · rcases List.mem_or_eq_of_mem_set hr with h1 | h1
    · exact layer_rec h h1
    · rw [h1]; exact hf
  · unfold Sorted
    rw [List.pairwise_iff_getElem]
    intro i j hi hj hij
    have hi' : i < l.length := by simpa using hi
    have hj' : j < l.length := by simpa using hj
    rw [less_path (hat j hj').1, less_path' (hat i hi').1]
    exact sorted_get hs hj' hij
  · intro r hr hpar
    obtain ⟨i, hi, rfl⟩ := List.getElem_of_mem hr
    have hi' : i < l.length := by simpa using hi
    rw [(hat i hi').1] at hpar ⊢
    obtain ⟨y, hy, hyp, hyk⟩ := layer_housed h l[i] (List.getElem_mem hi') hpar
    obtain ⟨j, hj, rfl⟩ := List.getElem_of_mem hy
    exact ⟨(l.set k x)[j]'(by simpa using hj), List.getElem_mem _, (hat j hj).1.trans hyp, (hat j hj).2.trans hyk⟩
theorem take_layer {l : List R} (h : layerOK l = true) (n : Nat) : layerOK (l.take n) = true := by
  have hs := layer_sorted h
  refine layerOK_of (by rw [List.length_take]; have := layer_len h; omega) (fun r hr => layer_rec h (List.mem_of_mem_take hr)) (List.Pairwise.sublist (List.take_sublist _ _) hs) ?_
  intro r hr hp
  obtain ⟨y, hy, hyp, hyk⟩ := layer_housed h r (List.mem_of_mem_take hr) hp
  have hless := parent_less (fault_path (layer_rec h (List.mem_of_mem_take hr))).1 hp
  rw [← hyp] at hless
  obtain ⟨i, hi, rfl⟩ := List.getElem_of_mem hr
  obtain ⟨j, hj, rfl⟩ := List.getElem_of_mem hy
  have hi2 : i < n ∧ i < l.length := by rw [List.length_take] at hi; omega
  have e : (l.take n)[i] = l[i]'hi2.2 := List.getElem_take
  rw [e] at hless
  have hji : j < i := by
    refine Classical.byContradiction fun hn => ?_
    rcases Nat.lt_or_ge i j with h1 | h1
    · have h2 := sorted_get hs hj h1
      unfold lessR at h2
      rw [lessP_asymm _ _ hless] at h2
      cases h2
    · have h3 : i = j := by omega
      subst h3
      rw [lessP_irrefl] at hless
      cases hless
  refine ⟨l[j], ?_, by rw [e]; rw [e] at hyp; exact hyp, hyk⟩
  exact List.mem_take_iff_getElem.2 ⟨j, by omega, rfl⟩
theorem flip_fault {r : R} (h : r.fault = 0) (hk : r.k = 3) (o : Bool) : R.fault { r with o := o } = 0 := by
  unfold R.fault at h ⊢
  unfold faultI at h ⊢
  dsimp only at h ⊢
  rw [hk] at h ⊢
  split at h
  · cases h
  split at h
  · cases h
  split at h
  · cases h
  split at h
  · cases h
  split at h
  · cases h
  rename_i a1 a2 a3 a4 a5
  rw [if_neg a1, if_neg a2, if_neg a3, if_neg (fun hh => by
    rcases hh with hh | hh
    · exact a4 (.inl hh)
    · exact hh.2 rfl), if_neg a5]
theorem body_fault {r : R} (h : r.fault = 0) (hk : r.k = 1) {b : ByteArray} (hb : b.size ≤ 20) : R.fault { r with b := b } = 0 := by
  unfold R.fault at h ⊢
  unfold faultI at h ⊢
  dsimp only at h ⊢
  rw [hk] at h ⊢
  split at h
  · cases h
  split at h
  · cases h
  split at h
  · cases h
  split at h
  · cases h
  split at h
  · cases h
  rename_i a1 a2 a3 a4 a5
  rw [if_neg a1, if_neg a2, if_neg (by omega), if_neg (fun hh => by
    rcases hh with hh | hh
    · omega
    · exact a4 (.inr hh)), if_neg a5]
theorem sl_take {w : World} {A : Option Addr} {cap : Nat} {l : List R} (h : RecSl w (.slice A l.length cap) l) {k : Nat} (hk : k ≤ l.length) : RecSl w (.slice A k cap) (l.take k) := by
  obtain ⟨A', c, e, hc, h⟩ := h
  cases e
  have hl : (l.take k).length = k := by rw [List.length_take]; omega
  refine ⟨A, cap, by rw [hl], by rw [hl]; omega, fun h0 => ?_⟩
  obtain ⟨b, off, e, hb, hcell⟩ := h (by omega)
  refine ⟨b, off, e, hb, fun i r hi => hcell i r ?_⟩
  have hik : i < k := by have := (List.getElem?_eq_some_iff.1 hi).1; omega
  rw [List.getElem?_take_of_lt hik] at hi
  exact hi

def AkinPost (w : World) (B g m : Nat) (e : Ending) (w' : World) : Prop := ∃ v L, e = .returned v ∧ layerOK L = true ∧ Went w w' B g m ∧ RecSl w' v L
theorem AkinPost.mk {w w' : World} {B g m m' : Nat} {v : Value} {L : List R} (hw : Went w w' B g m) (hm : m ≤ m') (hm' : m' ≤ 1000000) (hok : layerOK L = true) (hs : RecSl w' v L) : AkinPost w B g m' (.returned v) w' := ⟨v, L, rfl, hok, hw.more hm hm', hs⟩

set_option maxHeartbeats 4000000 in
theorem akin_any (w : World) (B g m lg lcap : Nat) (l : List R) (h : Src w B g m) (hm : m + 10 ≤ 1000000) (hok : layerOK l = true) (hsrc : ∀ j u, (flat l)[j]? = some u → w.cell? ((⟨lg, 0, none⟩ : Addr).add j) = some u) :
    Calls Tryz.prog 135 #[.pointer (some ⟨g, 0, none⟩), .slice (some ⟨lg, 0, none⟩) l.length lcap] w (AkinPost w B g (m + 10)) := by
  obtain ⟨i0, hi, hI0, hI1, hI2⟩ := info_parts recInfo
  have hgl := h.lt
  have hl16 := layer_len hok
  have HOK := Lib.hid hok
  have HSR := Lib.hid h
  have hE0 : (w.alloc (.cells #[] 26)).ownsRow w.heap.size 26 5 (.slice (some ⟨w.heap.size, 0, none⟩) 0 0) 0 [] := World.ownsRow_lit w #[] 0 (Nat.le_refl _) (Nat.zero_le _) rfl
  have eA : Below w.heap.size w (w.alloc (.cells #[] 26)) := (Below.refl _ _).alloc (Nat.le_refl _) _
  have hnews : ∀ j u, (flat l)[j]? = some u → (w.alloc (.cells #[] 26)).cell? ((⟨lg, 0, none⟩ : Addr).add j) = some u := fun j u hj => cell?_alloc_old _ (hsrc j u hj)
  have hfl := flat_len l
  have hone := flat_one l
  clear h hok hsrc
  go_enter Tryz.func135, Tryz.ntmps135
  go_upto_region 2 with (first
    | (at_builtin; refine wpList_append_own _ rfl _ _ 45 rfl w.heap.size 26 i0 (.agg #[.int .i64 0, .string ByteArray.empty, .string ByteArray.empty, .int .i64 0, .bool false]) 5 56 Tryz.underlying45 hi hI0 hI1 hI2 rfl (by decide) _ _ _ rfl hE0 ⟨lg, 0, none⟩ l.length lcap (flat l) rfl hfl hnews hone (by unfold maxLen; omega) (by omega) eA.size ?_; intro v' w1 hown' hgrow9 hnil9))
  have hrow1 : RowOf w1 w.heap.size v' l.length l := ⟨rfl, by simpa using hown'⟩
  have hne1 : v' ≠ .slice none 0 0 := fun e => by have := (hnil9.1 e).1; cases this
  obtain ⟨g1, cap1, rfl⟩ := hrow1.atom hne1
  have b1 : Below w.heap.size w w1 := eA.grown hgrow9 eA.size (fun j hj => (hE0.lt j hj).1)
  have HS1 := Lib.hid (HSR.out.below b1)
  have HW1 := Lib.hid ((Went.refl HSR.out).below b1)
  have HR1 := Lib.hid hrow1
  clear hown' hgrow9 hnil9 hne1 hE0 eA hnews hfl hone hrow1
  by_cases hz : l.length = 0
  · have hd : ((l.length : Int) == 0) = true := beq_iff_eq.2 (by omega)
    have hd2 : (l.length == 0) = true := beq_iff_eq.2 hz
    have HZ := Lib.hid hz
    clear hz
    go_wp2_with fail
    go_ret
    exact AkinPost.mk HW1.out (by omega) (by omega) HOK.out HR1.out.sl
  have hd : ((l.length : Int) == 0) = false := beq_eq_false_iff_ne.2 (by omega)
  have hd2 : (l.length == 0) = false := beq_eq_false_iff_ne.2 hz
  have HN1 := next_small w1 B g m (l.length : Int) HS1.out (by omega) (by omega)
  go_wp2_with fail
  refine HN1.mono ?_
  rintro e w2 ⟨k, hk, rfl, hw2⟩
  have hkl : k < l.length := by omega
  have HW2 := Lib.hid (HW1.out.trans hw2)
  have HR2 := Lib.hid (row_went HR1.out hw2 hgl)
  clear hk hw2 HN1 HW1 HR1 HS1
  have HN2 := next_small w2 B g (m + 1) 6 HW2.out.1 (by omega) (by omega)
  go_wp2_with fail
  refine HN2.mono ?_
  rintro e w3 ⟨K, hK, rfl, hw3⟩
  have hK6 : K < 6 := by omega
  have HW3 := Lib.hid (HW2.out.trans hw3)
  have HR3 := Lib.hid (row_went HR2.out hw3 hgl)
  clear hK hw3 HN2 HW2 HR2
  have hk1 : (k : Int) < (l.length : Int) := by omega
  have hk0 : (0 : Int) ≤ (k : Int) := by omega
  have hm2 : m + 1 + 1 ≤ m + 10 := by omega
  have hlk := Lib.hid (layer_rec HOK.out (List.getElem_mem hkl))
  obtain ⟨c0, c1, c2, c3, c4⟩ := HR3.out.cells hkl
  have hfz := HR3.out.frozen
  match K, hK6 with
  | 0, _ =>
    have HCN := l03Canon_any _ l w3 HR3.out.sl HOK.out
    go_wp2_with fail
    refine HCN.mono ?_
    rintro e w4 ⟨x, rfl, hb4, hx⟩
    go_wp2_with fail
    go_ret
    exact AkinPost.mk (HW3.out.below hb4) (by omega) (by omega) (canon_layer HOK.out) hx.sl
  | 1, _ =>
    by_cases h3 : l[k].k = 3
    · have q3 : (l[k].k == 3) = true := by simp [h3]
      obtain ⟨HF1, HF2⟩ := HR3.out.field (i := k) (c := 4) (r := { l[k] with o := !l[k].o }) (u := .bool (!l[k].o)) hkl (by omega) rfl
      have HFL := Lib.hid (set_layer HOK.out hkl (x := { l[k] with o := !l[k].o }) rfl rfl (flip_fault hlk.out h3 _))
      have HF := Lib.hid HF1
      have HG : Hid (Went w (w3.setCell ⟨g1, k * 5 + 4, none⟩ (.bool (!l[k].o))) B g (m + 1 + 1)) := HW3.out.setNew (HR3.out.2.lt g1 rfl).1 hgl _
      clear HF1 HF2 h3
      go_wp2_with fail
      go_ret
      exact AkinPost.mk HG.out (by omega) (by omega) HFL.out HF.out.sl
    · have q3 : (l[k].k == 3) = false := by simp [h3]
      clear h3
      go_wp2_with fail
      go_ret
      exact AkinPost.mk HW3.out (by omega) (by omega) HOK.out HR3.out.sl
  | 2, _ =>
    have hw1 : IntKind.i64.wrap ((l.length : Int) - 1) = ((l.length - 1 : Nat) : Int) := by rw [IntKind.wrap_i64]; omega
    have hw2 : (l.length : Int) - 1 = ((l.length - 1 : Nat) : Int) := by omega
    have hcp : l.length ≤ cap1 := by
      obtain ⟨_, _, e, hc, _⟩ := HR3.out.sl
      cases e
      exact hc
    have hi2 : ((l.length - 1 : Nat) : Int) ≤ (cap1 : Int) := by omega
    have hi3 : (0 : Int) ≤ ((l.length - 1 : Nat) : Int) := by omega
    have HTK := Lib.hid (sl_take HR3.out.sl (k := l.length - 1) (by omega))
    go_wp2_with fail
    go_ret
    exact AkinPost.mk HW3.out (by omega) (by omega) (take_layer HOK.out _) HTK.out
  | 3, _ =>
    have hp := (fault_path hlk.out).1
    have HRC := record_any w3 B g _ l[k].p hp HW3.out.1 (by omega)
    go_wp2_with fail
    refine HRC.mono ?_
    rintro e w5 ⟨rk, rm, rb, ro, hf, -, rfl, hw5⟩
    have HW5 := Lib.hid (HW3.out.trans hw5)
    have HR5 := Lib.hid (row_went HR3.out hw5 hgl)
    have HF := Lib.hid (fault_i hf)
    have HPU := l03Put_any 4 _ l ⟨rk, rm, l[k].p, rb, ro⟩ w5 HR5.out.sl (layer_lays HOK.out) HF.out (pathB_parts hp).1 (by omega)
    unfold R.val at HPU
    clear hw5 hf c0 c1 c2 c3 c4 hfz HRC
    go_wp2_with fail
    refine HPU.mono ?_
    rintro e w6 ⟨x, rfl, hb6, hrow6, -⟩
    obtain ⟨xA, xcap, rfl⟩ := hrow6.form
    have HR6 := Lib.hid hrow6
    have HW6 := Lib.hid (HW5.out.below hb6)
    have HR56 := Lib.hid (HR5.out.below hb6)
    clear hrow6 HPU
    by_cases h16 : (lputF 4 l ⟨rk, rm, l[k].p, rb, ro⟩).length ≤ 16
    · have hd3 : decide (((lputF 4 l ⟨rk, rm, l[k].p, rb, ro⟩).length : Int) ≤ 16) = true := by simp; omega
      have HO2 : Hid (layerOK (lputF 4 l ⟨rk, rm, l[k].p, rb, ro⟩) = true) := lput_layer HOK.out HF.out h16
      clear h16
      go_wp2_with fail
      go_ret
      exact AkinPost.mk HW6.out (by omega) (by omega) HO2.out HR6.out.sl
    · have hd3 : decide (((lputF 4 l ⟨rk, rm, l[k].p, rb, ro⟩).length : Int) ≤ 16) = false := by simp; omega
      clear h16
      go_wp2_with fail
      go_ret
      exact AkinPost.mk HW6.out (by omega) (by omega) HOK.out HR56.out.sl
  | 4, _ =>
    by_cases h1 : l[k].k = 1
    · have q1 : (l[k].k == 1) = true := by simp [h1]
      obtain ⟨HF1, HF2⟩ := HR3.out.field (i := k) (c := 2) (r := { l[k] with b := ⟨#[111, 116, 104, 101, 114]⟩ }) (u := .string ⟨#[111, 116, 104, 101, 114]⟩) hkl (by omega) rfl
      have HFL := Lib.hid (set_layer HOK.out hkl (x := { l[k] with b := ⟨#[111, 116, 104, 101, 114]⟩ }) rfl rfl (body_fault hlk.out h1 (by decide)))
      have HF := Lib.hid HF1
      have HG : Hid (Went w (w3.setCell ⟨g1, k * 5 + 2, none⟩ (.string ⟨#[111, 116, 104, 101, 114]⟩)) B g (m + 1 + 1)) := HW3.out.setNew (HR3.out.2.lt g1 rfl).1 hgl _
      clear HF1 HF2 h1
      go_wp2_with fail
      go_ret
      exact AkinPost.mk HG.out (by omega) (by omega) HFL.out HF.out.sl
    · have q1 : (l[k].k == 1) = false := by simp [h1]
      clear h1
      go_wp2_with fail
      go_ret
      exact AkinPost.mk HW3.out (by omega) (by omega) HOK.out HR3.out.sl
  | 5, _ =>
    go_wp2_with fail
    go_ret
    exact AkinPost.mk HW3.out (by omega) (by omega) HOK.out HR3.out.sl

set_option maxHeartbeats 400000 in
theorem akinDrawn_any (w : World) (A : Option Addr) (n cap lg lcap base : Nat) (l : List R) (hB : Byts w w.heap.size A n) (hn : n ≤ cap) (hok : layerOK l = true) (hr : RowOf w base (.slice (some ⟨lg, 0, none⟩) l.length lcap) l.length l) :
    Calls Tryz.prog 50 #[.slice A n cap, .slice (some ⟨lg, 0, none⟩) l.length lcap] w fun e w' => ∃ v L, e = .returned v ∧ layerOK L = true ∧ Below w.heap.size w w' ∧ RecSl w' v L := by
  have HB := Lib.hid hB
  have HR := Lib.hid hr
  have HOK := Lib.hid hok
  clear hB hr hok
  go_enter Tryz.func50, Tryz.ntmps50
  go_wp2_with fail
  refine (source_any w A n cap HB.out hn).mono ?_
  rintro e w1 ⟨rfl, hs1, hb1⟩
  have HAK := akin_any w1 w.heap.size w.heap.size 0 lg lcap l hs1 (by omega) HOK.out (HR.out.below hb1).srcs
  clear hs1
  go_wp2_with fail
  refine HAK.mono ?_
  rintro e w2 ⟨v, L, rfl, hok, hw2, hsl⟩
  have HL := Lib.hid hok
  have HS := Lib.hid hsl
  have HB2 := Lib.hid (hb1.trans (hw2.belowB hb1.size))
  obtain ⟨vA, vcap, rfl, -⟩ := hsl
  clear hok hw2
  go_wp2_with fail
  go_ret
  exact ⟨_, L, rfl, HL.out, HB2.out, HS.out⟩
end Go.Proofs.YtcbmnihepeefaaaGreatDoor.Draw
