/- For every list of records and every list of nodes FnExactUndoOf answers true: UndoOf of the program answers as its model does, in memory of its own, and the lists read as they did. Conditions: the table of kinds and the two sentinels hold what their own initialisers lay (tied to the program's text by the given tie). -/
import Derived.Test.YtciflchaepchiabGreatDoorUA10
import Derived.Test.YtciflchaepchiabGreatDoorUA11
import Derived.Test.YtciflchaepchiabGreatDoorUA12
import Derived.Test.YtciflchaepchiabGreatDoorUA14
import Derived.Test.YtciflchaepchiabGreatDoorUA16
import Derived.Test.YtciflchaepchiabGreatDoorUA17
import Derived.Test.YtciflchaepchiabGreatDoorUA19
import Derived.Test.YtciflchaepchiabGreatDoorUA21
import Derived.Test.YtciflchaepchiabGreatDoorUA23
import Derived.Test.YtciflchaepchiabGreatDoorUA25
import Derived.Test.YtciflchaepchiabGreatDoorUA27
import Derived.Test.YtciflchaepchiabGreatDoorUA28
import Derived.Test.YtciflchaepchiabGreatDoorUA29
import Derived.Test.YtciflchaepchiabGreatDoorUA3
import Derived.Test.YtciflchaepchiabGreatDoorUA32
import Derived.Test.YtciflchaepchiabGreatDoorUA34
import Derived.Test.YtciflchaepchiabGreatDoorUA4
import Derived.Test.YtciflchaepchiabGreatDoorUA6
import Derived.Test.YtciflchaepchiabGreatDoorUA8
import Derived.Test.YtciflchaepchiabGreatDoorUC1
import Derived.Test.YtciflchaepchiabGreatDoorUC2
import Derived.Test.YtciflchaepchiabGreatDoorCards
import Derived.Test.YtciflchaepchiabGreatDoorTie
import Derived.Deep.RegionHeld3
import Derived.WalkKit
import Derived.ProofKit
import Derived.OpenShut
import Derived.ShutString
import Derived.ChangeOld
import Derived.ChangeVars
import Derived.OpenVars
import Derived.Below
import Derived.Lay
import Derived.LaidMore
import Derived.Stop.Joined
import Derived.SevenTiedAt
import Derived.Deep.DeepHandedRow
import Derived.Lib.LaidTab
import Derived.Maps.OwnIn
import Derived.Deep.Slices
import Derived.ChangeArms
import Derived.WideShapes
import Derived.BigQuiet
import Derived.Deep.QuietTactic
import Derived.StillTailTactics
import Derived.Deep.Draws
import Derived.Deep.LoopGhost
import Derived.Test.YtciflchaepchiabGreatDoorChecked
import Derived.WalkSpells
import Derived.WalkSmall
import Derived.Lib.OthersKept
import Derived.Lib.Hide
import Derived.Lib.Strings
import Derived.Lib.Join
import Derived.WalkLawsBesides
import Derived.Test.YtciflchaepchiabGreatDoorShelf
import Derived.Laws.BytesArg
import Derived.Laws.OwnMore
import Derived.BigRegion
import Derived.Stop.LaidErr
import Derived.Test.YtciflchaepchiabGreatDoorProg
import Derived.LaidEql
import Derived.Stop.Asserts
import Derived.Stop.LaidTwo
import Derived.Deep.RegionWith
import Derived.Laws.AppendOwnNone
import Derived.RegionTactic
import Derived.RangeFuncNested
import Derived.RangeFuncBound
import Derived.RangeFuncCalls
import Derived.RangeFuncLeaves
import Derived.RangeFuncBox
import Derived.Shelf.Abstract
import Derived.Shelf.RegionOpen
import Derived.OwnWalkIn
import Derived.TacticsInMore
import Derived.LoopNIn
import Derived.LoopIn
import Derived.Test.YtciflchaepchiabGreatDoorRows
import Derived.OneCell
import Derived.Lib.SliceRun
import Derived.Lib.Overlaps
import Derived.Lib.AppendZerosOnto
import Derived.Laws.NewBlocks
import Derived.Laws.IdiomCopy
import Derived.Deep.RegionLaw
import Derived.Laws.IdiomRangeMap
import Derived.Maps.RangeWalk
import Derived.Maps.Ext
import Derived.Lib.SlMapFilter
import Derived.Deep.AppendLies
import Derived.Laws.EntriesVeiled
import Derived.Shelf.SlSortCmp.NoneTotal
import Derived.Test.YtciflchaepchiabGreatDoorShelf2
import Derived.Sort.OwnSorted
import Derived.Maps.AppendAt
import Derived.Sort.MapsRangeIn
import Derived.Sort.KeysCollected
import Derived.Sort.Grow
namespace Go.Proofs.YtciflchaepchiabGreatDoor.LawUndoOf
open Go.ChangeShapes Go.WideShapes Go.ChangeAt Go.RowKit
open Go.ChangeMaps (open_string shut_string)
open Recs Paths
set_option linter.unusedVariables false
set_option maxRecDepth 100000

set_option maxHeartbeats 3200000 in
theorem walk (v0 : Value) (l : List R) (v1 : Value) (t : List R) (w : World) (h0 : RecSl w v0 l) (hlm0 : l.length ≤ maxLen) (hs0 : ∀ r ∈ l, r.p.size ≤ maxLen ∧ r.b.size ≤ maxLen) (h1 : NodSl w v1 t) (hlm1 : t.length ≤ maxLen) (hs1 : ∀ r ∈ t, r.p.size ≤ maxLen ∧ r.b.size ≤ maxLen) (hT : ∃ x y, Three w x y) :
    Calls Tryz.prog 3 #[v0, v1] w fun e w' => e = .returned (.bool true) ∧ Below w.heap.size w w' := by
  obtain ⟨x, y, hT⟩ := hT
  have HZ := szRecordS_sum v0 l 1048576 w h0 hlm0 hs0 (Nat.le_refl _)
  go_enter Tryz.func3, Tryz.ntmps3
  go_wp2_with fail
  refine (HZ).mono ?_
  rintro e w1 (⟨z, hz, rfl, hb1⟩ | ⟨z0, hz0, rfl, hb1⟩)
  · have hd : decide (z < 0) = true := by simpa using hz
    go_wp2_with fail
    go_ret
    exact ⟨rfl, hb1⟩
  have hd0 : decide ((z0 : Int) < 0) = false := by simp
  have c1 := hb1
  have hl0 : l.length ≤ 1048576 := by omega
  go_wp2_with fail
  refine (szNodeS_any v1 t z0 _ (h1.below c1) hlm1 hs1 (by omega)).mono ?_
  rintro e w2 (⟨z, hz, rfl, hb2⟩ | ⟨z1, hz1, hl1, rfl, hb2⟩)
  · have hd : decide (z < 0) = true := by simpa using hz
    go_wp2_with fail
    go_ret
    exact ⟨rfl, c1.trans (hb2.mono c1.size)⟩
  have hd1 : decide ((z1 : Int) < 0) = false := by simp
  have c2 := c1.trans (hb2.mono c1.size)
  have hcl : (unR l t).length ≤ 1048576 := un_len l t
  go_wp2_with fail
  refine (toRecordS_any v0 l _ (h0.below c2) hl0).mono ?_
  rintro e w3 ⟨y0, rfl, hb3, hy0⟩
  have c3 := c2.trans (hb3.mono c2.size)
  go_wp2_with fail
  refine (toNodeS_some v1 t _ (h1.below c3) hl1).mono ?_
  rintro e w4 ⟨y1, rfl, hb4, hy1, _⟩
  have c4 := c3.trans (hb4.mono c3.size)
  replace hy0 := hy0.below hb4
  go_wp2_with fail
  refine (UndoOf_spec y0 y1 l t _ _ hy0.sl hy1 hl0 hl1).mono ?_
  rintro e w5 ⟨s, rfl, hb5, hs00⟩
  have c5 := c4.trans (hb5.mono c4.size)
  have hsL : ∀ k, s.ownBlock = some k → k < w5.heap.size := fun k hk => (hs00.2.lt k hk).2
  go_wp2_with fail
  refine (toRecordS_any v0 l _ (h0.below c5) hl0).mono ?_
  rintro e w6 ⟨x0, rfl, hb6, hx0⟩
  have c6 := c5.trans (hb6.mono c5.size)
  replace hs00 := hs00.below hb6
  have sz0 : w5.heap.size ≤ w6.heap.size := hb6.size
  have hxL0 : ∀ k, x0.ownBlock = some k → w5.heap.size ≤ k ∧ k < w6.heap.size := fun k hk => hx0.2.lt k hk
  go_wp2_with fail
  refine (toNodeS_some v1 t _ (h1.below c6) hl1).mono ?_
  rintro e w7 ⟨x1, rfl, hb7, hx1, _⟩
  have c7 := c6.trans (hb7.mono c6.size)
  replace hs00 := hs00.below hb7
  replace hx0 := hx0.below hb7
  have sz1 : w6.heap.size ≤ w7.heap.size := hb7.size
  have hxL1 : ∀ k, x1.ownBlock = some k → w6.heap.size ≤ k ∧ k < w7.heap.size := fun k hk => hx1.2.1.lt k hk
  go_wp2_with fail
  refine (UndoOf_impl x0 x1 l t x y _ hx0.sl hx1.sl hl0 hl1 (fun r hm => (hs0 r hm).1) (fun r hm => (hs1 r hm).1) (hT.below c7 (Nat.le_refl _))).mono ?_
  rintro e w8 ⟨f, rfl, hb8, hf0⟩
  have c8 := c7.trans (hb8.mono c7.size)
  replace hs00 := hs00.below hb8
  replace hx0 := hx0.below hb8
  replace hx1 := hx1.below hb8
  have hfL : ∀ k, f.ownBlock = some k → w7.heap.size ≤ k := fun k hk => (hf0.2.lt k hk).1
  go_wp2_with fail
  refine (eqRecordS_same f s (unR l t) _ hf0.sl hs00.sl hcl).mono ?_
  rintro e w9 ⟨rfl, hb9⟩
  have c9 := c8.trans (hb9.mono c8.size)
  replace hs00 := hs00.below hb9
  replace hx0 := hx0.below hb9
  replace hx1 := hx1.below hb9
  replace hf0 := hf0.below hb9
  go_wp2_with fail
  refine (toRecordS_any v0 l _ (h0.below c9) hl0).mono ?_
  rintro e w10 ⟨x0', rfl, hb10, hx0'⟩
  have c10 := c9.trans (hb10.mono c9.size)
  replace hs00 := hs00.below hb10
  replace hx0 := hx0.below hb10
  replace hx1 := hx1.below hb10
  replace hf0 := hf0.below hb10
  go_wp2_with fail
  refine (eqRecordS_same x0 x0' l _ hx0.sl hx0'.sl hl0).mono ?_
  rintro e w11 ⟨rfl, hb11⟩
  have c11 := c10.trans (hb11.mono c10.size)
  replace hs00 := hs00.below hb11
  replace hx0 := hx0.below hb11
  replace hx1 := hx1.below hb11
  replace hf0 := hf0.below hb11
  go_wp2_with fail
  refine (toNodeS_some v1 t _ (h1.below c11) hl1).mono ?_
  rintro e w12 ⟨x1', rfl, hb12, hx1', _⟩
  have c12 := c11.trans (hb12.mono c11.size)
  replace hs00 := hs00.below hb12
  replace hx0 := hx0.below hb12
  replace hx1 := hx1.below hb12
  replace hf0 := hf0.below hb12
  go_wp2_with fail
  refine (eqNodeS_same x1 x1' t _ hx1.sl hx1'.sl hl1).mono ?_
  rintro e w13 ⟨rfl, hb13⟩
  have c13 := c12.trans (hb13.mono c12.size)
  replace hs00 := hs00.below hb13
  replace hx0 := hx0.below hb13
  replace hx1 := hx1.below hb13
  replace hf0 := hf0.below hb13
  go_wp2_with fail
  refine (markRecordS_any x0 _ _ _ (1 : Int) _ hx0 (by omega) (by omega)).mono ?_
  rintro e w14 ⟨rfl, hm14, hg14⟩
  have hbt14 : Betw w5.heap.size w6.heap.size w13 w14 := betw_of hg14 hxL0
  clear hm14 hg14
  have c14 : Below w.heap.size w w14 := Betw.below c13 hbt14 c5.size c13.size
  replace hs00 := hbt14.recs hs00 (fun k hk => by have := hsL k hk; omega)
  replace hf0 := hbt14.recs hf0 (fun k hk => by have := hfL k hk; omega)
  replace hx1 := hbt14.nods hx1 (fun k hk => by have := hxL1 k hk; omega)
  clear hbt14
  go_wp2_with fail
  refine (markNodeS_any x1 _ _ _ ((1 : Int) + 5 * (l.length : Int)) _ hx1 (by omega) (by omega)).mono ?_
  rintro e w15 ⟨rfl, hm15, hg15⟩
  have hbt15 : Betw w6.heap.size w7.heap.size w14 w15 := betw_of hg15 hxL1
  clear hm15 hg15
  have c15 : Below w.heap.size w w15 := Betw.below c14 hbt15 c6.size c14.size
  replace hs00 := hbt15.recs hs00 (fun k hk => by have := hsL k hk; omega)
  replace hf0 := hbt15.recs hf0 (fun k hk => by have := hfL k hk; omega)
  clear hbt15
  have hdK : decide (((1 : Int) + 5 * (l.length : Int)) + 4 * (t.length : Int) < 0) = false := by simp; omega
  go_wp2_with fail
  refine (eqRecordS_same f s (unR l t) _ hf0.sl hs00.sl hcl).mono ?_
  rintro e w16 ⟨rfl, hb16⟩
  have c16 := c15.trans (hb16.mono c15.size)
  replace hs00 := hs00.below hb16
  replace hf0 := hf0.below hb16
  go_wp2_with fail
  refine (markRecordS_any f _ _ _ 1 _ hf0 (by omega) (by omega)).mono ?_
  rintro e w17 ⟨rfl, hfm, hg17⟩
  have hbt17 : Betw w7.heap.size w16.heap.size w16 w17 := betw_of hg17 (fun k hk => ⟨hfL k hk, (hf0.2.lt k hk).2⟩)
  have c17 : Below w.heap.size w w17 := Betw.below c16 hbt17 c7.size c16.size
  replace hs00 := hbt17.recs hs00 (fun k hk => by have := hsL k hk; omega)
  clear hg17 hbt17 hf0
  go_wp2_with fail
  refine (heldRecordS_any f _ _ 1 _ hfm (by omega) (by omega)).mono ?_
  rintro e w18 ⟨rfl, hb18⟩
  have c18 := c17.trans (hb18.mono c17.size)
  replace hs00 := hs00.below hb18
  replace hfm := hfm.below hb18
  have hdH : decide ((1 : Int) + 5 * ((unR l t).length : Int) < 0) = false := by simp; omega
  go_wp2_with fail
  refine (toRecordS_any v0 l _ (h0.below c18) hl0).mono ?_
  rintro e w19 ⟨u0, rfl, hb19, hu0⟩
  have c19 := c18.trans (hb19.mono c18.size)
  replace hs00 := hs00.below hb19
  replace hfm := hfm.below hb19
  go_wp2_with fail
  refine (toNodeS_some v1 t _ (h1.below c19) hl1).mono ?_
  rintro e w20 ⟨u1, rfl, hb20, hu1, _⟩
  have c20 := c19.trans (hb20.mono c19.size)
  replace hs00 := hs00.below hb20
  replace hfm := hfm.below hb20
  replace hu0 := hu0.below hb20
  go_wp2_with fail
  refine (UndoOf_impl u0 u1 l t x y _ hu0.sl hu1.sl hl0 hl1 (fun r hm => (hs0 r hm).1) (fun r hm => (hs1 r hm).1) (hT.below c20 (Nat.le_refl _))).mono ?_
  rintro e w21 ⟨f', rfl, hb21, hf'⟩
  have c21 := c20.trans (hb21.mono c20.size)
  replace hs00 := hs00.below hb21
  replace hfm := hfm.below hb21
  go_wp2_with fail
  refine (eqRecordS_same f' s (unR l t) _ hf'.sl hs00.sl hcl).mono ?_
  rintro e w22 ⟨rfl, hb22⟩
  have c22 := c21.trans (hb22.mono c21.size)
  replace hs00 := hs00.below hb22
  replace hfm := hfm.below hb22
  replace hf' := hf'.below hb22
  go_wp2_with fail
  refine (heldRecordS_any f _ _ 1 _ hfm (by omega) (by omega)).mono ?_
  rintro e w23 ⟨rfl, hb23⟩
  go_wp2_with fail
  go_ret
  exact ⟨rfl, c22.trans (hb23.mono c22.size)⟩

theorem own : ownKnob Tryz.prog.godebug = none := by kernel_rfl
theorem laidOut : laidOutB Tryz.prog = true := by kernel_rfl

theorem contract (H : Type) (enc : TypeId × Value → H) (W : World) (base : Nat) (args : Array Value) (ds gs : List (DataW H)) (before : List MemPlace)
    (hval : ∀ (j : Nat) t v, Tryz.f3.params[j]? = some t → args[j]? = some v → Value.okWide Tryz.prog W .any base t v)
    (hW : DataW.Whole enc Tryz.prog Tryz.f3.params.toList Rows.fnExactUndoOfSpec.vars false W args.toList ds gs before) (hL : laidMetH Tryz.prog Rows.fnExactUndoOfRow.laid W) :
    Calls Tryz.prog 3 args W fun e W' => ∃ v, e = .returned v ∧ Rows.fnExactUndoOfSpec.post enc Tryz.prog Tryz.f3 false true false false W args v W' := by
  have hW' := hW
  obtain ⟨p, q, hA0, hV, rfl, hfz, hnd⟩ := hW
  have hA : DataW.TrodAll enc Tryz.prog W 0 (fun _ => true) true Tryz.f3.params.toList args.toList ds p := hA0
  rw [Tryz.params3] at hA hval
  obtain ⟨v0, vs0, d0, ds0, p0, q0, hargs, rfl, rfl, h0, r0⟩ := trodAll_cons hA
  obtain ⟨v1, vs1, d1, ds1, p1, q1, rfl, rfl, rfl, h1, r1⟩ := trodAll_cons r0
  obtain ⟨rfl, rfl, rfl⟩ := trodAll_nil r1
  obtain rfl : args = #[v0, v1] := by cases args; simp_all
  have k0 := h0
  have lt0 : ∀ x ∈ p0, x.block < W.heap.size := by obtain ⟨m, hm⟩ := k0; exact DataW.trod_lt m _ _ _ hm
  obtain ⟨a0, len0, cap0, rfl⟩ := okWide_slice Tryz.underlying22 (hval 0 22 v0 rfl rfl)
  obtain ⟨f0, hf0⟩ := h0
  obtain ⟨u0, L0, e0, hsl0, hlen0, hs0⟩ := Recs.open_recs Tryz.underlying22 hf0
  obtain rfl : Value.slice a0 len0 cap0 = u0 := by simpa [Value.cells] using e0
  have k1 := h1
  have lt1 : ∀ x ∈ p1, x.block < W.heap.size := by obtain ⟨m, hm⟩ := k1; exact DataW.trod_lt m _ _ _ hm
  obtain ⟨a1, len1, cap1, rfl⟩ := okWide_slice Tryz.underlying23 (hval 1 23 v1 rfl rfl)
  obtain ⟨f1, hf1⟩ := h1
  obtain ⟨u1, L1, e1, hsl1, hlen1, hs1⟩ := Recs.open_nods Tryz.underlying23 hf1
  obtain rfl : Value.slice a1 len1 cap1 = u1 := by simpa [Value.cells] using e1
  clear hA0 hA
  obtain ⟨g0, g1, g2, rfl⟩ := Recs.vars3 hV
  have hT := Recs.laid3 hL
  refine (walk _ L0 _ L1 W hsl0 hlen0 hs0 hsl1 hlen1 hs1 hT).mono fun e W' ⟨he, bel⟩ => ?_
  subst he
  have hv' := bel.trodVars (enc := enc) laidOut (by kernel_rfl) hV
  exact ⟨_, rfl, _, _, _, [], _, _, hW', trodAll_mk1 (shut_bool Tryz.underlying4 _), (trodAll_cons_mk (Below.trod laidOut (by kernel_rfl) (of_decide_eq_true (by kernel_rfl)) k0 bel lt0) (trodAll_cons_mk (Below.trod laidOut (by kernel_rfl) (of_decide_eq_true (by kernel_rfl)) k1 bel lt1) trodAll_mk0)), hv', bel.frame _, fun h => by cases h⟩

theorem laid_met (os : Os) : laidMetH Tryz.prog Rows.fnExactUndoOfRow.laid ((World.laidAll Tryz.prog os Rows.fnExactUndoOfRow.laid).forCall (fun _ _ => 0) ⟨#[], #[.slice none 0 0, .slice none 0 0], []⟩).memory := by
  rw [MakeChecks.laidMetH_plain _ _ _ (by kernel_rfl)]
  exact laidMet_laidAll _ (by kernel_rfl) (by kernel_rfl)

set_option maxRecDepth 100000 in
theorem lifted (os : Os) (started : os.Started) (H : Type) (enc : TypeId × Value → H) :
    ReturnsInHanded {} Tryz.checked os 3 .any (fun w args => (Rows.fnExactUndoOfSpec.pre enc Tryz.prog Tryz.f3 Rows.fnExactUndoOfRow.domain false w args ∧ laidMetH Tryz.prog Rows.fnExactUndoOfRow.laid w) ∧ sizedMet enc Tryz.prog Tryz.f3 (OpenSpec.ofChange Rows.fnExactUndoOfSpec) false w args)
      (Rows.fnExactUndoOfSpec.post enc Tryz.prog Tryz.f3 false true false false) := by
  refine returnsInHanded_of_change_and (C := Tryz.checked) (X := fun w _ => laidMetH Tryz.prog Rows.fnExactUndoOfRow.laid w) (fun _ _ _ hh h => h.of_heap hh) own started (by kernel_rfl) Tryz.func3
    (ChangeSpec.witness_shaped (enc := enc) (C := Tryz.checked) (os := os) (X := fun w _ => laidMetH Tryz.prog Rows.fnExactUndoOfRow.laid w) false (World.laidAll Tryz.prog os Rows.fnExactUndoOfRow.laid) #[.slice none 0 0, .slice none 0 0] 8 (World.laidAll_os _ _ _)
      (World.shaped_of_ZipB (by kernel_rfl) (by kernel_rfl)) (by kernel_rfl) (by kernel_rfl) (by kernel_rfl)
      (laid_met os)) ?_
  intro W base args ds gs before hval hW _ _ hL _
  exact contract H enc W base args ds gs before hval hW hL

set_option maxHeartbeats 8000000 in
theorem said : Rows.FnExactUndoOfSaid :=
  OpenClaim.holds_of_wide 3 Tryz.f3 rfl rfl rfl rfl rfl rfl rfl ⟨rfl, rfl, rfl, rfl, rfl⟩ rfl rfl rfl rfl rfl (by as_aux_lemma => kernel_rfl) Tryz.func3 (by as_aux_lemma => kernel_rfl)
    (of_decide_eq_true (by as_aux_lemma => kernel_rfl)) (by unfold Func.isWrapper; first | (rw [if_pos (by decide +kernel)]; kernel_rfl) | (rw [if_neg (by decide +kernel)]; exact ⟨rfl, rfl⟩))
    (fun os started H enc _ => lifted os started H enc)

/-- No parameter wants a stand-in; the program's own looks are as the card says. -/
theorem plain (f : FuncId) (fn : Func) (hf : Tryz.pinned.checked.prog.funcNamed Rows.fnExactUndoOfRow.func = some f) (hfn : Tryz.pinned.checked.prog.funcs[f]? = some fn) :
    true = Tryz.pinned.checked.prog.looks [] ∧ ∀ (j : Nat) t, fn.params[j]? = some t → Tryz.pinned.checked.prog.wantsStandIn t = false := by
  obtain rfl : f = 3 := Option.some.inj ((show Tryz.prog.funcNamed Rows.fnExactUndoOfRow.func = some 3 by kernel_rfl).symm.trans hf) |>.symm
  obtain rfl : fn = Tryz.f3 := (Option.some.inj (Tryz.func3.symm.trans hfn)).symm
  refine ⟨by kernel_rfl, fun j t ht => ?_⟩
  rw [Tryz.params3] at ht
  have hm := Array.mem_of_getElem? ht
  have hm' : t = 22 ∨ t = 23 := by simpa using hm
  rcases hm' with rfl | rfl
  · exact (show Tryz.prog.wantsStandIn 22 = false by kernel_rfl)
  · exact (show Tryz.prog.wantsStandIn 23 = false by kernel_rfl)

theorem proved : Rows.FnExactUndoOfCardSaid :=
  Claim7.holds_tied_plain_at .later [] _ _ _ _ said (fun _ h => by cases h) (by kernel_rfl) (fun _ h => by cases h) fnExactUndoOf_row_tie rfl ⟨rfl, rfl⟩ (by kernel_rfl) rfl plain (by kernel_rfl)
end Go.Proofs.YtciflchaepchiabGreatDoor.LawUndoOf
