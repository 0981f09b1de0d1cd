/- For every list of lists of records and every string, FnExactReadDir answers true: ReadDir of the program answers as its model does, in memory of its own, and the lists read as they did. Conditions: the table of kinds and the two sentinels hold what their own initialisers lay (tied to the program's text by the given tie). -/
import Derived.Test.YtibekkfbpmloiaaGreatDoorCA10
import Derived.Test.YtibekkfbpmloiaaGreatDoorCA11
import Derived.Test.YtibekkfbpmloiaaGreatDoorCA12
import Derived.Test.YtibekkfbpmloiaaGreatDoorCA14
import Derived.Test.YtibekkfbpmloiaaGreatDoorCA15
import Derived.Test.YtibekkfbpmloiaaGreatDoorCA2
import Derived.Test.YtibekkfbpmloiaaGreatDoorCA20
import Derived.Test.YtibekkfbpmloiaaGreatDoorCA3
import Derived.Test.YtibekkfbpmloiaaGreatDoorCA4
import Derived.Test.YtibekkfbpmloiaaGreatDoorCA5
import Derived.Test.YtibekkfbpmloiaaGreatDoorCA6
import Derived.Test.YtibekkfbpmloiaaGreatDoorCB10
import Derived.Test.YtibekkfbpmloiaaGreatDoorCB2
import Derived.Test.YtibekkfbpmloiaaGreatDoorCB4
import Derived.Test.YtibekkfbpmloiaaGreatDoorCB5
import Derived.Test.YtibekkfbpmloiaaGreatDoorCB8
import Derived.Test.YtibekkfbpmloiaaGreatDoorCB9
import Derived.Test.YtibekkfbpmloiaaGreatDoorCC1
import Derived.Test.YtibekkfbpmloiaaGreatDoorCards
import Derived.Test.YtibekkfbpmloiaaGreatDoorTie
import Derived.Deep.RegionHeld3
import Derived.WalkKit
import Derived.ProofKit
import Derived.OpenShut
import Derived.ShutString
import Derived.ChangeOld
import Derived.ChangeVars
import Derived.OpenVars
import Derived.Below
import Derived.Lay
import Derived.LaidMore
import Derived.Stop.Joined
import Derived.SevenTiedAt
import Derived.Deep.DeepHandedRow
import Derived.Lib.LaidTab
import Derived.Laws.EntriesVeiled
import Derived.Deep.Slices
import Derived.ChangeArms
import Derived.WideShapes
import Derived.BigQuiet
import Derived.Deep.QuietTactic
import Derived.StillTailTactics
import Derived.Deep.Draws
import Derived.Deep.LoopGhost
import Derived.Test.YtibekkfbpmloiaaGreatDoorChecked
import Derived.WalkSpells
import Derived.WalkSmall
import Derived.Lib.OthersKept
import Derived.Lib.Hide
import Derived.Lib.Strings
import Derived.Lib.Join
import Derived.Laws.OwnMore
import Derived.BigRegion
import Derived.Laws.BytesArg
import Derived.WalkLawsBesides
import Derived.Test.YtibekkfbpmloiaaGreatDoorShelf
import Derived.RangeFuncNested
import Derived.RangeFuncBound
import Derived.RangeFuncCalls
import Derived.RangeFuncLeaves
import Derived.RangeFuncBox
import Derived.Shelf.Abstract
import Derived.Shelf.RegionOpen
import Derived.OwnWalkIn
import Derived.TacticsInMore
import Derived.LoopNIn
import Derived.LoopIn
import Derived.Stop.LaidErr
import Derived.Test.YtibekkfbpmloiaaGreatDoorProg
import Derived.LaidEql
import Derived.Stop.Asserts
import Derived.Stop.LaidTwo
import Derived.Test.YtibekkfbpmloiaaGreatDoorRows
import Derived.Deep.RegionWith
import Derived.OneCell
import Derived.Lib.SliceRun
import Derived.Lib.Overlaps
import Derived.Lib.AppendZerosOnto
import Derived.Laws.NewBlocks
import Derived.Laws.IdiomCopy
import Derived.Deep.RegionLaw
import Derived.Deep.AppendLies
import Derived.Laws.AppendOwn
namespace Go.Proofs.YtibekkfbpmloiaaGreatDoor.LawReadDir
open Go.ChangeShapes Go.WideShapes Go.ChangeAt Go.RowKit
open Go.ChangeMaps (open_string shut_string)
open Recs Paths
set_option linter.unusedVariables false
set_option maxRecDepth 100000

set_option maxHeartbeats 3200000 in
theorem walk (v0 : Value) (LL : List (List R)) (q : ByteArray) (hq : q.size ≤ maxLen) (w : World) (h0 : StkSl w v0 LL) (hlm0 : LL.length ≤ maxLen) (hs0 : ∀ l ∈ LL, l.length ≤ maxLen ∧ ∀ r ∈ l, r.p.size ≤ maxLen ∧ r.b.size ≤ maxLen) (hT : ∃ x y, Three w x y) :
    Calls Tryz.prog 4 #[v0, .string q] w fun e w' => e = .returned (.bool true) ∧ Below w.heap.size w w' := by
  obtain ⟨x, y, hT⟩ := hT
  by_cases hq2 : 1048576 < q.size
  · have hd : decide ((1048576 : Int) < (q.size : Int)) = true := by simp; omega
    go_enter Tryz.func4, Tryz.ntmps4
    go_wp2_with fail
    go_ret
    exact ⟨rfl, Below.refl _ _⟩
  have hdq : decide ((1048576 : Int) < (q.size : Int)) = false := by simp; omega
  have HZ := szRecordSS_sum v0 LL 1048576 w h0 hlm0 hs0 (Nat.le_refl _)
  go_enter Tryz.func4, Tryz.ntmps4
  go_wp2_with fail
  refine (HZ).mono ?_
  rintro e w1 (⟨z, hz, rfl, hb1⟩ | ⟨z0, hz0, rfl, hb1⟩)
  · have hd : decide (z < 0) = true := by simpa using hz
    go_wp2_with fail
    go_ret
    exact ⟨rfl, hb1⟩
  have hd0 : decide ((z0 : Int) < 0) = false := by simp
  have c1 := hb1
  have hl0 : LL.length ≤ 1048576 := by omega
  have hll0 : ∀ l ∈ LL, l.length ≤ 1048576 := fun l hm => by have := total_le hm; omega
  have hcl : (ReadDirL LL q).length ≤ 1048576 := ReadDirL_len LL q
  go_wp2_with fail
  refine (toRecordSS_any v0 LL _ (h0.below c1) hl0 hll0).mono ?_
  rintro e w2 ⟨y0, rfl, hb2, hy0⟩
  have c2 := c1.trans (hb2.mono c1.size)
  go_wp2_with fail
  refine (ReadDir_spec y0 LL q _ hy0.sl hl0 hll0).mono ?_
  rintro e w3 ⟨s, rfl, hb3, hs00⟩
  have c3 := c2.trans (hb3.mono c2.size)
  have hsL : ∀ k, s.ownBlock = some k → k < w3.heap.size := fun k hk => (hs00.lt k hk).2
  go_wp2_with fail
  refine (toRecordSS_any v0 LL _ (h0.below c3) hl0 hll0).mono ?_
  rintro e w4 ⟨x0, rfl, hb4, hx0⟩
  have c4 := c3.trans (hb4.mono c3.size)
  replace hs00 := own_below hs00 hb4
  have sz0 : w3.heap.size ≤ w4.heap.size := hb4.size
  have HX0 := Lib.hid hx0
  have bX0 : Below w4.heap.size w4 w4 := Below.refl _ _
  go_wp2_with fail
  refine (ReadDir_impl x0 LL q x y _ hx0.sl hl0 (fun l hm => ⟨hll0 l hm, fun r hr => ((hs0 l hm).2 r hr).1⟩) hq (hT.below c4 (Nat.le_refl _))).mono ?_
  rintro e w5 ⟨f, rfl, hb5, hf0⟩
  have c5 := c4.trans (hb5.mono c4.size)
  replace hs00 := own_below hs00 hb5
  replace hx0 := hx0.below hb5
  replace bX0 := bX0.trans (hb5.mono bX0.size)
  have hfL : ∀ k, f.ownBlock = some k → w4.heap.size ≤ k := fun k hk => (hf0.lt k hk).1
  go_wp2_with fail
  refine (eqStr_same f s (ReadDirL LL q) _ hf0 hs00 hcl).mono ?_
  rintro e w6 ⟨rfl, hb6⟩
  have c6 := c5.trans (hb6.mono c5.size)
  replace hs00 := own_below hs00 hb6
  replace hx0 := hx0.below hb6
  replace bX0 := bX0.trans (hb6.mono bX0.size)
  replace hf0 := own_below hf0 hb6
  go_wp2_with fail
  refine (toRecordSS_any v0 LL _ (h0.below c6) hl0 hll0).mono ?_
  rintro e w7 ⟨x0', rfl, hb7, hx0'⟩
  have c7 := c6.trans (hb7.mono c6.size)
  replace hs00 := own_below hs00 hb7
  replace hx0 := hx0.below hb7
  replace bX0 := bX0.trans (hb7.mono bX0.size)
  replace hf0 := own_below hf0 hb7
  go_wp2_with fail
  refine (eqRecordSS_same x0 x0' LL _ hx0.sl hx0'.sl hl0 hll0).mono ?_
  rintro e w8 ⟨rfl, hb8⟩
  have c8 := c7.trans (hb8.mono c7.size)
  replace hs00 := own_below hs00 hb8
  replace hx0 := hx0.below hb8
  replace bX0 := bX0.trans (hb8.mono bX0.size)
  replace hf0 := own_below hf0 hb8
  go_wp2_with fail
  refine (markRecordSS_any x0 LL w3.heap.size w4.heap.size (1 : Int) _ hx0 (by omega) (by omega) hl0 (HX0.out.top bX0)).mono ?_
  rintro e w9 ⟨rfl, hbt9⟩
  have c9 : Below w.heap.size w w9 := Betw.below c8 hbt9 c3.size c8.size
  replace hs00 := hbt9.own hs00 (fun k hk => by have := hsL k hk; omega)
  replace hf0 := hbt9.own hf0 (fun k hk => by have := hfL k hk; omega)
  clear hbt9
  have hdK : decide ((1 : Int) + 5 * (total LL : Int) < 0) = false := by simp; omega
  go_wp2_with fail
  refine (eqStr_same f s (ReadDirL LL q) _ hf0 hs00 hcl).mono ?_
  rintro e w10 ⟨rfl, hb10⟩
  have c10 := c9.trans (hb10.mono c9.size)
  replace hs00 := own_below hs00 hb10
  replace hf0 := own_below hf0 hb10
  go_wp2_with fail
  refine (markStringS_any f _ _ _ 1 _ hf0 (by omega) (by omega)).mono ?_
  rintro e w11 ⟨rfl, hfm, hg11⟩
  have hbt11 : Betw w4.heap.size w10.heap.size w10 w11 := betw_of hg11 (fun k hk => ⟨hfL k hk, (hf0.lt k hk).2⟩)
  have c11 : Below w.heap.size w w11 := Betw.below c10 hbt11 c4.size c10.size
  replace hs00 := hbt11.own hs00 (fun k hk => by have := hsL k hk; omega)
  clear hg11 hbt11 hf0
  go_wp2_with fail
  refine (heldStringS_any f _ _ 1 _ hfm (by omega) (by omega)).mono ?_
  rintro e w12 ⟨rfl, hb12⟩
  have c12 := c11.trans (hb12.mono c11.size)
  replace hs00 := own_below hs00 hb12
  replace hfm := own_below hfm hb12
  have hdH : decide ((1 : Int) + ((ReadDirL LL q).length : Int) < 0) = false := by simp; omega
  go_wp2_with fail
  refine (toRecordSS_any v0 LL _ (h0.below c12) hl0 hll0).mono ?_
  rintro e w13 ⟨u0, rfl, hb13, hu0⟩
  have c13 := c12.trans (hb13.mono c12.size)
  replace hs00 := own_below hs00 hb13
  replace hfm := own_below hfm hb13
  go_wp2_with fail
  refine (ReadDir_impl u0 LL q x y _ hu0.sl hl0 (fun l hm => ⟨hll0 l hm, fun r hr => ((hs0 l hm).2 r hr).1⟩) hq (hT.below c13 (Nat.le_refl _))).mono ?_
  rintro e w14 ⟨f', rfl, hb14, hf'⟩
  have c14 := c13.trans (hb14.mono c13.size)
  replace hs00 := own_below hs00 hb14
  replace hfm := own_below hfm hb14
  go_wp2_with fail
  refine (eqStr_same f' s (ReadDirL LL q) _ hf' hs00 hcl).mono ?_
  rintro e w15 ⟨rfl, hb15⟩
  have c15 := c14.trans (hb15.mono c14.size)
  replace hs00 := own_below hs00 hb15
  replace hfm := own_below hfm hb15
  replace hf' := own_below hf' hb15
  go_wp2_with fail
  refine (heldStringS_any f _ _ 1 _ hfm (by omega) (by omega)).mono ?_
  rintro e w16 ⟨rfl, hb16⟩
  go_wp2_with fail
  go_ret
  exact ⟨rfl, c15.trans (hb16.mono c15.size)⟩

theorem own : ownKnob Tryz.prog.godebug = none := by kernel_rfl
theorem laidOut : laidOutB Tryz.prog = true := by kernel_rfl

theorem contract (H : Type) (enc : TypeId × Value → H) (W : World) (base : Nat) (args : Array Value) (ds gs : List (DataW H)) (before : List MemPlace)
    (hval : ∀ (j : Nat) t v, Tryz.f4.params[j]? = some t → args[j]? = some v → Value.okWide Tryz.prog W .any base t v)
    (hW : DataW.Whole enc Tryz.prog Tryz.f4.params.toList Rows.fnExactReadDirSpec.vars false W args.toList ds gs before) (hL : laidMetH Tryz.prog Rows.fnExactReadDirRow.laid W) :
    Calls Tryz.prog 4 args W fun e W' => ∃ v, e = .returned v ∧ Rows.fnExactReadDirSpec.post enc Tryz.prog Tryz.f4 false true false false W args v W' := by
  have hW' := hW
  obtain ⟨p, q, hA0, hV, rfl, hfz, hnd⟩ := hW
  have hA : DataW.TrodAll enc Tryz.prog W 0 (fun _ => true) true Tryz.f4.params.toList args.toList ds p := hA0
  rw [Tryz.params4] at hA hval
  obtain ⟨v0, vs0, d0, ds0, p0, q0, hargs, rfl, rfl, h0, r0⟩ := trodAll_cons hA
  obtain ⟨v1, vs1, d1, ds1, p1, q1, rfl, rfl, rfl, h1, r1⟩ := trodAll_cons r0
  obtain ⟨rfl, rfl, rfl⟩ := trodAll_nil r1
  obtain rfl : args = #[v0, v1] := by cases args; simp_all
  have k0 := h0
  have lt0 : ∀ x ∈ p0, x.block < W.heap.size := by obtain ⟨m, hm⟩ := k0; exact DataW.trod_lt m _ _ _ hm
  obtain ⟨a0, len0, cap0, rfl⟩ := okWide_slice Tryz.underlying22 (hval 0 22 v0 rfl rfl)
  obtain ⟨f0, hf0⟩ := h0
  obtain ⟨u0, L0, e0, hsl0, hlen0, hs0⟩ := Recs.open_stk Tryz.underlying22 hf0
  obtain rfl : Value.slice a0 len0 cap0 = u0 := by simpa [Value.cells] using e0
  obtain ⟨a1, rfl, rfl, rfl, w1⟩ := open_string Tryz.underlying9 (hval 1 9 v1 rfl rfl) h1
  clear hA0 hA
  obtain ⟨g0, g1, g2, rfl⟩ := Recs.vars3 hV
  have hT := Recs.laid3 hL
  refine (walk _ L0 a1 w1 W hsl0 hlen0 hs0 hT).mono fun e W' ⟨he, bel⟩ => ?_
  subst he
  have hv' := bel.trodVars (enc := enc) laidOut (by kernel_rfl) hV
  exact ⟨_, rfl, _, _, _, [], _, _, hW', trodAll_mk1 (shut_bool Tryz.underlying4 _), (trodAll_cons_mk (Below.trod laidOut (by kernel_rfl) (of_decide_eq_true (by kernel_rfl)) k0 bel lt0) (trodAll_cons_mk (shut_string Tryz.underlying9 w1) trodAll_mk0)), hv', bel.frame _, fun h => by cases h⟩

theorem laid_met (os : Os) : laidMetH Tryz.prog Rows.fnExactReadDirRow.laid ((World.laidAll Tryz.prog os Rows.fnExactReadDirRow.laid).forCall (fun _ _ => 0) ⟨#[], #[.slice none 0 0, .string ByteArray.empty], []⟩).memory := by
  rw [MakeChecks.laidMetH_plain _ _ _ (by kernel_rfl)]
  exact laidMet_laidAll _ (by kernel_rfl) (by kernel_rfl)

set_option maxRecDepth 100000 in
theorem lifted (os : Os) (started : os.Started) (H : Type) (enc : TypeId × Value → H) :
    ReturnsInHanded {} Tryz.checked os 4 .any (fun w args => (Rows.fnExactReadDirSpec.pre enc Tryz.prog Tryz.f4 Rows.fnExactReadDirRow.domain false w args ∧ laidMetH Tryz.prog Rows.fnExactReadDirRow.laid w) ∧ sizedMet enc Tryz.prog Tryz.f4 (OpenSpec.ofChange Rows.fnExactReadDirSpec) false w args)
      (Rows.fnExactReadDirSpec.post enc Tryz.prog Tryz.f4 false true false false) := by
  refine returnsInHanded_of_change_and (C := Tryz.checked) (X := fun w _ => laidMetH Tryz.prog Rows.fnExactReadDirRow.laid w) (fun _ _ _ hh h => h.of_heap hh) own started (by kernel_rfl) Tryz.func4
    (ChangeSpec.witness_shaped (enc := enc) (C := Tryz.checked) (os := os) (X := fun w _ => laidMetH Tryz.prog Rows.fnExactReadDirRow.laid w) false (World.laidAll Tryz.prog os Rows.fnExactReadDirRow.laid) #[.slice none 0 0, .string ByteArray.empty] 8 (World.laidAll_os _ _ _)
      (World.shaped_of_ZipB (by kernel_rfl) (by kernel_rfl)) (by kernel_rfl) (by kernel_rfl) (by kernel_rfl)
      (laid_met os)) ?_
  intro W base args ds gs before hval hW _ _ hL _
  exact contract H enc W base args ds gs before hval hW hL

set_option maxHeartbeats 8000000 in
theorem said : Rows.FnExactReadDirSaid :=
  OpenClaim.holds_of_wide 4 Tryz.f4 rfl rfl rfl rfl rfl rfl rfl ⟨rfl, rfl, rfl, rfl, rfl⟩ rfl rfl rfl rfl rfl (by as_aux_lemma => kernel_rfl) Tryz.func4 (by as_aux_lemma => kernel_rfl)
    (of_decide_eq_true (by as_aux_lemma => kernel_rfl)) (by unfold Func.isWrapper; first | (rw [if_pos (by decide +kernel)]; kernel_rfl) | (rw [if_neg (by decide +kernel)]; exact ⟨rfl, rfl⟩))
    (fun os started H enc _ => lifted os started H enc)

/-- No parameter wants a stand-in; the program's own looks are as the card says. -/
theorem plain (f : FuncId) (fn : Func) (hf : Tryz.pinned.checked.prog.funcNamed Rows.fnExactReadDirRow.func = some f) (hfn : Tryz.pinned.checked.prog.funcs[f]? = some fn) :
    true = Tryz.pinned.checked.prog.looks [] ∧ ∀ (j : Nat) t, fn.params[j]? = some t → Tryz.pinned.checked.prog.wantsStandIn t = false := by
  obtain rfl : f = 4 := Option.some.inj ((show Tryz.prog.funcNamed Rows.fnExactReadDirRow.func = some 4 by kernel_rfl).symm.trans hf) |>.symm
  obtain rfl : fn = Tryz.f4 := (Option.some.inj (Tryz.func4.symm.trans hfn)).symm
  refine ⟨by kernel_rfl, fun j t ht => ?_⟩
  rw [Tryz.params4] at ht
  have hm := Array.mem_of_getElem? ht
  have hm' : t = 22 ∨ t = 9 := by simpa using hm
  rcases hm' with rfl | rfl
  · exact (show Tryz.prog.wantsStandIn 22 = false by kernel_rfl)
  · exact (show Tryz.prog.wantsStandIn 9 = false by kernel_rfl)

theorem proved : Rows.FnExactReadDirCardSaid :=
  Claim7.holds_tied_plain_at .later [] _ _ _ _ said (fun _ h => by cases h) (by kernel_rfl) (fun _ h => by cases h) fnExactReadDir_row_tie rfl ⟨rfl, rfl⟩ (by kernel_rfl) rfl plain (by kernel_rfl)
end Go.Proofs.YtibekkfbpmloiaaGreatDoor.LawReadDir
