/- For every list of lists of records and any two numbers, FnExactReplaced answers true: Replaced of the program answers as its model does, in memory of its own, and the lists read as they did. Conditions: the table of kinds and the two sentinels hold what their own initialisers lay (tied to the program's text by the given tie). -/
import Derived.Test.YthopokiablgjoaaGreatDoorCA12
import Derived.Test.YthopokiablgjoaaGreatDoorCA13
import Derived.Test.YthopokiablgjoaaGreatDoorCA14
import Derived.Test.YthopokiablgjoaaGreatDoorCA15
import Derived.Test.YthopokiablgjoaaGreatDoorCA2
import Derived.Test.YthopokiablgjoaaGreatDoorCA20
import Derived.Test.YthopokiablgjoaaGreatDoorCA21
import Derived.Test.YthopokiablgjoaaGreatDoorCA22
import Derived.Test.YthopokiablgjoaaGreatDoorCA23
import Derived.Test.YthopokiablgjoaaGreatDoorCA3
import Derived.Test.YthopokiablgjoaaGreatDoorCA4
import Derived.Test.YthopokiablgjoaaGreatDoorCA5
import Derived.Test.YthopokiablgjoaaGreatDoorCA6
import Derived.Test.YthopokiablgjoaaGreatDoorCA7
import Derived.Test.YthopokiablgjoaaGreatDoorCA8
import Derived.Test.YthopokiablgjoaaGreatDoorCA9
import Derived.Test.YthopokiablgjoaaGreatDoorCards
import Derived.Test.YthopokiablgjoaaGreatDoorTie
import Derived.Deep.RegionHeld3
import Derived.WalkKit
import Derived.ProofKit
import Derived.OpenShut
import Derived.ShutString
import Derived.ChangeOld
import Derived.ChangeVars
import Derived.OpenVars
import Derived.Below
import Derived.Lay
import Derived.LaidMore
import Derived.Stop.Joined
import Derived.SevenTiedAt
import Derived.Deep.DeepHandedRow
import Derived.Lib.LaidTab
import Derived.Laws.AppendOwnNone
import Derived.StillTailTactics
import Derived.Laws.OwnMore
import Derived.BigQuiet
import Derived.BigRegion
import Derived.Deep.QuietTactic
import Derived.Deep.Slices
import Derived.ChangeArms
import Derived.WideShapes
import Derived.Deep.Draws
import Derived.Deep.LoopGhost
import Derived.Test.YthopokiablgjoaaGreatDoorChecked
import Derived.WalkSpells
import Derived.WalkSmall
import Derived.Lib.OthersKept
import Derived.Lib.Hide
import Derived.Lib.Strings
import Derived.Lib.Join
import Derived.Laws.BytesArg
import Derived.Deep.RegionWith
import Derived.OneCell
import Derived.Lib.SliceRun
import Derived.Lib.Overlaps
import Derived.Lib.AppendZerosOnto
import Derived.Laws.NewBlocks
import Derived.Laws.IdiomCopy
import Derived.Deep.RegionLaw
import Derived.Test.YthopokiablgjoaaGreatDoorRows
import Derived.Test.YthopokiablgjoaaGreatDoorProg
import Derived.LaidEql
import Derived.Stop.Asserts
import Derived.Stop.LaidErr
import Derived.Stop.LaidTwo
import Derived.WalkLawsBesides
import Derived.Test.YthopokiablgjoaaGreatDoorShelf
namespace Go.Proofs.YthopokiablgjoaaGreatDoor.LawReplaced
open Go.ChangeShapes Go.WideShapes Go.ChangeAt Go.RowKit
open Go.ChangeMaps (open_string shut_string)
open Recs Paths
set_option linter.unusedVariables false
set_option maxRecDepth 100000

set_option maxHeartbeats 3200000 in
theorem walk (v0 : Value) (LL : List (List R)) (fr : Int) (tt : Int) (w : World) (h0 : StkSl w v0 LL) (hlm0 : LL.length ≤ maxLen) (hs0 : ∀ l ∈ LL, l.length ≤ maxLen ∧ ∀ r ∈ l, r.p.size ≤ maxLen ∧ r.b.size ≤ maxLen) (hT : ∃ x y, Three w x y) :
    Calls Tryz.prog 8 #[v0, .int .i64 fr, .int .i64 tt] w fun e w' => e = .returned (.bool true) ∧ Below w.heap.size w w' := by
  obtain ⟨x, y, hT⟩ := hT
  have HZ := szRecordSS_sum v0 LL 1048576 w h0 hlm0 hs0 (Nat.le_refl _)
  go_enter Tryz.func8, Tryz.ntmps8
  go_wp2_with fail
  refine (HZ).mono ?_
  rintro e w1 (⟨z, hz, rfl, hb1⟩ | ⟨z0, hz0, rfl, hb1⟩)
  · have hd : decide (z < 0) = true := by simpa using hz
    go_wp2_with fail
    go_ret
    exact ⟨rfl, hb1⟩
  have hd0 : decide ((z0 : Int) < 0) = false := by simp
  have c1 := hb1
  have hl0 : LL.length ≤ 1048576 := by omega
  have hll0 : ∀ l ∈ LL, l.length ≤ 1048576 := fun l hm => by have := total_le hm; omega
  have hcl : (repR LL fr tt).length ≤ 1048576 := repR_len LL fr tt
  have hcll : ∀ l ∈ repR LL fr tt, l.length ≤ 1048576 := repR_each LL fr tt
  have htot : total (repR LL fr tt) ≤ 1048576 := repR_total LL fr tt
  go_wp2_with fail
  refine (toRecordSS_any v0 LL _ (h0.below c1) hl0 hll0).mono ?_
  rintro e w2 ⟨y0, rfl, hb2, hy0⟩
  have c2 := c1.trans (hb2.mono c1.size)
  go_wp2_with fail
  refine (replaced_spec y0 LL fr tt _ hy0.good hl0 hll0).mono ?_
  rintro e w3 ⟨s, rfl, hb3, hs00⟩
  have c3 := c2.trans (hb3.mono c2.size)
  have HS3 := Lib.hid hs00
  have bS : Below w3.heap.size w3 w3 := Below.refl _ _
  go_wp2_with fail
  refine (toRecordSS_any v0 LL _ (h0.below c3) hl0 hll0).mono ?_
  rintro e w4 ⟨x0, rfl, hb4, hx0⟩
  have c4 := c3.trans (hb4.mono c3.size)
  replace hs00 := hs00.below hb4
  replace bS := bS.trans (hb4.mono bS.size)
  have sz0 : w3.heap.size ≤ w4.heap.size := hb4.size
  have HX0 := Lib.hid hx0
  have bX0 : Below w4.heap.size w4 w4 := Below.refl _ _
  go_wp2_with fail
  refine (replaced_impl x0 LL fr tt x y _ hx0.good hl0 (fun l hm => ⟨hll0 l hm, fun r hr => ((hs0 l hm).2 r hr).1⟩) (hT.below c4 (Nat.le_refl _))).mono ?_
  rintro e w5 ⟨f, rfl, hb5, hf0⟩
  have c5 := c4.trans (hb5.mono c4.size)
  replace hs00 := hs00.below hb5
  replace bS := bS.trans (hb5.mono bS.size)
  replace hx0 := hx0.below hb5
  replace bX0 := bX0.trans (hb5.mono bX0.size)
  go_wp2_with fail
  refine (eqRecordSS_same f s (repR LL fr tt) _ hf0.sl hs00.sl hcl hcll).mono ?_
  rintro e w6 ⟨rfl, hb6⟩
  have c6 := c5.trans (hb6.mono c5.size)
  replace hs00 := hs00.below hb6
  replace bS := bS.trans (hb6.mono bS.size)
  replace hx0 := hx0.below hb6
  replace bX0 := bX0.trans (hb6.mono bX0.size)
  replace hf0 := hf0.below hb6
  go_wp2_with fail
  refine (toRecordSS_any v0 LL _ (h0.below c6) hl0 hll0).mono ?_
  rintro e w7 ⟨x0', rfl, hb7, hx0'⟩
  have c7 := c6.trans (hb7.mono c6.size)
  replace hs00 := hs00.below hb7
  replace bS := bS.trans (hb7.mono bS.size)
  replace hx0 := hx0.below hb7
  replace bX0 := bX0.trans (hb7.mono bX0.size)
  replace hf0 := hf0.below hb7
  go_wp2_with fail
  refine (eqRecordSS_same x0 x0' LL _ hx0.sl hx0'.sl hl0 hll0).mono ?_
  rintro e w8 ⟨rfl, hb8⟩
  have c8 := c7.trans (hb8.mono c7.size)
  replace hs00 := hs00.below hb8
  replace bS := bS.trans (hb8.mono bS.size)
  replace hx0 := hx0.below hb8
  replace bX0 := bX0.trans (hb8.mono bX0.size)
  replace hf0 := hf0.below hb8
  go_wp2_with fail
  refine (markRecordSS_any x0 LL w3.heap.size w4.heap.size (1 : Int) _ hx0 (by omega) (by omega) hl0 (HX0.out.top bX0)).mono ?_
  rintro e w9 ⟨rfl, hbt9⟩
  have c9 : Below w.heap.size w w9 := Betw.below c8 hbt9 c3.size c8.size
  replace bS := Betw.below bS hbt9 (by omega) bS.size
  replace hs00 := HS3.out.below bS
  replace hf0 := hf0.betw hbt9 (by omega)
  clear hbt9
  have hdK : decide ((1 : Int) + 5 * (total LL : Int) < 0) = false := by simp; omega
  go_wp2_with fail
  refine (eqRecordSS_same f s (repR LL fr tt) _ hf0.sl hs00.sl hcl hcll).mono ?_
  rintro e w10 ⟨rfl, hb10⟩
  have c10 := c9.trans (hb10.mono c9.size)
  replace hs00 := hs00.below hb10
  replace bS := bS.trans (hb10.mono bS.size)
  replace hf0 := hf0.below hb10
  go_wp2_with fail
  refine (markStk_any f _ _ _ 1 _ hf0 (by omega) (by omega) hcl).mono ?_
  rintro e w11 ⟨rfl, hfm, hbt11⟩
  have c11 : Below w.heap.size w w11 := Betw.below c10 hbt11 c4.size c10.size
  replace bS := Betw.below bS hbt11 (by omega) bS.size
  replace hs00 := HS3.out.below bS
  clear hbt11 hf0
  go_wp2_with fail
  refine (heldStk_any f _ _ _ 1 _ hfm (by omega) (by omega) hcl).mono ?_
  rintro e w12 ⟨rfl, hb12⟩
  have c12 := c11.trans (hb12.mono c11.size)
  replace hs00 := hs00.below hb12
  replace hfm := hfm.below hb12
  replace bS := bS.trans (hb12.mono bS.size)
  have hdH : decide ((1 : Int) + 5 * (total (repR LL fr tt) : Int) < 0) = false := by simp; omega
  go_wp2_with fail
  refine (toRecordSS_any v0 LL _ (h0.below c12) hl0 hll0).mono ?_
  rintro e w13 ⟨u0, rfl, hb13, hu0⟩
  have c13 := c12.trans (hb13.mono c12.size)
  replace hs00 := hs00.below hb13
  replace hfm := hfm.below hb13
  replace bS := bS.trans (hb13.mono bS.size)
  go_wp2_with fail
  refine (replaced_impl u0 LL fr tt x y _ hu0.good hl0 (fun l hm => ⟨hll0 l hm, fun r hr => ((hs0 l hm).2 r hr).1⟩) (hT.below c13 (Nat.le_refl _))).mono ?_
  rintro e w14 ⟨f', rfl, hb14, hf'⟩
  have c14 := c13.trans (hb14.mono c13.size)
  replace hs00 := hs00.below hb14
  replace hfm := hfm.below hb14
  replace bS := bS.trans (hb14.mono bS.size)
  go_wp2_with fail
  refine (eqRecordSS_same f' s (repR LL fr tt) _ hf'.sl hs00.sl hcl hcll).mono ?_
  rintro e w15 ⟨rfl, hb15⟩
  have c15 := c14.trans (hb15.mono c14.size)
  replace hs00 := hs00.below hb15
  replace hfm := hfm.below hb15
  replace bS := bS.trans (hb15.mono bS.size)
  replace hf' := hf'.below hb15
  go_wp2_with fail
  refine (heldStk_any f _ _ _ 1 _ hfm (by omega) (by omega) hcl).mono ?_
  rintro e w16 ⟨rfl, hb16⟩
  go_wp2_with fail
  go_ret
  exact ⟨rfl, c15.trans (hb16.mono c15.size)⟩

theorem own : ownKnob Tryz.prog.godebug = none := by kernel_rfl
theorem laidOut : laidOutB Tryz.prog = true := by kernel_rfl

theorem contract (H : Type) (enc : TypeId × Value → H) (W : World) (base : Nat) (args : Array Value) (ds gs : List (DataW H)) (before : List MemPlace)
    (hval : ∀ (j : Nat) t v, Tryz.f8.params[j]? = some t → args[j]? = some v → Value.okWide Tryz.prog W .any base t v)
    (hW : DataW.Whole enc Tryz.prog Tryz.f8.params.toList Rows.fnExactReplacedSpec.vars false W args.toList ds gs before) (hL : laidMetH Tryz.prog Rows.fnExactReplacedRow.laid W) :
    Calls Tryz.prog 8 args W fun e W' => ∃ v, e = .returned v ∧ Rows.fnExactReplacedSpec.post enc Tryz.prog Tryz.f8 false true false false W args v W' := by
  have hW' := hW
  obtain ⟨p, q, hA0, hV, rfl, hfz, hnd⟩ := hW
  have hA : DataW.TrodAll enc Tryz.prog W 0 (fun _ => true) true Tryz.f8.params.toList args.toList ds p := hA0
  rw [Tryz.params8] at hA hval
  obtain ⟨v0, vs0, d0, ds0, p0, q0, hargs, rfl, rfl, h0, r0⟩ := trodAll_cons hA
  obtain ⟨v1, vs1, d1, ds1, p1, q1, rfl, rfl, rfl, h1, r1⟩ := trodAll_cons r0
  obtain ⟨v2, vs2, d2, ds2, p2, q2, rfl, rfl, rfl, h2, r2⟩ := trodAll_cons r1
  obtain ⟨rfl, rfl, rfl⟩ := trodAll_nil r2
  obtain rfl : args = #[v0, v1, v2] := by cases args; simp_all
  have k0 := h0
  have lt0 : ∀ x ∈ p0, x.block < W.heap.size := by obtain ⟨m, hm⟩ := k0; exact DataW.trod_lt m _ _ _ hm
  obtain ⟨a0, len0, cap0, rfl⟩ := okWide_slice Tryz.underlying72 (hval 0 72 v0 rfl rfl)
  obtain ⟨f0, hf0⟩ := h0
  obtain ⟨u0, L0, e0, hsl0, hlen0, hs0⟩ := Recs.open_stk Tryz.underlying72 hf0
  obtain rfl : Value.slice a0 len0 cap0 = u0 := by simpa [Value.cells] using e0
  obtain ⟨a1, rfl, rfl, rfl, w1⟩ := open_int Tryz.underlying3 (hval 1 3 v1 rfl rfl) h1
  obtain ⟨a2, rfl, rfl, rfl, w2⟩ := open_int Tryz.underlying3 (hval 2 3 v2 rfl rfl) h2
  clear hA0 hA
  obtain ⟨g0, g1, g2, rfl⟩ := Recs.vars3 hV
  have hT := Recs.laid3 hL
  refine (walk _ L0 a1 a2 W hsl0 hlen0 hs0 hT).mono fun e W' ⟨he, bel⟩ => ?_
  subst he
  have hv' := bel.trodVars (enc := enc) laidOut (by kernel_rfl) hV
  exact ⟨_, rfl, _, _, _, [], _, _, hW', trodAll_mk1 (shut_bool Tryz.underlying4 _), (trodAll_cons_mk (Below.trod laidOut (by kernel_rfl) (of_decide_eq_true (by kernel_rfl)) k0 bel lt0) (trodAll_cons_mk (shut_int Tryz.underlying3 w1) (trodAll_cons_mk (shut_int Tryz.underlying3 w2) trodAll_mk0))), hv', bel.frame _, fun h => by cases h⟩

theorem laid_met (os : Os) : laidMetH Tryz.prog Rows.fnExactReplacedRow.laid ((World.laidAll Tryz.prog os Rows.fnExactReplacedRow.laid).forCall (fun _ _ => 0) ⟨#[], #[.slice none 0 0, .int .i64 0, .int .i64 0], []⟩).memory := by
  rw [MakeChecks.laidMetH_plain _ _ _ (by kernel_rfl)]
  exact laidMet_laidAll _ (by kernel_rfl) (by kernel_rfl)

set_option maxRecDepth 100000 in
theorem lifted (os : Os) (started : os.Started) (H : Type) (enc : TypeId × Value → H) :
    ReturnsInHanded {} Tryz.checked os 8 .any (fun w args => (Rows.fnExactReplacedSpec.pre enc Tryz.prog Tryz.f8 Rows.fnExactReplacedRow.domain false w args ∧ laidMetH Tryz.prog Rows.fnExactReplacedRow.laid w) ∧ sizedMet enc Tryz.prog Tryz.f8 (OpenSpec.ofChange Rows.fnExactReplacedSpec) false w args)
      (Rows.fnExactReplacedSpec.post enc Tryz.prog Tryz.f8 false true false false) := by
  refine returnsInHanded_of_change_and (C := Tryz.checked) (X := fun w _ => laidMetH Tryz.prog Rows.fnExactReplacedRow.laid w) (fun _ _ _ hh h => h.of_heap hh) own started (by kernel_rfl) Tryz.func8
    (ChangeSpec.witness_shaped (enc := enc) (C := Tryz.checked) (os := os) (X := fun w _ => laidMetH Tryz.prog Rows.fnExactReplacedRow.laid w) false (World.laidAll Tryz.prog os Rows.fnExactReplacedRow.laid) #[.slice none 0 0, .int .i64 0, .int .i64 0] 8 (World.laidAll_os _ _ _)
      (World.shaped_of_ZipB (by kernel_rfl) (by kernel_rfl)) (by kernel_rfl) (by kernel_rfl) (by kernel_rfl)
      (laid_met os)) ?_
  intro W base args ds gs before hval hW _ _ hL _
  exact contract H enc W base args ds gs before hval hW hL

set_option maxHeartbeats 8000000 in
theorem said : Rows.FnExactReplacedSaid :=
  OpenClaim.holds_of_wide 8 Tryz.f8 rfl rfl rfl rfl rfl rfl rfl ⟨rfl, rfl, rfl, rfl, rfl⟩ rfl rfl rfl rfl rfl (by as_aux_lemma => kernel_rfl) Tryz.func8 (by as_aux_lemma => kernel_rfl)
    (of_decide_eq_true (by as_aux_lemma => kernel_rfl)) (by unfold Func.isWrapper; first | (rw [if_pos (by decide +kernel)]; kernel_rfl) | (rw [if_neg (by decide +kernel)]; exact ⟨rfl, rfl⟩))
    (fun os started H enc _ => lifted os started H enc)

/-- No parameter wants a stand-in; the program's own looks are as the card says. -/
theorem plain (f : FuncId) (fn : Func) (hf : Tryz.pinned.checked.prog.funcNamed Rows.fnExactReplacedRow.func = some f) (hfn : Tryz.pinned.checked.prog.funcs[f]? = some fn) :
    true = Tryz.pinned.checked.prog.looks [] ∧ ∀ (j : Nat) t, fn.params[j]? = some t → Tryz.pinned.checked.prog.wantsStandIn t = false := by
  obtain rfl : f = 8 := Option.some.inj ((show Tryz.prog.funcNamed Rows.fnExactReplacedRow.func = some 8 by kernel_rfl).symm.trans hf) |>.symm
  obtain rfl : fn = Tryz.f8 := (Option.some.inj (Tryz.func8.symm.trans hfn)).symm
  refine ⟨by kernel_rfl, fun j t ht => ?_⟩
  rw [Tryz.params8] at ht
  have hm := Array.mem_of_getElem? ht
  have hm' : t = 72 ∨ t = 3 := by simpa using hm
  rcases hm' with rfl | rfl
  · exact (show Tryz.prog.wantsStandIn 72 = false by kernel_rfl)
  · exact (show Tryz.prog.wantsStandIn 3 = false by kernel_rfl)

theorem proved : Rows.FnExactReplacedCardSaid :=
  Claim7.holds_tied_plain_at .later [] _ _ _ _ said (fun _ h => by cases h) (by kernel_rfl) (fun _ h => by cases h) fnExactReplaced_row_tie rfl ⟨rfl, rfl⟩ (by kernel_rfl) rfl plain (by kernel_rfl)
end Go.Proofs.YthopokiablgjoaaGreatDoor.LawReplaced
