/- For every list of records FnExactEncodeLayer answers true: EncodeLayer of the program answers as its model does, and the list reads as it did. Conditions: the table of kinds and the two sentinels hold what their own initialisers lay (tied to the program's text by the given tie). -/
import Derived.Test.YtciflchaepchiaaDoorDA3
import Derived.Test.YtciflchaepchiaaDoorDA4
import Derived.Test.YtciflchaepchiaaDoorDD1
import Derived.Test.YtciflchaepchiaaDoorDD4
import Derived.Test.YtciflchaepchiaaDoorDD5
import Derived.Test.YtciflchaepchiaaDoorCards
import Derived.Test.YtciflchaepchiaaDoorTie
import Derived.Deep.RegionHeld3
import Derived.WalkKit
import Derived.ProofKit
import Derived.OpenShut
import Derived.ShutString
import Derived.ChangeOld
import Derived.ChangeVars
import Derived.OpenVars
import Derived.Below
import Derived.Lay
import Derived.LaidMore
import Derived.Stop.Joined
import Derived.SevenTiedAt
import Derived.Deep.DeepHandedRow
import Derived.Lib.LaidTab
import Derived.Deep.Cut
import Derived.Laws.BytesArg
import Derived.Lib.ConvBytes
import Derived.Deep.Slices
import Derived.ChangeArms
import Derived.WideShapes
import Derived.BigQuiet
import Derived.Deep.QuietTactic
import Derived.StillTailTactics
import Derived.Deep.Draws
import Derived.Deep.LoopGhost
import Derived.Test.YtciflchaepchiaaDoorChecked
import Derived.WalkSpells
import Derived.WalkSmall
import Derived.Lib.OthersKept
import Derived.Lib.Hide
import Derived.Lib.Strings
import Derived.Lib.Join
import Derived.WalkLawsBesides
import Derived.Test.YtciflchaepchiaaDoorShelf
import Derived.Shelf.Strings.Builder1
import Derived.Test.YtciflchaepchiaaDoorProg
import Derived.Stop.LaidErr
import Derived.Laws.OwnMore
import Derived.BigRegion
import Derived.LaidEql
import Derived.Stop.Asserts
import Derived.Stop.LaidTwo
import Derived.Test.YtciflchaepchiaaDoorRows
namespace Go.Proofs.YtciflchaepchiaaDoor.LawEncodeLayer
open Go.ChangeShapes Go.WideShapes Go.ChangeAt Go.RowKit
open Go.ChangeMaps (open_string shut_string)
open Recs Paths
set_option linter.unusedVariables false
set_option maxRecDepth 100000

set_option maxHeartbeats 3200000 in
theorem walk (v0 : Value) (l : List R) (w : World) (h0 : RecSl w v0 l) (hlm0 : l.length ≤ maxLen) (hs0 : ∀ r ∈ l, r.p.size ≤ maxLen ∧ r.b.size ≤ maxLen) (hT : ∃ x y, Three w x y) :
    Calls Tryd.prog 5 #[v0] w fun e w' => e = .returned (.bool true) ∧ Below w.heap.size w w' := by
  obtain ⟨x, y, hT⟩ := hT
  have HZ := szRecordS_sum v0 l 1048576 w h0 hlm0 hs0 (Nat.le_refl _)
  go_enter Tryd.func5, Tryd.ntmps5
  go_wp2_with fail
  refine (HZ).mono ?_
  rintro e w1 (⟨z, hz, rfl, hb1⟩ | ⟨z0, hz0, rfl, hb1⟩)
  · have hd : decide (z < 0) = true := by simpa using hz
    go_wp2_with fail
    go_ret
    exact ⟨rfl, hb1⟩
  have hd0 : decide ((z0 : Int) < 0) = false := by simp
  have c1 := hb1
  have hl0 : l.length ≤ 1048576 := by omega
  go_wp2_with fail
  refine (toRecordS_any v0 l _ (h0.below c1) hl0).mono ?_
  rintro e w2 ⟨y0, rfl, hb2, hy0⟩
  have c2 := c1.trans (hb2.mono c1.size)
  go_wp2_with fail
  refine (encodeLayer_spec y0 l _ hy0.sl hl0).mono ?_
  rintro e w3 ⟨B1, rfl, hB1, hb3⟩
  have HB1 := Lib.hid hB1
  clear hB1
  generalize HC : codeL l = C at *
  have hcc : (C != C) = false := by simp
  have c3 := c2.trans (hb3.mono c2.size)
  go_wp2_with fail
  refine (toRecordS_any v0 l _ (h0.below c3) hl0).mono ?_
  rintro e w4 ⟨x0, rfl, hb4, hx0⟩
  have c4 := c3.trans (hb4.mono c3.size)
  go_wp2_with fail
  have HIM := encodeLayer_impl x0 l x y _ hx0.sl hl0 (fun r hm => (hs0 r hm).1) (hT.below c4 (Nat.le_refl _))
  rw [HC] at HIM
  clear HC
  refine HIM.mono ?_
  rintro e w5 ⟨B2, rfl, hB2, hb5⟩
  obtain rfl : B1 = B2 := str_of_list (HB1.out.trans hB2.symm)
  clear hB2 HB1
  have c5 := c4.trans (hb5.mono c4.size)
  replace hx0 := hx0.below hb5
  go_wp2_with fail
  refine (toRecordS_any v0 l _ (h0.below c5) hl0).mono ?_
  rintro e w6 ⟨x0', rfl, hb6, hx0'⟩
  have c6 := c5.trans (hb6.mono c5.size)
  replace hx0 := hx0.below hb6
  go_wp2_with fail
  refine (eqRecordS_same x0 x0' l _ hx0.sl hx0'.sl hl0).mono ?_
  rintro e w7 ⟨rfl, hb7⟩
  go_wp2_with fail
  go_ret
  exact ⟨rfl, c6.trans (hb7.mono c6.size)⟩

theorem own : ownKnob Tryd.prog.godebug = none := by kernel_rfl
theorem laidOut : laidOutB Tryd.prog = true := by kernel_rfl

theorem contract (H : Type) (enc : TypeId × Value → H) (W : World) (base : Nat) (args : Array Value) (ds gs : List (DataW H)) (before : List MemPlace)
    (hval : ∀ (j : Nat) t v, Tryd.f5.params[j]? = some t → args[j]? = some v → Value.okWide Tryd.prog W .any base t v)
    (hW : DataW.Whole enc Tryd.prog Tryd.f5.params.toList Rows.fnExactEncodeLayerSpec.vars false W args.toList ds gs before) (hL : laidMetH Tryd.prog Rows.fnExactEncodeLayerRow.laid W) :
    Calls Tryd.prog 5 args W fun e W' => ∃ v, e = .returned v ∧ Rows.fnExactEncodeLayerSpec.post enc Tryd.prog Tryd.f5 false true false false W args v W' := by
  have hW' := hW
  obtain ⟨p, q, hA0, hV, rfl, hfz, hnd⟩ := hW
  have hA : DataW.TrodAll enc Tryd.prog W 0 (fun _ => true) true Tryd.f5.params.toList args.toList ds p := hA0
  rw [Tryd.params5] at hA hval
  obtain ⟨v0, vs0, d0, ds0, p0, q0, hargs, rfl, rfl, h0, r0⟩ := trodAll_cons hA
  obtain ⟨rfl, rfl, rfl⟩ := trodAll_nil r0
  obtain rfl : args = #[v0] := by cases args; simp_all
  have k0 := h0
  have lt0 : ∀ x ∈ p0, x.block < W.heap.size := by obtain ⟨m, hm⟩ := k0; exact DataW.trod_lt m _ _ _ hm
  obtain ⟨a0, len0, cap0, rfl⟩ := okWide_slice Tryd.underlying34 (hval 0 34 v0 rfl rfl)
  obtain ⟨f0, hf0⟩ := h0
  obtain ⟨u0, L0, e0, hsl0, hlen0, hs0⟩ := Recs.open_recs Tryd.underlying34 hf0
  obtain rfl : Value.slice a0 len0 cap0 = u0 := by simpa [Value.cells] using e0
  clear hA0 hA
  obtain ⟨g0, g1, g2, rfl⟩ := Recs.vars3 hV
  have hT := Recs.laid3 hL
  refine (walk _ L0 W hsl0 hlen0 hs0 hT).mono fun e W' ⟨he, bel⟩ => ?_
  subst he
  have hv' := bel.trodVars (enc := enc) laidOut (by kernel_rfl) hV
  exact ⟨_, rfl, _, _, _, [], _, _, hW', trodAll_mk1 (shut_bool Tryd.underlying4 _), (trodAll_cons_mk (Below.trod laidOut (by kernel_rfl) (of_decide_eq_true (by kernel_rfl)) k0 bel lt0) trodAll_mk0), hv', bel.frame _, fun h => by cases h⟩

theorem laid_met (os : Os) : laidMetH Tryd.prog Rows.fnExactEncodeLayerRow.laid ((World.laidAll Tryd.prog os Rows.fnExactEncodeLayerRow.laid).forCall (fun _ _ => 0) ⟨#[], #[.slice none 0 0], []⟩).memory := by
  rw [MakeChecks.laidMetH_plain _ _ _ (by kernel_rfl)]
  exact laidMet_laidAll _ (by kernel_rfl) (by kernel_rfl)

set_option maxRecDepth 100000 in
theorem lifted (os : Os) (started : os.Started) (H : Type) (enc : TypeId × Value → H) :
    ReturnsInHanded {} Tryd.checked os 5 .any (fun w args => (Rows.fnExactEncodeLayerSpec.pre enc Tryd.prog Tryd.f5 Rows.fnExactEncodeLayerRow.domain false w args ∧ laidMetH Tryd.prog Rows.fnExactEncodeLayerRow.laid w) ∧ sizedMet enc Tryd.prog Tryd.f5 (OpenSpec.ofChange Rows.fnExactEncodeLayerSpec) false w args)
      (Rows.fnExactEncodeLayerSpec.post enc Tryd.prog Tryd.f5 false true false false) := by
  refine returnsInHanded_of_change_and (C := Tryd.checked) (X := fun w _ => laidMetH Tryd.prog Rows.fnExactEncodeLayerRow.laid w) (fun _ _ _ hh h => h.of_heap hh) own started (by kernel_rfl) Tryd.func5
    (ChangeSpec.witness_shaped (enc := enc) (C := Tryd.checked) (os := os) (X := fun w _ => laidMetH Tryd.prog Rows.fnExactEncodeLayerRow.laid w) false (World.laidAll Tryd.prog os Rows.fnExactEncodeLayerRow.laid) #[.slice none 0 0] 8 (World.laidAll_os _ _ _)
      (World.shaped_of_ZipB (by kernel_rfl) (by kernel_rfl)) (by kernel_rfl) (by kernel_rfl) (by kernel_rfl)
      (laid_met os)) ?_
  intro W base args ds gs before hval hW _ _ hL _
  exact contract H enc W base args ds gs before hval hW hL

set_option maxHeartbeats 8000000 in
theorem said : Rows.FnExactEncodeLayerSaid :=
  OpenClaim.holds_of_wide 5 Tryd.f5 rfl rfl rfl rfl rfl rfl rfl ⟨rfl, rfl, rfl, rfl, rfl⟩ rfl rfl rfl rfl rfl (by as_aux_lemma => kernel_rfl) Tryd.func5 (by as_aux_lemma => kernel_rfl)
    (of_decide_eq_true (by as_aux_lemma => kernel_rfl)) (by unfold Func.isWrapper; first | (rw [if_pos (by decide +kernel)]; kernel_rfl) | (rw [if_neg (by decide +kernel)]; exact ⟨rfl, rfl⟩))
    (fun os started H enc _ => lifted os started H enc)

/-- No parameter wants a stand-in; the program's own looks are as the card says. -/
theorem plain (f : FuncId) (fn : Func) (hf : Tryd.pinned.checked.prog.funcNamed Rows.fnExactEncodeLayerRow.func = some f) (hfn : Tryd.pinned.checked.prog.funcs[f]? = some fn) :
    true = Tryd.pinned.checked.prog.looks [] ∧ ∀ (j : Nat) t, fn.params[j]? = some t → Tryd.pinned.checked.prog.wantsStandIn t = false := by
  obtain rfl : f = 5 := Option.some.inj ((show Tryd.prog.funcNamed Rows.fnExactEncodeLayerRow.func = some 5 by kernel_rfl).symm.trans hf) |>.symm
  obtain rfl : fn = Tryd.f5 := (Option.some.inj (Tryd.func5.symm.trans hfn)).symm
  refine ⟨by kernel_rfl, fun j t ht => ?_⟩
  rw [Tryd.params5] at ht
  have hm := Array.mem_of_getElem? ht
  have hm' : t = 34 := by simpa using hm
  rcases hm' with rfl
  · exact (show Tryd.prog.wantsStandIn 34 = false by kernel_rfl)

theorem proved : Rows.FnExactEncodeLayerCardSaid :=
  Claim7.holds_tied_plain_at .later [] _ _ _ _ said (fun _ h => by cases h) (by kernel_rfl) (fun _ h => by cases h) fnExactEncodeLayer_row_tie rfl ⟨rfl, rfl⟩ (by kernel_rfl) rfl plain (by kernel_rfl)
end Go.Proofs.YtciflchaepchiaaDoor.LawEncodeLayer
