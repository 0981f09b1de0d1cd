/- For every list of nodes and every string, FnExactRemoveNode answers true: RemoveNode of the program answers as its model does, in memory of its own, and the list reads as it did. Conditions: the table of kinds and the two sentinels hold what their own initialisers lay (tied to the program's text by the given tie). -/
import Derived.Test.YtblfgnlelhjcnaaDoorCards
import Derived.Test.YtblfgnlelhjcnaaDoorTie
import Derived.Test.YtblfgnlelhjcnaaDoorBun18
import Derived.Test.YtblfgnlelhjcnaaDoorBun16
import Derived.Test.YtblfgnlelhjcnaaDoorBun7
import Derived.WalkKit
import Derived.ProofKit
import Derived.OpenShut
import Derived.ShutString
import Derived.ChangeOld
import Derived.ChangeVars
import Derived.OpenVars
import Derived.Below
import Derived.Lay
import Derived.LaidMore
import Derived.Stop.Joined
import Derived.SevenTiedAt
import Derived.Deep.DeepHandedRow
import Derived.Lib.LaidTab
namespace Go.Proofs.YtblfgnlelhjcnaaDoor.LawRemoveNode
open Go.ChangeShapes Go.WideShapes Go.ChangeAt Go.RowKit
open Go.ChangeMaps (open_string shut_string)
open Recs Paths
set_option linter.unusedVariables false
set_option maxRecDepth 100000

set_option maxHeartbeats 3200000 in
theorem walk (v : Value) (l : List R) (q : ByteArray) (hq : q.size ≤ maxLen) (w : World) (h : NodSl w v l) (hlm : l.length ≤ maxLen) (hs : ∀ r ∈ l, r.p.size ≤ maxLen ∧ r.b.size ≤ maxLen) (hT : ∃ x y, Three w x y) :
    Calls Tryd.prog 7 #[v, .string q] w fun e w' => e = .returned (.bool true) ∧ Below w.heap.size w w' := by
  obtain ⟨x, y, hT⟩ := hT
  by_cases hq2 : 1048576 < q.size
  · have hd : decide ((1048576 : Int) < (q.size : Int)) = true := by simp; omega
    go_enter Tryd.func7, Tryd.ntmps7
    go_wp2_with fail
    go_ret
    exact ⟨rfl, Below.refl _ _⟩
  have hdq : decide ((1048576 : Int) < (q.size : Int)) = false := by simp; omega
  have HZ := szNodeS_any v l 1048576 w h hlm hs (Nat.le_refl _)
  go_enter Tryd.func7, Tryd.ntmps7
  go_wp2_with fail
  refine HZ.mono ?_
  rintro e w1 (⟨z, hz, rfl, hb1⟩ | ⟨z, hz, hl, rfl, hb1⟩)
  · have hd : decide (z < 0) = true := by simpa using hz
    go_wp2_with fail
    go_ret
    exact ⟨rfl, hb1⟩
  have hd : decide ((z : Int) < 0) = false := by simp
  have hcl : (remR l q).length ≤ 1048576 := rem_len l q hl
  go_wp2_with fail
  refine (toNodeS_some v l _ (h.below hb1) hl).mono ?_
  rintro e w2 ⟨x2, rfl, hb2, hr2, hv2⟩
  have c2 := hb1.trans (hb2.mono hb1.size)
  go_wp2_with fail
  refine (removeNode_spec x2 l q _ _ hr2 hv2 hl).mono ?_
  rintro e w3 ⟨s, rfl, hb3, hs0⟩
  have c3 := c2.trans (hb3.mono c2.size)
  go_wp2_with fail
  refine (toNodeS_any v l _ (h.below c3) hl).mono ?_
  rintro e w4 ⟨x4, rfl, hb4, hr4⟩
  have apS := apart2 hs0.2.1 hr4.2.1
  have c4 := c3.trans (hb4.mono c3.size)
  replace hs0 := hs0.below hb4
  go_wp2_with fail
  refine (removeNode_impl x4 l q x y _ hr4.sl hl (fun r hm => (hs r hm).1) hq (hT.below c4 (Nat.le_refl _))).mono ?_
  rintro e w5 ⟨f, rfl, hb5, hf0⟩
  have c5 := c4.trans (hb5.mono c4.size)
  have apF := apart2 hr4.2.1 hf0.2.1
  have apSF := apart2 hs0.2.1 hf0.2.1
  replace hs0 := hs0.below hb5
  replace hr4 := hr4.below hb5
  go_wp2_with fail
  refine (eqNodeS_same f s (remR l q) _ hf0.sl hs0.sl hcl).mono ?_
  rintro e w6 ⟨rfl, hb6⟩
  have c6 := c5.trans (hb6.mono c5.size)
  replace hs0 := hs0.below hb6
  replace hf0 := hf0.below hb6
  replace hr4 := hr4.below hb6
  go_wp2_with fail
  refine (toNodeS_any v l _ (h.below c6) hl).mono ?_
  rintro e w7 ⟨x7, rfl, hb7, hr7⟩
  have c7 := c6.trans (hb7.mono c6.size)
  replace hs0 := hs0.below hb7
  replace hf0 := hf0.below hb7
  replace hr4 := hr4.below hb7
  go_wp2_with fail
  refine (eqNodeS_same x4 x7 l _ hr4.sl hr7.sl hl).mono ?_
  rintro e w8 ⟨rfl, hb8⟩
  have c8 := c7.trans (hb8.mono c7.size)
  replace hs0 := hs0.below hb8
  replace hf0 := hf0.below hb8
  replace hr4 := hr4.below hb8
  go_wp2_with fail
  refine (markNodeS_any x4 _ _ _ 1 _ hr4 (by omega) (by omega)).mono ?_
  rintro e w9 ⟨rfl, hm9, hg9⟩
  have c9 : Below w.heap.size w w9 := c8.grown hg9 c8.size (lowO hr4.2.1 c3.size)
  replace hs0 := keptN hs0 hg9 apS.1
  replace hf0 := keptN hf0 hg9 apF.2
  have hd9 : decide ((1 : Int) + 4 * (l.length : Int) < 0) = false := by simp; omega
  clear hg9 hm9
  go_wp2_with fail
  refine (eqNodeS_same f s (remR l q) _ hf0.sl hs0.sl hcl).mono ?_
  rintro e w10 ⟨rfl, hb10⟩
  have c10 := c9.trans (hb10.mono c9.size)
  replace hs0 := hs0.below hb10
  replace hf0 := hf0.below hb10
  go_wp2_with fail
  refine (markNodeS_any f _ _ _ 1 _ hf0 (by omega) (by omega)).mono ?_
  rintro e w11 ⟨rfl, hfm, hg11⟩
  have c11 : Below w.heap.size w w11 := c10.grown hg11 c10.size (lowO hf0.2.1 c4.size)
  replace hs0 := keptN hs0 hg11 apSF.1
  clear hg11
  go_wp2_with fail
  refine (heldNodeS_any f _ _ 1 _ hfm (by omega) (by omega)).mono ?_
  rintro e w12 ⟨rfl, hb12⟩
  have c12 := c11.trans (hb12.mono c11.size)
  replace hs0 := hs0.below hb12
  replace hfm := hfm.below hb12
  have hdH : decide ((1 : Int) + 4 * ((remR l q).length : Int) < 0) = false := by simp; omega
  go_wp2_with fail
  refine (toNodeS_any v l _ (h.below c12) hl).mono ?_
  rintro e w13 ⟨x13, rfl, hb13, hr13⟩
  have c13 := c12.trans (hb13.mono c12.size)
  replace hs0 := hs0.below hb13
  replace hfm := hfm.below hb13
  go_wp2_with fail
  refine (removeNode_impl x13 l q x y _ hr13.sl hl (fun r hm => (hs r hm).1) hq (hT.below c13 (Nat.le_refl _))).mono ?_
  rintro e w14 ⟨f', rfl, hb14, hf'⟩
  have c14 := c13.trans (hb14.mono c13.size)
  replace hs0 := hs0.below hb14
  replace hfm := hfm.below hb14
  go_wp2_with fail
  refine (eqNodeS_same f' s (remR l q) _ hf'.sl hs0.sl hcl).mono ?_
  rintro e w15 ⟨rfl, hb15⟩
  have c15 := c14.trans (hb15.mono c14.size)
  replace hfm := hfm.below hb15
  go_wp2_with fail
  refine (heldNodeS_any f _ _ 1 _ hfm (by omega) (by omega)).mono ?_
  rintro e w16 ⟨rfl, hb16⟩
  go_wp2_with fail
  go_ret
  exact ⟨rfl, c15.trans (hb16.mono c15.size)⟩

theorem own : ownKnob Tryd.prog.godebug = none := by kernel_rfl
theorem laidOut : laidOutB Tryd.prog = true := by kernel_rfl

theorem contract (H : Type) (enc : TypeId × Value → H) (W : World) (base : Nat) (args : Array Value) (ds gs : List (DataW H)) (before : List MemPlace)
    (hval : ∀ (j : Nat) t v, Tryd.f7.params[j]? = some t → args[j]? = some v → Value.okWide Tryd.prog W .any base t v)
    (hW : DataW.Whole enc Tryd.prog Tryd.f7.params.toList Rows.fnExactRemoveNodeSpec.vars false W args.toList ds gs before) (hL : laidMetH Tryd.prog Rows.fnExactRemoveNodeRow.laid W) :
    Calls Tryd.prog 7 args W fun e W' => ∃ v, e = .returned v ∧ Rows.fnExactRemoveNodeSpec.post enc Tryd.prog Tryd.f7 false true false false W args v W' := by
  have hW' := hW
  obtain ⟨p, q, hA0, hV, rfl, hfz, hnd⟩ := hW
  have hA : DataW.TrodAll enc Tryd.prog W 0 (fun _ => true) true Tryd.f7.params.toList args.toList ds p := hA0
  rw [Tryd.params7] at hA hval
  obtain ⟨v0, vs0, d0, ds0, p0, q0, hargs, rfl, rfl, h0, r0⟩ := trodAll_cons hA
  obtain ⟨v1, vs1, d1, ds1, p1, q1, rfl, rfl, rfl, h1, r1⟩ := trodAll_cons r0
  obtain ⟨rfl, rfl, rfl⟩ := trodAll_nil r1
  obtain rfl : args = #[v0, v1] := by cases args; simp_all
  have k0 := h0
  have lt0 : ∀ x ∈ p0, x.block < W.heap.size := by obtain ⟨m, hm⟩ := k0; exact DataW.trod_lt m _ _ _ hm
  obtain ⟨a0, len0, cap0, rfl⟩ := okWide_slice Tryd.underlying22 (hval 0 22 v0 rfl rfl)
  obtain ⟨f0, hf0⟩ := h0
  obtain ⟨u0, L0, e0, hsl0, hlen0, hs0⟩ := Recs.open_nods Tryd.underlying22 hf0
  obtain rfl : Value.slice a0 len0 cap0 = u0 := by simpa [Value.cells] using e0
  obtain ⟨a1, rfl, rfl, rfl, w1⟩ := open_string Tryd.underlying9 (hval 1 9 v1 rfl rfl) h1
  clear hA0 hA
  obtain ⟨g0, g1, g2, rfl⟩ := Recs.vars3 hV
  have hT := Recs.laid3 hL
  refine (walk _ L0 a1 w1 W hsl0 hlen0 hs0 hT).mono fun e W' ⟨he, bel⟩ => ?_
  subst he
  have hv' := bel.trodVars (enc := enc) laidOut (by kernel_rfl) hV
  exact ⟨_, rfl, _, _, _, [], _, _, hW', trodAll_mk1 (shut_bool Tryd.underlying4 _), (trodAll_cons_mk (Below.trod laidOut (by kernel_rfl) (of_decide_eq_true (by kernel_rfl)) k0 bel lt0) (trodAll_cons_mk (shut_string Tryd.underlying9 w1) trodAll_mk0)), hv', bel.frame _, fun h => by cases h⟩

theorem laid_met (os : Os) : laidMetH Tryd.prog Rows.fnExactRemoveNodeRow.laid ((World.laidAll Tryd.prog os Rows.fnExactRemoveNodeRow.laid).forCall (fun _ _ => 0) ⟨#[], #[.slice none 0 0, .string ByteArray.empty], []⟩).memory := by
  rw [MakeChecks.laidMetH_plain _ _ _ (by kernel_rfl)]
  exact laidMet_laidAll _ (by kernel_rfl) (by kernel_rfl)

set_option maxRecDepth 100000 in
theorem lifted (os : Os) (started : os.Started) (H : Type) (enc : TypeId × Value → H) :
    ReturnsInHanded {} Tryd.checked os 7 .any (fun w args => (Rows.fnExactRemoveNodeSpec.pre enc Tryd.prog Tryd.f7 Rows.fnExactRemoveNodeRow.domain false w args ∧ laidMetH Tryd.prog Rows.fnExactRemoveNodeRow.laid w) ∧ sizedMet enc Tryd.prog Tryd.f7 (OpenSpec.ofChange Rows.fnExactRemoveNodeSpec) false w args)
      (Rows.fnExactRemoveNodeSpec.post enc Tryd.prog Tryd.f7 false true false false) := by
  refine returnsInHanded_of_change_and (C := Tryd.checked) (X := fun w _ => laidMetH Tryd.prog Rows.fnExactRemoveNodeRow.laid w) (fun _ _ _ hh h => h.of_heap hh) own started (by kernel_rfl) Tryd.func7
    (ChangeSpec.witness_shaped (enc := enc) (C := Tryd.checked) (os := os) (X := fun w _ => laidMetH Tryd.prog Rows.fnExactRemoveNodeRow.laid w) false (World.laidAll Tryd.prog os Rows.fnExactRemoveNodeRow.laid) #[.slice none 0 0, .string ByteArray.empty] 8 (World.laidAll_os _ _ _)
      (World.shaped_of_ZipB (by kernel_rfl) (by kernel_rfl)) (by kernel_rfl) (by kernel_rfl) (by kernel_rfl)
      (laid_met os)) ?_
  intro W base args ds gs before hval hW _ _ hL _
  exact contract H enc W base args ds gs before hval hW hL

theorem said : Rows.FnExactRemoveNodeSaid :=
  OpenClaim.holds_of_wide 7 Tryd.f7 rfl rfl rfl rfl rfl rfl rfl ⟨rfl, rfl, rfl, rfl, rfl⟩ rfl rfl rfl rfl rfl (by kernel_rfl) Tryd.func7 (by kernel_rfl)
    (of_decide_eq_true (by kernel_rfl)) (by unfold Func.isWrapper; first | (rw [if_pos (by decide +kernel)]; kernel_rfl) | (rw [if_neg (by decide +kernel)]; exact ⟨rfl, rfl⟩))
    (fun os started H enc _ => lifted os started H enc)

/-- No parameter wants a stand-in; the program's own looks are as the card says. -/
theorem plain (f : FuncId) (fn : Func) (hf : Tryd.pinned.checked.prog.funcNamed Rows.fnExactRemoveNodeRow.func = some f) (hfn : Tryd.pinned.checked.prog.funcs[f]? = some fn) :
    true = Tryd.pinned.checked.prog.looks [] ∧ ∀ (j : Nat) t, fn.params[j]? = some t → Tryd.pinned.checked.prog.wantsStandIn t = false := by
  obtain rfl : f = 7 := Option.some.inj ((show Tryd.prog.funcNamed Rows.fnExactRemoveNodeRow.func = some 7 by kernel_rfl).symm.trans hf) |>.symm
  obtain rfl : fn = Tryd.f7 := (Option.some.inj (Tryd.func7.symm.trans hfn)).symm
  refine ⟨by kernel_rfl, fun j t ht => ?_⟩
  rw [Tryd.params7] at ht
  have hm := Array.mem_of_getElem? ht
  have hm' : t = 22 ∨ t = 9 := by simpa using hm
  rcases hm' with rfl | rfl
  · exact (show Tryd.prog.wantsStandIn 22 = false by kernel_rfl)
  · exact (show Tryd.prog.wantsStandIn 9 = false by kernel_rfl)

theorem proved : Rows.FnExactRemoveNodeCardSaid :=
  Claim7.holds_tied_plain_at .later [] _ _ _ _ said (fun _ h => by cases h) (by kernel_rfl) (fun _ h => by cases h) fnExactRemoveNode_row_tie rfl ⟨rfl, rfl⟩ (by kernel_rfl) rfl plain (by kernel_rfl)
end Go.Proofs.YtblfgnlelhjcnaaDoor.LawRemoveNode
