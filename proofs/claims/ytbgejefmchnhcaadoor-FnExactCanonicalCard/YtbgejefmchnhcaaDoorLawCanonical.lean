/- For every list of records, FnExactCanonical answers true: Canonical of the program answers as its model does, in memory of its own, and the list reads as it did. Conditions: the table of kinds and the two sentinels hold what their own initialisers lay (tied to the program's text by the given tie). -/
import Derived.Test.YtbgejefmchnhcaaDoorCards
import Derived.Test.YtbgejefmchnhcaaDoorTie
import Derived.Test.YtbgejefmchnhcaaDoorLay15
import Derived.Test.YtbgejefmchnhcaaDoorLay16
import Derived.Test.YtbgejefmchnhcaaDoorLaid
import Derived.WalkKit
import Derived.ProofKit
import Derived.OpenShut
import Derived.ShutString
import Derived.ChangeOld
import Derived.ChangeVars
import Derived.OpenVars
import Derived.Below
import Derived.Lay
import Derived.LaidMore
import Derived.Stop.Joined
import Derived.SevenTiedAt
import Derived.Deep.DeepHandedRow
import Derived.Lib.LaidTab
namespace Go.Proofs.YtbgejefmchnhcaaDoor.LawCanonical
open Go.ChangeShapes Go.WideShapes Go.ChangeAt Go.RowKit
open Go.ChangeMaps (open_string shut_string)
open Recs
set_option linter.unusedVariables false
set_option maxRecDepth 100000

theorem kept {w w' : World} {base : Nat} {v : Value} {n : Nat} {M : List R} {row : Option Nat} (h : RowOf w base v n M) (hg : w.grownBy w' row) (hne : v.ownBlock = none ∨ v.ownBlock ≠ row) : RowOf w' base v n M := ⟨h.1, h.2.kept hg hne⟩
/-- Two rows, the second made behind the first. -/
theorem apart {w w' : World} {b1 : Nat} {v1 v2 : Value} {n m : Nat} {M N : List R} (h : RowOf w b1 v1 n M) (k : RowOf w' w.heap.size v2 m N) : (v1.ownBlock = none ∨ v1.ownBlock ≠ v2.ownBlock) ∧ (v2.ownBlock = none ∨ v2.ownBlock ≠ v1.ownBlock) := by
  have key : ∀ j, v1.ownBlock = some j → v2.ownBlock = some j → False := fun j h1 h2 => by
    have a := (h.2.lt j h1).2
    have b := (k.2.lt j h2).1
    omega
  constructor
  · cases h1 : v1.ownBlock with
    | none => exact .inl rfl
    | some j => exact .inr fun e => key j h1 e.symm
  · cases h2 : v2.ownBlock with
    | none => exact .inl rfl
    | some j => exact .inr fun e => key j e.symm h2
theorem low {w : World} {base b : Nat} {v : Value} {n : Nat} {M : List R} (h : RowOf w base v n M) (hb : b ≤ base) : ∀ k, v.ownBlock = some k → b ≤ k := fun k hk => Nat.le_trans hb (h.2.lt k hk).1
theorem can_len {l : List R} (hl : l.length ≤ 1048576) : (canC l).length ≤ 1048576 := by
  unfold canC
  split
  · have := canon_len l; omega
  · simp

set_option maxHeartbeats 3200000 in
theorem walk (v : Value) (l : List R) (w : World) (h : RecSl w v l) (hlm : l.length ≤ maxLen) (hs : ∀ r ∈ l, r.p.size ≤ maxLen ∧ r.b.size ≤ maxLen) (hT : ∃ x y, Three w x y) :
    Calls Tryd.prog 6 #[v] w fun e w' => e = .returned (.bool true) ∧ Below w.heap.size w w' := by
  obtain ⟨x, y, hT⟩ := hT
  have HZ := szRecordS_any v l 1048576 w h hlm hs (Nat.le_refl _)
  go_enter Tryd.func6, Tryd.ntmps6
  go_wp2_with fail
  refine HZ.mono ?_
  rintro e w1 (⟨z, hz, rfl, hb1⟩ | ⟨z, hz, hl, rfl, hb1⟩)
  · have hd : decide (z < 0) = true := by simpa using hz
    go_wp2_with fail
    go_ret
    exact ⟨rfl, hb1⟩
  have hd : decide ((z : Int) < 0) = false := by simp
  have hcl := can_len hl
  go_wp2_with fail
  refine (toRecordS_any v l _ (h.below hb1) hl).mono ?_
  rintro e w2 ⟨x2, rfl, hb2, hr2⟩
  have c2 := hb1.trans (hb2.mono hb1.size)
  go_wp2_with fail
  refine (canonical_spec x2 l _ hr2.sl hl).mono ?_
  rintro e w3 ⟨s, rfl, hb3, hs3⟩
  have c3 := c2.trans (hb3.mono c2.size)
  go_wp2_with fail
  refine (toRecordS_any v l _ (h.below c3) hl).mono ?_
  rintro e w4 ⟨x4, rfl, hb4, hr4⟩
  have c4 := c3.trans (hb4.mono c3.size)
  have apS := apart hs3 hr4
  have hs4 := hs3.below hb4
  go_wp2_with fail
  refine (canonical_impl x4 l x y _ hr4.sl hl (fun r hm => (hs r hm).1) (hT.below c4 (Nat.le_refl _))).mono ?_
  rintro e w5 ⟨f, rfl, hb5, hf5⟩
  have c5 := c4.trans (hb5.mono c4.size)
  have apF := apart hr4 hf5
  have apSF := apart hs4 hf5
  have hs5 := hs4.below hb5
  have hr5 := hr4.below hb5
  go_wp2_with fail
  refine (eqRecordS_same f s (canC l) _ hf5.sl hs5.sl hcl).mono ?_
  rintro e w6 ⟨rfl, hb6⟩
  have c6 := c5.trans (hb6.mono c5.size)
  have hs6 := hs5.below hb6
  have hr6 := hr5.below hb6
  have hf6 := hf5.below hb6
  go_wp2_with fail
  refine (toRecordS_any v l _ (h.below c6) hl).mono ?_
  rintro e w7 ⟨x7, rfl, hb7, hr7⟩
  have c7 := c6.trans (hb7.mono c6.size)
  have hs7 := hs6.below hb7
  have hr7' := hr6.below hb7
  have hf7 := hf6.below hb7
  go_wp2_with fail
  refine (eqRecordS_same x4 x7 l _ hr7'.sl hr7.sl hl).mono ?_
  rintro e w8 ⟨rfl, hb8⟩
  have c8 := c7.trans (hb8.mono c7.size)
  have hs8 := hs7.below hb8
  have hr8 := hr7'.below hb8
  have hf8 := hf7.below hb8
  go_wp2_with fail
  refine (markRecordS_any x4 _ _ _ 1 _ hr8 (by omega) (by omega)).mono ?_
  rintro e w9 ⟨rfl, hm9, hg9⟩
  have c9 : Below w.heap.size w w9 := c8.grown hg9 c8.size (low hr8 c3.size)
  have hs9 := kept hs8 hg9 apS.1
  have hf9 := kept hf8 hg9 apF.2
  have hd9 : decide ((1 : Int) + 5 * (l.length : Int) < 0) = false := by simp; omega
  clear hg9 hm9
  go_wp2_with fail
  refine (eqRecordS_same f s (canC l) _ hf9.sl hs9.sl hcl).mono ?_
  rintro e w10 ⟨rfl, hb10⟩
  have c10 := c9.trans (hb10.mono c9.size)
  have hs10 := hs9.below hb10
  have hf10 := hf9.below hb10
  go_wp2_with fail
  refine (markRecordS_any f _ _ _ 1 _ hf10 (by omega) (by omega)).mono ?_
  rintro e w11 ⟨rfl, hf11, hg11⟩
  have c11 : Below w.heap.size w w11 := c10.grown hg11 c10.size (low hf10 c4.size)
  have hs11 := kept hs10 hg11 apSF.1
  clear hg11
  go_wp2_with fail
  refine (heldRecordS_any f _ _ 1 _ hf11 (by omega) (by omega)).mono ?_
  rintro e w12 ⟨rfl, hb12⟩
  have c12 := c11.trans (hb12.mono c11.size)
  have hs12 := hs11.below hb12
  have hf12 := hf11.below hb12
  have hd12 : decide ((1 : Int) + 5 * ((canC l).length : Int) < 0) = false := by simp; omega
  go_wp2_with fail
  refine (toRecordS_any v l _ (h.below c12) hl).mono ?_
  rintro e w13 ⟨x13, rfl, hb13, hr13⟩
  have c13 := c12.trans (hb13.mono c12.size)
  have hs13 := hs12.below hb13
  have hf13 := hf12.below hb13
  go_wp2_with fail
  refine (canonical_impl x13 l x y _ hr13.sl hl (fun r hm => (hs r hm).1) (hT.below c13 (Nat.le_refl _))).mono ?_
  rintro e w14 ⟨f', rfl, hb14, hf14'⟩
  have c14 := c13.trans (hb14.mono c13.size)
  have hs14 := hs13.below hb14
  have hf14 := hf13.below hb14
  go_wp2_with fail
  refine (eqRecordS_same f' s (canC l) _ hf14'.sl hs14.sl hcl).mono ?_
  rintro e w15 ⟨rfl, hb15⟩
  have c15 := c14.trans (hb15.mono c14.size)
  go_wp2_with fail
  refine (heldRecordS_any f _ _ 1 _ (hf14.below hb15) (by omega) (by omega)).mono ?_
  rintro e w16 ⟨rfl, hb16⟩
  go_wp2_with fail
  go_ret
  exact ⟨rfl, c15.trans (hb16.mono c15.size)⟩

theorem own : ownKnob Tryd.prog.godebug = none := by kernel_rfl
theorem laidOut : laidOutB Tryd.prog = true := by kernel_rfl

theorem contract (H : Type) (enc : TypeId × Value → H) (W : World) (base : Nat) (args : Array Value) (ds gs : List (DataW H)) (before : List MemPlace)
    (hval : ∀ (j : Nat) t v, Tryd.f6.params[j]? = some t → args[j]? = some v → Value.okWide Tryd.prog W .any base t v)
    (hW : DataW.Whole enc Tryd.prog Tryd.f6.params.toList Rows.fnExactCanonicalSpec.vars false W args.toList ds gs before) (hL : laidMetH Tryd.prog Rows.fnExactCanonicalRow.laid W) :
    Calls Tryd.prog 6 args W fun e W' => ∃ v, e = .returned v ∧ Rows.fnExactCanonicalSpec.post enc Tryd.prog Tryd.f6 false true false false W args v W' := by
  have hW' := hW
  obtain ⟨p, q, hA0, hV, rfl, hfz, hnd⟩ := hW
  have hA : DataW.TrodAll enc Tryd.prog W 0 (fun _ => true) true Tryd.f6.params.toList args.toList ds p := hA0
  rw [Tryd.params6] at hA hval
  obtain ⟨v0, vs0, d0, ds0, p0, q0, hargs, rfl, rfl, h0, r0⟩ := trodAll_cons hA
  obtain ⟨rfl, rfl, rfl⟩ := trodAll_nil r0
  obtain rfl : args = #[v0] := by cases args; simp_all
  have k0 := h0
  have lt0 : ∀ x ∈ p0, x.block < W.heap.size := by obtain ⟨m, hm⟩ := k0; exact DataW.trod_lt m _ _ _ hm
  obtain ⟨a0, len0, cap0, rfl⟩ := okWide_slice Tryd.underlying22 (hval 0 22 v0 rfl rfl)
  obtain ⟨f0, hf0⟩ := h0
  obtain ⟨u0, L0, e0, hsl0, hlen0, hs0⟩ := Recs.open_recs Tryd.underlying22 hf0
  obtain rfl : Value.slice a0 len0 cap0 = u0 := by simpa [Value.cells] using e0
  clear hA0 hA
  obtain ⟨g0, g1, g2, rfl⟩ := Recs.vars3 hV
  have hT := Recs.laid3 hL
  refine (walk _ L0 W hsl0 hlen0 hs0 hT).mono fun e W' ⟨he, bel⟩ => ?_
  subst he
  have hv' := bel.trodVars (enc := enc) laidOut (by kernel_rfl) hV
  exact ⟨_, rfl, _, _, _, [], _, _, hW', trodAll_mk1 (shut_bool Tryd.underlying4 _), (trodAll_cons_mk (Below.trod laidOut (by kernel_rfl) (of_decide_eq_true (by kernel_rfl)) k0 bel lt0) trodAll_mk0), hv', bel.frame _, fun h => by cases h⟩

theorem laid_met (os : Os) : laidMetH Tryd.prog Rows.fnExactCanonicalRow.laid ((World.laidAll Tryd.prog os Rows.fnExactCanonicalRow.laid).forCall (fun _ _ => 0) ⟨#[], #[.slice none 0 0], []⟩).memory := by
  rw [MakeChecks.laidMetH_plain _ _ _ (by kernel_rfl)]
  exact laidMet_laidAll _ (by kernel_rfl) (by kernel_rfl)

set_option maxRecDepth 100000 in
theorem lifted (os : Os) (started : os.Started) (H : Type) (enc : TypeId × Value → H) :
    ReturnsInHanded {} Tryd.checked os 6 .any (fun w args => (Rows.fnExactCanonicalSpec.pre enc Tryd.prog Tryd.f6 Rows.fnExactCanonicalRow.domain false w args ∧ laidMetH Tryd.prog Rows.fnExactCanonicalRow.laid w) ∧ sizedMet enc Tryd.prog Tryd.f6 (OpenSpec.ofChange Rows.fnExactCanonicalSpec) false w args)
      (Rows.fnExactCanonicalSpec.post enc Tryd.prog Tryd.f6 false true false false) := by
  refine returnsInHanded_of_change_and (C := Tryd.checked) (X := fun w _ => laidMetH Tryd.prog Rows.fnExactCanonicalRow.laid w) (fun _ _ _ hh h => h.of_heap hh) own started (by kernel_rfl) Tryd.func6
    (ChangeSpec.witness_shaped (enc := enc) (C := Tryd.checked) (os := os) (X := fun w _ => laidMetH Tryd.prog Rows.fnExactCanonicalRow.laid w) false (World.laidAll Tryd.prog os Rows.fnExactCanonicalRow.laid) #[.slice none 0 0] 8 (World.laidAll_os _ _ _)
      (World.shaped_of_ZipB (by kernel_rfl) (by kernel_rfl)) (by kernel_rfl) (by kernel_rfl) (by kernel_rfl)
      (laid_met os)) ?_
  intro W base args ds gs before hval hW _ _ hL _
  exact contract H enc W base args ds gs before hval hW hL

theorem said : Rows.FnExactCanonicalSaid :=
  OpenClaim.holds_of_wide 6 Tryd.f6 rfl rfl rfl rfl rfl rfl rfl ⟨rfl, rfl, rfl, rfl, rfl⟩ rfl rfl rfl rfl rfl (by kernel_rfl) Tryd.func6 (by kernel_rfl)
    (of_decide_eq_true (by kernel_rfl)) (by unfold Func.isWrapper; first | (rw [if_pos (by decide +kernel)]; kernel_rfl) | (rw [if_neg (by decide +kernel)]; exact ⟨rfl, rfl⟩))
    (fun os started H enc _ => lifted os started H enc)

/-- No parameter wants a stand-in; the program's own looks are as the card says. -/
theorem plain (f : FuncId) (fn : Func) (hf : Tryd.pinned.checked.prog.funcNamed Rows.fnExactCanonicalRow.func = some f) (hfn : Tryd.pinned.checked.prog.funcs[f]? = some fn) :
    true = Tryd.pinned.checked.prog.looks [] ∧ ∀ (j : Nat) t, fn.params[j]? = some t → Tryd.pinned.checked.prog.wantsStandIn t = false := by
  obtain rfl : f = 6 := Option.some.inj ((show Tryd.prog.funcNamed Rows.fnExactCanonicalRow.func = some 6 by kernel_rfl).symm.trans hf) |>.symm
  obtain rfl : fn = Tryd.f6 := (Option.some.inj (Tryd.func6.symm.trans hfn)).symm
  refine ⟨by kernel_rfl, fun j t ht => ?_⟩
  rw [Tryd.params6] at ht
  have hm := Array.mem_of_getElem? ht
  have hm' : t = 22 := by simpa using hm
  rcases hm' with rfl
  · exact (show Tryd.prog.wantsStandIn 22 = false by kernel_rfl)

theorem proved : Rows.FnExactCanonicalCardSaid :=
  Claim7.holds_tied_plain_at .later [] _ _ _ _ said (fun _ h => by cases h) (by kernel_rfl) (fun _ h => by cases h) fnExactCanonical_row_tie rfl ⟨rfl, rfl⟩ (by kernel_rfl) rfl plain (by kernel_rfl)
end Go.Proofs.YtbgejefmchnhcaaDoor.LawCanonical
