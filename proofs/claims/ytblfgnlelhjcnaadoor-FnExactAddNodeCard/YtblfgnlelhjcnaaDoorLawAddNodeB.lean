/- For every list of nodes and every node, FnExactAddNode answers true: AddNode of the program answers as its model does, in memory of its own, and the list reads as it did. Conditions: the table of kinds and the two sentinels hold what their own initialisers lay (tied to the program's text by the given tie). -/
import Derived.Test.YtblfgnlelhjcnaaDoorCards
import Derived.Test.YtblfgnlelhjcnaaDoorTie
import Derived.Test.YtblfgnlelhjcnaaDoorBun18
import Derived.Test.YtblfgnlelhjcnaaDoorBun16
import Derived.Test.YtblfgnlelhjcnaaDoorBun7
import Derived.Deep.RegionHeld3
import Derived.WalkKit
import Derived.ProofKit
import Derived.OpenShut
import Derived.ShutString
import Derived.ChangeOld
import Derived.ChangeVars
import Derived.OpenVars
import Derived.Below
import Derived.Lay
import Derived.LaidMore
import Derived.Stop.Joined
import Derived.SevenTiedAt
import Derived.Deep.DeepHandedRow
import Derived.Lib.LaidTab
namespace Go.Proofs.YtblfgnlelhjcnaaDoor.LawAddNode
open Go.ChangeShapes Go.WideShapes Go.ChangeAt Go.RowKit
open Go.ChangeMaps (open_string shut_string)
open Recs Paths
set_option linter.unusedVariables false
set_option maxRecDepth 100000

/-- A block that holds a node of the laws. -/
def ItemL (w : World) (g : Nat) (k m : Int) (p b : ByteArray) : Prop := w.heap[g]? = some (.cells #[.int .i64 k, .string p, .string b, .int .i64 m] 41 (0, 0))
theorem ItemL.below {w w' : World} {g : Nat} {k m : Int} {p b : ByteArray} (h : ItemL w g k m p b) (hb : Below w.heap.size w w') : ItemL w' g k m p b := (hb.block _ (Array.getElem?_eq_some_iff.1 h).1).trans h
theorem ItemL.nod {w : World} {g : Nat} {k m : Int} {p b : ByteArray} (h : ItemL w g k m p b) : w.cell? ⟨g, 0, none⟩ = some (.int .i64 k) ∧ w.cell? ⟨g, 1, none⟩ = some (.string p) ∧ w.cell? ⟨g, 2, none⟩ = some (.string b) ∧ w.cell? ⟨g, 3, none⟩ = some (.int .i64 m) := by
  unfold ItemL at h
  refine ⟨?_, ?_, ?_, ?_⟩ <;> (unfold World.cell?; simp only [h]; rfl)

set_option maxHeartbeats 3200000 in
theorem walk (v : Value) (l : List R) (nk nm : Int) (np nb : ByteArray) (hnp : np.size ≤ maxLen) (hnb : nb.size ≤ maxLen) (w : World) (h : NodSl w v l) (hlm : l.length ≤ maxLen) (hs : ∀ r ∈ l, r.p.size ≤ maxLen ∧ r.b.size ≤ maxLen) (hT : ∃ x y, Three w x y) :
    Calls Tryd.prog 6 #[v, .agg #[.int .i64 nk, .string np, .string nb, .int .i64 nm]] w fun e w' => e = .returned (.bool true) ∧ Below w.heap.size w w' := by
  obtain ⟨x, y, hT⟩ := hT
  have hbB : Below w.heap.size w (w.alloc (.cells #[.int .i64 nk, .string np, .string nb, .int .i64 nm] 41)) := (Below.refl _ _).alloc (Nat.le_refl _) _
  have IL : Hid (ItemL (w.alloc (.cells #[.int .i64 nk, .string np, .string nb, .int .i64 nm] 41)) w.heap.size nk nm np nb) := alloc_at w _
  have h0 := h.below hbB
  have hT0 := hT.below hbB (Nat.le_refl _)
  have HZ := szNodeS_any v l 1048576 _ h0 hlm hs (Nat.le_refl _)
  go_enter Tryd.func6, Tryd.ntmps6
  go_wp2_with fail
  generalize w.alloc (.cells #[.int .i64 nk, .string np, .string nb, .int .i64 nm] 41) = W at *
  have HKS : Hid (∀ w', Below W.heap.size W w' → w'.cell? ⟨w.heap.size, 0, none⟩ = some (.int .i64 nk) ∧ w'.cell? ⟨w.heap.size, 1, none⟩ = some (.string np) ∧ w'.cell? ⟨w.heap.size, 2, none⟩ = some (.string nb) ∧ w'.cell? ⟨w.heap.size, 3, none⟩ = some (.int .i64 nm)) := fun w' hb => (IL.out.below hb).nod
  refine HZ.mono ?_
  rintro e w1 (⟨z, hz, rfl, hb1⟩ | ⟨z, hz, hl, rfl, hb1⟩)
  · have hd : decide (z < 0) = true := by simpa using hz
    go_wp2_with fail
    go_ret
    exact ⟨rfl, hbB.trans (hb1.mono hbB.size)⟩
  have hd : decide ((z : Int) < 0) = false := by simp
  obtain ⟨b0, b1, b2, b3⟩ := (IL.out.below hb1).nod
  go_wp2_with fail
  refine (szNode_at nk nm np nb z _ hnp hnb hz).mono ?_
  rintro e w1' (⟨z', hz', rfl, hb1'⟩ | ⟨z', hz', rfl, hb1'⟩)
  · have hd' : decide (z' < 0) = true := by simpa using hz'
    go_wp2_with fail
    go_ret
    exact ⟨rfl, hbB.trans ((hb1.trans (hb1'.mono hb1.size)).mono hbB.size)⟩
  have hd' : decide ((z' : Int) < 0) = false := by simp
  replace hb1 := hb1.trans (hb1'.mono hb1.size)
  have hcl : (addR l (mkN nk nm np nb)).length ≤ 1048576 := add_len l _ hl
  have hbd := hb1.drew
  go_wp2
  go_region_held3 (fun w' => w'.cell? ⟨w.heap.size, 0, none⟩ = some (.int .i64 nk) ∧ w'.cell? ⟨w.heap.size, 1, none⟩ = some (.string np) ∧ w'.cell? ⟨w.heap.size, 2, none⟩ = some (.string nb) ∧ w'.cell? ⟨w.heap.size, 3, none⟩ = some (.int .i64 nm)) (first | exact HKS.out _ c4 | exact HKS.out _ c3 | exact HKS.out _ c2 | exact HKS.out _ hbd | go_keep) (first
    | (go_at_call 12; refine (toNodeS_some v l _ (h0.below hbd) hl).mono ?_; rintro e w2 ⟨x2, rfl, hb2, hr2, hv2⟩; have c2 : Below W.heap.size W w2 := hbd.trans (hb2.mono hbd.size))
    | (go_at_call 26; refine (toNode_any nk nm np nb _).mono ?_; rintro e w3 ⟨rfl, hb3⟩; have c3 : Below W.heap.size W w3 := c2.trans (hb3.mono c2.size); replace hr2 := hr2.below hb3)
    | (go_at_call 25; refine (addNode_spec x2 l (mkN nk nm np nb) rfl _ _ hr2 hv2 hl).mono ?_; rintro e w4 ⟨s, rfl, hb4, hs0⟩; have c4 : Below W.heap.size W w4 := c3.trans (hb4.mono c3.size)))
  go_wp2_with fail
  refine (toNodeS_any v l _ (h0.below c4) hl).mono ?_
  rintro e w5 ⟨x4, rfl, hb5, hr5⟩
  have apS := apart2 hs0.2.1 hr5.2.1
  have c5 := c4.trans (hb5.mono c4.size)
  replace hs0 := hs0.below hb5
  obtain ⟨b0, b1, b2, b3⟩ := (IL.out.below c5).nod
  go_wp2_with fail
  refine (toNode_any nk nm np nb _).mono ?_
  rintro e w6 ⟨rfl, hb6⟩
  have c6 := c5.trans (hb6.mono c5.size)
  replace hr5 := hr5.below hb6
  replace hs0 := hs0.below hb6
  go_wp2_with fail
  refine (addNode_impl x4 l (mkN nk nm np nb) rfl x y _ hr5.sl hl (fun r hm => (hs r hm).1) hnp (hT0.below c6 (Nat.le_refl _))).mono ?_
  rintro e w7 ⟨f, rfl, hb7, hf0⟩
  have c7 := c6.trans (hb7.mono c6.size)
  have apF := apart2 hr5.2.1 hf0.2.1
  have apSF := apart2 hs0.2.1 hf0.2.1
  replace hs0 := hs0.below hb7
  replace hr5 := hr5.below hb7
  go_wp2_with fail
  refine (eqNodeS_same f s (addR l (mkN nk nm np nb)) _ hf0.sl hs0.sl hcl).mono ?_
  rintro e w8 ⟨rfl, hb8⟩
  have c8 := c7.trans (hb8.mono c7.size)
  replace hs0 := hs0.below hb8
  replace hf0 := hf0.below hb8
  replace hr5 := hr5.below hb8
  go_wp2_with fail
  refine (toNodeS_any v l _ (h0.below c8) hl).mono ?_
  rintro e w9 ⟨x7, rfl, hb9, hr7⟩
  have c9 := c8.trans (hb9.mono c8.size)
  replace hs0 := hs0.below hb9
  replace hf0 := hf0.below hb9
  replace hr5 := hr5.below hb9
  go_wp2_with fail
  refine (eqNodeS_same x4 x7 l _ hr5.sl hr7.sl hl).mono ?_
  rintro e w10 ⟨rfl, hb10⟩
  have c10 := c9.trans (hb10.mono c9.size)
  replace hs0 := hs0.below hb10
  replace hf0 := hf0.below hb10
  replace hr5 := hr5.below hb10
  go_wp2_with fail
  refine (markNodeS_any x4 _ _ _ 1 _ hr5 (by omega) (by omega)).mono ?_
  rintro e w11 ⟨rfl, hm11, hg11⟩
  have c11 : Below W.heap.size W w11 := c10.grown hg11 c10.size (lowO hr5.2.1 c4.size)
  replace hs0 := keptN hs0 hg11 apS.1
  replace hf0 := keptN hf0 hg11 apF.2
  have hd11 : decide ((1 : Int) + 4 * (l.length : Int) < 0) = false := by simp; omega
  clear hg11 hm11
  go_wp2_with fail
  refine (eqNodeS_same f s (addR l (mkN nk nm np nb)) _ hf0.sl hs0.sl hcl).mono ?_
  rintro e w12 ⟨rfl, hb12⟩
  have c12 := c11.trans (hb12.mono c11.size)
  replace hs0 := hs0.below hb12
  replace hf0 := hf0.below hb12
  go_wp2_with fail
  refine (markNodeS_any f _ _ _ 1 _ hf0 (by omega) (by omega)).mono ?_
  rintro e w13 ⟨rfl, hfm, hg13⟩
  have c13 : Below W.heap.size W w13 := c12.grown hg13 c12.size (lowO hf0.2.1 c6.size)
  replace hs0 := keptN hs0 hg13 apSF.1
  clear hg13
  go_wp2_with fail
  refine (heldNodeS_any f _ _ 1 _ hfm (by omega) (by omega)).mono ?_
  rintro e w14 ⟨rfl, hb14⟩
  have c14 := c13.trans (hb14.mono c13.size)
  replace hs0 := hs0.below hb14
  replace hfm := hfm.below hb14
  have hdH : decide ((1 : Int) + 4 * ((addR l (mkN nk nm np nb)).length : Int) < 0) = false := by simp; omega
  have hbd := c14.drew
  go_wp2
  go_region_held3 (fun w' => w'.cell? ⟨w.heap.size, 0, none⟩ = some (.int .i64 nk) ∧ w'.cell? ⟨w.heap.size, 1, none⟩ = some (.string np) ∧ w'.cell? ⟨w.heap.size, 2, none⟩ = some (.string nb) ∧ w'.cell? ⟨w.heap.size, 3, none⟩ = some (.int .i64 nm)) (first | exact HKS.out _ c17 | exact HKS.out _ c16 | exact HKS.out _ c15 | exact HKS.out _ hbd | go_keep) (first
    | (go_at_call 12; refine (toNodeS_any v l _ (h0.below hbd) hl).mono ?_; rintro e w15 ⟨x13, rfl, hb15, hr15⟩; have c15 : Below W.heap.size W w15 := hbd.trans (hb15.mono hbd.size); replace hb15 : Below w14.heap.size w14 w15 := ((Below.refl w14.heap.size w14).drew).trans hb15; replace hs0 := hs0.below hb15; replace hfm := hfm.below hb15)
    | (go_at_call 26; refine (toNode_any nk nm np nb _).mono ?_; rintro e w16 ⟨rfl, hb16⟩; have c16 : Below W.heap.size W w16 := c15.trans (hb16.mono c15.size); replace hr15 := hr15.below hb16; replace hs0 := hs0.below hb16; replace hfm := hfm.below hb16)
    | (go_at_call 27; refine (addNode_impl x13 l (mkN nk nm np nb) rfl x y _ hr15.sl hl (fun r hm => (hs r hm).1) hnp (hT0.below c16 (Nat.le_refl _))).mono ?_; rintro e w17 ⟨f', rfl, hb17, hf'⟩; have c17 : Below W.heap.size W w17 := c16.trans (hb17.mono c16.size)))
  replace hs0 := hs0.below hb17
  replace hfm := hfm.below hb17
  go_wp2_with fail
  refine (eqNodeS_same f' s (addR l (mkN nk nm np nb)) _ hf'.sl hs0.sl hcl).mono ?_
  rintro e w18 ⟨rfl, hb18⟩
  have c18 := c17.trans (hb18.mono c17.size)
  replace hfm := hfm.below hb18
  go_wp2_with fail
  refine (heldNodeS_any f _ _ 1 _ hfm (by omega) (by omega)).mono ?_
  rintro e w19 ⟨rfl, hb19⟩
  go_wp2_with fail
  go_ret
  exact ⟨rfl, hbB.trans ((c18.trans (hb19.mono c18.size)).mono hbB.size)⟩

theorem own : ownKnob Tryd.prog.godebug = none := by kernel_rfl
theorem laidOut : laidOutB Tryd.prog = true := by kernel_rfl

theorem contract (H : Type) (enc : TypeId × Value → H) (W : World) (base : Nat) (args : Array Value) (ds gs : List (DataW H)) (before : List MemPlace)
    (hval : ∀ (j : Nat) t v, Tryd.f6.params[j]? = some t → args[j]? = some v → Value.okWide Tryd.prog W .any base t v)
    (hW : DataW.Whole enc Tryd.prog Tryd.f6.params.toList Rows.fnExactAddNodeSpec.vars false W args.toList ds gs before) (hL : laidMetH Tryd.prog Rows.fnExactAddNodeRow.laid W) :
    Calls Tryd.prog 6 args W fun e W' => ∃ v, e = .returned v ∧ Rows.fnExactAddNodeSpec.post enc Tryd.prog Tryd.f6 false true false false W args v W' := by
  have hW' := hW
  obtain ⟨p, q, hA0, hV, rfl, hfz, hnd⟩ := hW
  have hA : DataW.TrodAll enc Tryd.prog W 0 (fun _ => true) true Tryd.f6.params.toList args.toList ds p := hA0
  rw [Tryd.params6] at hA hval
  obtain ⟨v0, vs0, d0, ds0, p0, q0, hargs, rfl, rfl, h0, r0⟩ := trodAll_cons hA
  obtain ⟨v1, vs1, d1, ds1, p1, q1, rfl, rfl, rfl, h1, r1⟩ := trodAll_cons r0
  obtain ⟨rfl, rfl, rfl⟩ := trodAll_nil r1
  obtain rfl : args = #[v0, v1] := by cases args; simp_all
  have k0 := h0
  have lt0 : ∀ x ∈ p0, x.block < W.heap.size := by obtain ⟨m, hm⟩ := k0; exact DataW.trod_lt m _ _ _ hm
  obtain ⟨a0, len0, cap0, rfl⟩ := okWide_slice Tryd.underlying22 (hval 0 22 v0 rfl rfl)
  obtain ⟨f0, hf0⟩ := h0
  obtain ⟨u0, L0, e0, hsl0, hlen0, hs0⟩ := Recs.open_nods Tryd.underlying22 hf0
  obtain rfl : Value.slice a0 len0 cap0 = u0 := by simpa [Value.cells] using e0
  have k1 := h1
  have lt1 : ∀ x ∈ p1, x.block < W.heap.size := by obtain ⟨m, hm⟩ := k1; exact DataW.trod_lt m _ _ _ hm
  obtain ⟨ak1, am1, ap1, ab1, rfl, wp1, wb1⟩ := Recs.open_nod (hval 1 41 v1 rfl rfl) h1
  clear hA0 hA
  obtain ⟨g0, g1, g2, rfl⟩ := Recs.vars3 hV
  have hT := Recs.laid3 hL
  refine (walk _ L0 ak1 am1 ap1 ab1 wp1 wb1 W hsl0 hlen0 hs0 hT).mono fun e W' ⟨he, bel⟩ => ?_
  subst he
  have hv' := bel.trodVars (enc := enc) laidOut (by kernel_rfl) hV
  exact ⟨_, rfl, _, _, _, [], _, _, hW', trodAll_mk1 (shut_bool Tryd.underlying4 _), (trodAll_cons_mk (Below.trod laidOut (by kernel_rfl) (of_decide_eq_true (by kernel_rfl)) k0 bel lt0) (trodAll_cons_mk (Below.trod laidOut (by kernel_rfl) (of_decide_eq_true (by kernel_rfl)) k1 bel lt1) trodAll_mk0)), hv', bel.frame _, fun h => by cases h⟩

theorem laid_met (os : Os) : laidMetH Tryd.prog Rows.fnExactAddNodeRow.laid ((World.laidAll Tryd.prog os Rows.fnExactAddNodeRow.laid).forCall (fun _ _ => 0) ⟨#[], #[.slice none 0 0, .agg #[.int .i64 0, .string ByteArray.empty, .string ByteArray.empty, .int .i64 0]], []⟩).memory := by
  rw [MakeChecks.laidMetH_plain _ _ _ (by kernel_rfl)]
  exact laidMet_laidAll _ (by kernel_rfl) (by kernel_rfl)

set_option maxRecDepth 100000 in
theorem lifted (os : Os) (started : os.Started) (H : Type) (enc : TypeId × Value → H) :
    ReturnsInHanded {} Tryd.checked os 6 .any (fun w args => (Rows.fnExactAddNodeSpec.pre enc Tryd.prog Tryd.f6 Rows.fnExactAddNodeRow.domain false w args ∧ laidMetH Tryd.prog Rows.fnExactAddNodeRow.laid w) ∧ sizedMet enc Tryd.prog Tryd.f6 (OpenSpec.ofChange Rows.fnExactAddNodeSpec) false w args)
      (Rows.fnExactAddNodeSpec.post enc Tryd.prog Tryd.f6 false true false false) := by
  refine returnsInHanded_of_change_and (C := Tryd.checked) (X := fun w _ => laidMetH Tryd.prog Rows.fnExactAddNodeRow.laid w) (fun _ _ _ hh h => h.of_heap hh) own started (by kernel_rfl) Tryd.func6
    (ChangeSpec.witness_shaped (enc := enc) (C := Tryd.checked) (os := os) (X := fun w _ => laidMetH Tryd.prog Rows.fnExactAddNodeRow.laid w) false (World.laidAll Tryd.prog os Rows.fnExactAddNodeRow.laid) #[.slice none 0 0, .agg #[.int .i64 0, .string ByteArray.empty, .string ByteArray.empty, .int .i64 0]] 8 (World.laidAll_os _ _ _)
      (World.shaped_of_ZipB (by kernel_rfl) (by kernel_rfl)) (by kernel_rfl) (by kernel_rfl) (by kernel_rfl)
      (laid_met os)) ?_
  intro W base args ds gs before hval hW _ _ hL _
  exact contract H enc W base args ds gs before hval hW hL

theorem said : Rows.FnExactAddNodeSaid :=
  OpenClaim.holds_of_wide 6 Tryd.f6 rfl rfl rfl rfl rfl rfl rfl ⟨rfl, rfl, rfl, rfl, rfl⟩ rfl rfl rfl rfl rfl (by kernel_rfl) Tryd.func6 (by kernel_rfl)
    (of_decide_eq_true (by kernel_rfl)) (by unfold Func.isWrapper; first | (rw [if_pos (by decide +kernel)]; kernel_rfl) | (rw [if_neg (by decide +kernel)]; exact ⟨rfl, rfl⟩))
    (fun os started H enc _ => lifted os started H enc)

/-- No parameter wants a stand-in; the program's own looks are as the card says. -/
theorem plain (f : FuncId) (fn : Func) (hf : Tryd.pinned.checked.prog.funcNamed Rows.fnExactAddNodeRow.func = some f) (hfn : Tryd.pinned.checked.prog.funcs[f]? = some fn) :
    true = Tryd.pinned.checked.prog.looks [] ∧ ∀ (j : Nat) t, fn.params[j]? = some t → Tryd.pinned.checked.prog.wantsStandIn t = false := by
  obtain rfl : f = 6 := Option.some.inj ((show Tryd.prog.funcNamed Rows.fnExactAddNodeRow.func = some 6 by kernel_rfl).symm.trans hf) |>.symm
  obtain rfl : fn = Tryd.f6 := (Option.some.inj (Tryd.func6.symm.trans hfn)).symm
  refine ⟨by kernel_rfl, fun j t ht => ?_⟩
  rw [Tryd.params6] at ht
  have hm := Array.mem_of_getElem? ht
  have hm' : t = 22 ∨ t = 41 := by simpa using hm
  rcases hm' with rfl | rfl
  · exact (show Tryd.prog.wantsStandIn 22 = false by kernel_rfl)
  · exact (show Tryd.prog.wantsStandIn 41 = false by kernel_rfl)

theorem proved : Rows.FnExactAddNodeCardSaid :=
  Claim7.holds_tied_plain_at .later [] _ _ _ _ said (fun _ h => by cases h) (by kernel_rfl) (fun _ h => by cases h) fnExactAddNode_row_tie rfl ⟨rfl, rfl⟩ (by kernel_rfl) rfl plain (by kernel_rfl)
end Go.Proofs.YtblfgnlelhjcnaaDoor.LawAddNode
