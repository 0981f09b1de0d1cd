/- For every list of lists of records and every string, FnExactWinnerAt answers true: WinnerAt of the program answers as its model does, and the lists read as they did. Conditions: the table of kinds and the two sentinels hold what their own initialisers lay (tied to the program's text by the given tie). -/
import Derived.Test.YtibekkfbpmloiaaDoorCA1
import Derived.Test.YtibekkfbpmloiaaDoorCA10
import Derived.Test.YtibekkfbpmloiaaDoorCA11
import Derived.Test.YtibekkfbpmloiaaDoorCA2
import Derived.Test.YtibekkfbpmloiaaDoorCA3
import Derived.Test.YtibekkfbpmloiaaDoorCA4
import Derived.Test.YtibekkfbpmloiaaDoorCA6
import Derived.Test.YtibekkfbpmloiaaDoorCA7
import Derived.Test.YtibekkfbpmloiaaDoorCA8
import Derived.Test.YtibekkfbpmloiaaDoorCA9
import Derived.Test.YtibekkfbpmloiaaDoorCards
import Derived.Test.YtibekkfbpmloiaaDoorTie
import Derived.WalkKit
import Derived.ProofKit
import Derived.OpenShut
import Derived.ShutString
import Derived.ChangeOld
import Derived.ChangeVars
import Derived.OpenVars
import Derived.Below
import Derived.Lay
import Derived.LaidMore
import Derived.Stop.Joined
import Derived.SevenTiedAt
import Derived.Deep.DeepHandedRow
import Derived.Lib.LaidTab
import Derived.BigRegion
import Derived.RangeFuncNested
import Derived.RangeFuncBound
import Derived.RangeFuncCalls
import Derived.RangeFuncLeaves
import Derived.RangeFuncBox
import Derived.Shelf.Abstract
import Derived.Shelf.RegionOpen
import Derived.OwnWalkIn
import Derived.TacticsInMore
import Derived.LoopNIn
import Derived.LoopIn
import Derived.Deep.Slices
import Derived.ChangeArms
import Derived.WideShapes
import Derived.BigQuiet
import Derived.Deep.QuietTactic
import Derived.Deep.RegionHeld3
import Derived.StillTailTactics
import Derived.Deep.Draws
import Derived.Deep.LoopGhost
import Derived.Test.YtibekkfbpmloiaaDoorChecked
import Derived.WalkSpells
import Derived.WalkSmall
import Derived.Lib.OthersKept
import Derived.Lib.Hide
import Derived.Lib.Strings
import Derived.Lib.Join
import Derived.Laws.OwnMore
import Derived.Laws.BytesArg
import Derived.Stop.LaidErr
import Derived.WalkLawsBesides
import Derived.Test.YtibekkfbpmloiaaDoorShelf
import Derived.Test.YtibekkfbpmloiaaDoorProg
import Derived.LaidEql
import Derived.Stop.Asserts
import Derived.Stop.LaidTwo
import Derived.Test.YtibekkfbpmloiaaDoorRows
import Derived.Deep.RegionWith
import Derived.OneCell
import Derived.Lib.SliceRun
import Derived.Lib.Overlaps
import Derived.Lib.AppendZerosOnto
import Derived.Laws.NewBlocks
import Derived.Laws.IdiomCopy
import Derived.Deep.RegionLaw
namespace Go.Proofs.YtibekkfbpmloiaaDoor.LawWinnerAt
open Go.ChangeShapes Go.WideShapes Go.ChangeAt Go.RowKit
open Go.ChangeMaps (open_string shut_string)
open Recs Paths
set_option linter.unusedVariables false
set_option maxRecDepth 100000

set_option maxHeartbeats 800000 in
theorem walk (v : Value) (LL : List (List R)) (q : ByteArray) (hq : q.size ≤ maxLen) (w : World) (h : StkSl w v LL) (hlm : LL.length ≤ maxLen) (hs : ∀ l ∈ LL, l.length ≤ maxLen ∧ ∀ r ∈ l, r.p.size ≤ maxLen ∧ r.b.size ≤ maxLen) (hT : ∃ x y, Three w x y) :
    Calls Tryd.prog 3 #[v, .string q] w fun e w' => e = .returned (.bool true) ∧ Below w.heap.size w w' := by
  obtain ⟨x, y, hT⟩ := hT
  by_cases hq2 : 1048576 < q.size
  · have hd : decide ((1048576 : Int) < (q.size : Int)) = true := by simp; omega
    go_enter Tryd.func3, Tryd.ntmps3
    go_wp2_with fail
    go_ret
    exact ⟨rfl, Below.refl _ _⟩
  have hdq : decide ((1048576 : Int) < (q.size : Int)) = false := by simp; omega
  have HZ := szRecordSS_sum v LL 1048576 w h hlm hs (Nat.le_refl _)
  go_enter Tryd.func3, Tryd.ntmps3
  go_wp2_with fail
  refine HZ.mono ?_
  rintro e w1 (⟨z, hz, rfl, hb1⟩ | ⟨z, hz0, rfl, hb1⟩)
  · have hd : decide (z < 0) = true := by simpa using hz
    go_wp2_with fail
    go_ret
    exact ⟨rfl, hb1⟩
  have hd : decide ((z : Int) < 0) = false := by simp
  have hl : LL.length ≤ 1048576 := by omega
  have hll : ∀ l ∈ LL, l.length ≤ 1048576 := fun l hm => by have := total_le hm; omega
  go_wp2_with fail
  refine (toRecordSS_any v LL _ (h.below hb1) hl hll).mono ?_
  rintro e w2 ⟨x2, rfl, hb2, hr2⟩
  have c2 := hb1.trans (hb2.mono hb1.size)
  go_wp2_with fail
  refine (winnerAt_spec x2 LL q _ hr2.sl hl hll).mono ?_
  rintro e w3 ⟨rfl, hb3⟩
  unfold winV R.val
  have c3 := c2.trans (hb3.mono c2.size)
  generalize hF : winF LL q = F
  go_wp2_with fail
  have hA : RecCells (w3.alloc (.cells #[.int .i64 F.1.k, .string F.1.p, .string F.1.b, .int .i64 F.1.m, .bool F.1.o] 25)) w3.heap.size 0 F.1 := ⟨by go_simp, by go_simp, by go_simp, by go_simp, by go_simp⟩
  have hzA : w3.heap.size < (w3.alloc (.cells #[.int .i64 F.1.k, .string F.1.p, .string F.1.b, .int .i64 F.1.m, .bool F.1.o] 25)).heap.size := by simp
  have cA : Below w.heap.size w (w3.alloc (.cells #[.int .i64 F.1.k, .string F.1.p, .string F.1.b, .int .i64 F.1.m, .bool F.1.o] 25)) := c3.alloc c3.size _
  generalize w3.alloc (.cells #[.int .i64 F.1.k, .string F.1.p, .string F.1.b, .int .i64 F.1.m, .bool F.1.o] 25) = W at *
  refine (toRecordSS_any v LL _ (h.below cA) hl hll).mono ?_
  rintro e w4 ⟨x4, rfl, hb4, hr4⟩
  have c4 := cA.trans (hb4.mono cA.size)
  have hA4 := hA.below hb4 hzA
  have hzA4 := Nat.lt_of_lt_of_le hzA hb4.size
  have HI := winnerAt_impl x4 LL q x y w4 hr4.sl hl (fun l hm => ⟨hll l hm, fun r hr => ((hs l hm).2 r hr).1⟩) hq (hT.below c4 (Nat.le_refl _))
  unfold winV R.val at HI
  rw [hF] at HI
  go_wp2_with fail
  refine HI.mono ?_
  rintro e w5 ⟨rfl, hb5⟩
  have c5 := c4.trans (hb5.mono c4.size)
  have hA5 := hA4.below hb5 hzA4
  have hzA5 := Nat.lt_of_lt_of_le hzA4 hb5.size
  have cB : Below w5.heap.size w5 (w5.alloc (.cells #[.int .i64 F.1.k, .string F.1.p, .string F.1.b, .int .i64 F.1.m, .bool F.1.o] 25)) := (Below.refl _ _).alloc (Nat.le_refl _) _
  have hA6 := hA5.below cB hzA5
  have p0 : (w5.alloc (.cells #[.int .i64 F.1.k, .string F.1.p, .string F.1.b, .int .i64 F.1.m, .bool F.1.o] 25)).cell? ⟨w3.heap.size, 0, none⟩ = some (.int .i64 F.1.k) := hA6.1
  have p1 : (w5.alloc (.cells #[.int .i64 F.1.k, .string F.1.p, .string F.1.b, .int .i64 F.1.m, .bool F.1.o] 25)).cell? ⟨w3.heap.size, 1, none⟩ = some (.string F.1.p) := hA6.2.1
  have p2 : (w5.alloc (.cells #[.int .i64 F.1.k, .string F.1.p, .string F.1.b, .int .i64 F.1.m, .bool F.1.o] 25)).cell? ⟨w3.heap.size, 2, none⟩ = some (.string F.1.b) := hA6.2.2.1
  have p3 : (w5.alloc (.cells #[.int .i64 F.1.k, .string F.1.p, .string F.1.b, .int .i64 F.1.m, .bool F.1.o] 25)).cell? ⟨w3.heap.size, 3, none⟩ = some (.int .i64 F.1.m) := hA6.2.2.2.1
  have p4 : (w5.alloc (.cells #[.int .i64 F.1.k, .string F.1.p, .string F.1.b, .int .i64 F.1.m, .bool F.1.o] 25)).cell? ⟨w3.heap.size, 4, none⟩ = some (.bool F.1.o) := hA6.2.2.2.2
  have c6 := c5.trans (cB.mono c5.size)
  go_wp2_with fail
  refine (eqRecord_any _ _ _ _ _ _).mono ?_
  rintro e w7 ⟨rfl, hb7⟩
  have c7 := c6.trans (hb7.mono c6.size)
  go_wp2_with fail
  refine (toRecordSS_any v LL _ (h.below c7) hl hll).mono ?_
  rintro e w8 ⟨x8, rfl, hb8, hr8⟩
  have c8 := c7.trans (hb8.mono c7.size)
  go_wp2_with fail
  refine (eqRecordSS_same x4 x8 LL _ ((((hr4.below hb5).below cB).below hb7).below hb8).sl hr8.sl hl hll).mono ?_
  rintro e w9 ⟨rfl, hb9⟩
  go_wp2_with fail
  go_ret
  exact ⟨rfl, c8.trans (hb9.mono c8.size)⟩

theorem own : ownKnob Tryd.prog.godebug = none := by kernel_rfl
theorem laidOut : laidOutB Tryd.prog = true := by kernel_rfl

theorem contract (H : Type) (enc : TypeId × Value → H) (W : World) (base : Nat) (args : Array Value) (ds gs : List (DataW H)) (before : List MemPlace)
    (hval : ∀ (j : Nat) t v, Tryd.f3.params[j]? = some t → args[j]? = some v → Value.okWide Tryd.prog W .any base t v)
    (hW : DataW.Whole enc Tryd.prog Tryd.f3.params.toList Rows.fnExactWinnerAtSpec.vars false W args.toList ds gs before) (hL : laidMetH Tryd.prog Rows.fnExactWinnerAtRow.laid W) :
    Calls Tryd.prog 3 args W fun e W' => ∃ v, e = .returned v ∧ Rows.fnExactWinnerAtSpec.post enc Tryd.prog Tryd.f3 false true false false W args v W' := by
  have hW' := hW
  obtain ⟨p, q, hA0, hV, rfl, hfz, hnd⟩ := hW
  have hA : DataW.TrodAll enc Tryd.prog W 0 (fun _ => true) true Tryd.f3.params.toList args.toList ds p := hA0
  rw [Tryd.params3] at hA hval
  obtain ⟨v0, vs0, d0, ds0, p0, q0, hargs, rfl, rfl, h0, r0⟩ := trodAll_cons hA
  obtain ⟨v1, vs1, d1, ds1, p1, q1, rfl, rfl, rfl, h1, r1⟩ := trodAll_cons r0
  obtain ⟨rfl, rfl, rfl⟩ := trodAll_nil r1
  obtain rfl : args = #[v0, v1] := by cases args; simp_all
  have k0 := h0
  have lt0 : ∀ x ∈ p0, x.block < W.heap.size := by obtain ⟨m, hm⟩ := k0; exact DataW.trod_lt m _ _ _ hm
  obtain ⟨a0, len0, cap0, rfl⟩ := okWide_slice Tryd.underlying22 (hval 0 22 v0 rfl rfl)
  obtain ⟨f0, hf0⟩ := h0
  obtain ⟨u0, L0, e0, hsl0, hlen0, hs0⟩ := Recs.open_stk Tryd.underlying22 hf0
  obtain rfl : Value.slice a0 len0 cap0 = u0 := by simpa [Value.cells] using e0
  obtain ⟨a1, rfl, rfl, rfl, w1⟩ := open_string Tryd.underlying9 (hval 1 9 v1 rfl rfl) h1
  clear hA0 hA
  obtain ⟨g0, g1, g2, rfl⟩ := Recs.vars3 hV
  have hT := Recs.laid3 hL
  refine (walk _ L0 a1 w1 W hsl0 hlen0 hs0 hT).mono fun e W' ⟨he, bel⟩ => ?_
  subst he
  have hv' := bel.trodVars (enc := enc) laidOut (by kernel_rfl) hV
  exact ⟨_, rfl, _, _, _, [], _, _, hW', trodAll_mk1 (shut_bool Tryd.underlying4 _), (trodAll_cons_mk (Below.trod laidOut (by kernel_rfl) (of_decide_eq_true (by kernel_rfl)) k0 bel lt0) (trodAll_cons_mk (shut_string Tryd.underlying9 w1) trodAll_mk0)), hv', bel.frame _, fun h => by cases h⟩

theorem laid_met (os : Os) : laidMetH Tryd.prog Rows.fnExactWinnerAtRow.laid ((World.laidAll Tryd.prog os Rows.fnExactWinnerAtRow.laid).forCall (fun _ _ => 0) ⟨#[], #[.slice none 0 0, .string ByteArray.empty], []⟩).memory := by
  rw [MakeChecks.laidMetH_plain _ _ _ (by kernel_rfl)]
  exact laidMet_laidAll _ (by kernel_rfl) (by kernel_rfl)

set_option maxRecDepth 100000 in
theorem lifted (os : Os) (started : os.Started) (H : Type) (enc : TypeId × Value → H) :
    ReturnsInHanded {} Tryd.checked os 3 .any (fun w args => (Rows.fnExactWinnerAtSpec.pre enc Tryd.prog Tryd.f3 Rows.fnExactWinnerAtRow.domain false w args ∧ laidMetH Tryd.prog Rows.fnExactWinnerAtRow.laid w) ∧ sizedMet enc Tryd.prog Tryd.f3 (OpenSpec.ofChange Rows.fnExactWinnerAtSpec) false w args)
      (Rows.fnExactWinnerAtSpec.post enc Tryd.prog Tryd.f3 false true false false) := by
  refine returnsInHanded_of_change_and (C := Tryd.checked) (X := fun w _ => laidMetH Tryd.prog Rows.fnExactWinnerAtRow.laid w) (fun _ _ _ hh h => h.of_heap hh) own started (by kernel_rfl) Tryd.func3
    (ChangeSpec.witness_shaped (enc := enc) (C := Tryd.checked) (os := os) (X := fun w _ => laidMetH Tryd.prog Rows.fnExactWinnerAtRow.laid w) false (World.laidAll Tryd.prog os Rows.fnExactWinnerAtRow.laid) #[.slice none 0 0, .string ByteArray.empty] 8 (World.laidAll_os _ _ _)
      (World.shaped_of_ZipB (by kernel_rfl) (by kernel_rfl)) (by kernel_rfl) (by kernel_rfl) (by kernel_rfl)
      (laid_met os)) ?_
  intro W base args ds gs before hval hW _ _ hL _
  exact contract H enc W base args ds gs before hval hW hL

set_option maxHeartbeats 8000000 in
theorem said : Rows.FnExactWinnerAtSaid :=
  OpenClaim.holds_of_wide 3 Tryd.f3 rfl rfl rfl rfl rfl rfl rfl ⟨rfl, rfl, rfl, rfl, rfl⟩ rfl rfl rfl rfl rfl (by as_aux_lemma => kernel_rfl) Tryd.func3 (by as_aux_lemma => kernel_rfl)
    (of_decide_eq_true (by as_aux_lemma => kernel_rfl)) (by unfold Func.isWrapper; first | (rw [if_pos (by decide +kernel)]; kernel_rfl) | (rw [if_neg (by decide +kernel)]; exact ⟨rfl, rfl⟩))
    (fun os started H enc _ => lifted os started H enc)

/-- No parameter wants a stand-in; the program's own looks are as the card says. -/
theorem plain (f : FuncId) (fn : Func) (hf : Tryd.pinned.checked.prog.funcNamed Rows.fnExactWinnerAtRow.func = some f) (hfn : Tryd.pinned.checked.prog.funcs[f]? = some fn) :
    true = Tryd.pinned.checked.prog.looks [] ∧ ∀ (j : Nat) t, fn.params[j]? = some t → Tryd.pinned.checked.prog.wantsStandIn t = false := by
  obtain rfl : f = 3 := Option.some.inj ((show Tryd.prog.funcNamed Rows.fnExactWinnerAtRow.func = some 3 by kernel_rfl).symm.trans hf) |>.symm
  obtain rfl : fn = Tryd.f3 := (Option.some.inj (Tryd.func3.symm.trans hfn)).symm
  refine ⟨by kernel_rfl, fun j t ht => ?_⟩
  rw [Tryd.params3] at ht
  have hm := Array.mem_of_getElem? ht
  have hm' : t = 22 ∨ t = 9 := by simpa using hm
  rcases hm' with rfl | rfl
  · exact (show Tryd.prog.wantsStandIn 22 = false by kernel_rfl)
  · exact (show Tryd.prog.wantsStandIn 9 = false by kernel_rfl)

theorem proved : Rows.FnExactWinnerAtCardSaid :=
  Claim7.holds_tied_plain_at .later [] _ _ _ _ said (fun _ h => by cases h) (by kernel_rfl) (fun _ h => by cases h) fnExactWinnerAt_row_tie rfl ⟨rfl, rfl⟩ (by kernel_rfl) rfl plain (by kernel_rfl)
end Go.Proofs.YtibekkfbpmloiaaDoor.LawWinnerAt
