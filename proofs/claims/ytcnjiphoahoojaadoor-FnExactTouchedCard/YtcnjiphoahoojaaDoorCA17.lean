/- Parts of several texts of mine in one file (each begins with its own remark). -/
import Derived.Test.YtcnjiphoahoojaaDoorCA10
import Derived.Test.YtcnjiphoahoojaaDoorCA11
import Derived.Test.YtcnjiphoahoojaaDoorCA12
import Derived.Test.YtcnjiphoahoojaaDoorCA13
import Derived.Test.YtcnjiphoahoojaaDoorCA15
import Derived.Test.YtcnjiphoahoojaaDoorCA16
import Derived.Test.YtcnjiphoahoojaaDoorCA2
import Derived.Test.YtcnjiphoahoojaaDoorCA3
import Derived.Test.YtcnjiphoahoojaaDoorCA4
import Derived.Test.YtcnjiphoahoojaaDoorCA5
import Derived.Test.YtcnjiphoahoojaaDoorCA6
import Derived.Test.YtcnjiphoahoojaaDoorCA7
import Derived.Test.YtcnjiphoahoojaaDoorCA8
import Derived.Test.YtcnjiphoahoojaaDoorCA9
import Derived.Test.YtcnjiphoahoojaaDoorChecked
import Derived.Test.YtcnjiphoahoojaaDoorShelf
import Derived.Test.YtcnjiphoahoojaaDoorProg
import Derived.Test.YtcnjiphoahoojaaDoorRows
import Derived.Stop.LaidErr
import Derived.StillTailTactics
import Derived.Laws.OwnMore
import Derived.BigQuiet
import Derived.BigRegion
import Derived.Deep.QuietTactic
import Derived.Deep.RegionHeld3
import Derived.Deep.Slices
import Derived.OpenShut
import Derived.ShutString
import Derived.ChangeArms
import Derived.WideShapes
import Derived.Lib.LaidTab
import Derived.Deep.Draws
import Derived.Deep.LoopGhost
import Derived.WalkKit
import Derived.WalkSpells
import Derived.WalkSmall
import Derived.Lib.OthersKept
import Derived.Lib.Hide
import Derived.Lib.Strings
import Derived.Lib.Join
import Derived.Laws.BytesArg
import Derived.WalkLawsBesides
import Derived.LaidEql
import Derived.Stop.Asserts
import Derived.Below
import Derived.Stop.LaidTwo
import Derived.ChangeVars
import Derived.Deep.DeepHandedRow
import Derived.RangeFuncNested
import Derived.RangeFuncBound
import Derived.RangeFuncCalls
import Derived.RangeFuncLeaves
import Derived.RangeFuncBox
import Derived.Shelf.Abstract
import Derived.Shelf.RegionOpen
import Derived.OwnWalkIn
import Derived.TacticsInMore
import Derived.LoopNIn
import Derived.LoopIn
import Derived.Deep.RegionWith
import Derived.OneCell
import Derived.Lib.SliceRun
import Derived.Lib.Overlaps
import Derived.Lib.AppendZerosOnto
import Derived.Laws.NewBlocks
import Derived.Laws.IdiomCopy
import Derived.Deep.RegionLaw
/- Hidden, of the program and of its model. Conditions (of the program's): the table of kinds, the two sentinels. -/
namespace Go.Proofs.YtcnjiphoahoojaaDoor.Recs
set_option maxRecDepth 100000
open Go.RowKit Paths Errs

theorem str_snoc {w : World} {base : Nat} {v : Value} {M : List (List UInt8)} {p : ByteArray} (h : w.ownsRow base 9 1 v (M.length + 1) (M.map strV ++ [.string p])) : w.ownsRow base 9 1 v (M ++ [p.data.toList]).length ((M ++ [p.data.toList]).map strV) := by
  rw [List.length_append, List.map_append]
  exact h
end Go.Proofs.YtcnjiphoahoojaaDoor.Recs

/- Touched, of the program. Conditions: the table of kinds, the two sentinels. -/
namespace Go.Proofs.YtcnjiphoahoojaaDoor.Recs
set_option maxRecDepth 100000
open Go.RowKit Paths Errs Go.Shelf
attribute [local go_sem] Oper.semAt_some

/-- The code of a call with two trees. -/
def codeNN (A B : List R) : Int := if 4096 < A.length ∨ 4096 < B.length then 2 else if treeOK A && treeOK B then 0 else 1
theorem arg_nn (A B : List R) : enFrom [growK A, growK B] 0 = codeNN A B := by
  by_cases h1 : 4096 < A.length <;> by_cases h2 : 4096 < B.length <;> cases h3 : treeOK A <;> cases h4 : treeOK B <;> simp [growK, codeNN, enFrom, h1, h2, h3, h4]
theorem nn_ok {A B : List R} (h : codeNN A B = 0) : treeOK A = true ∧ treeOK B = true := by
  unfold codeNN at h
  split at h
  · cases h
  · split at h
    · rename_i hk
      rw [Bool.and_eq_true] at hk
      exact hk
    · cases h
theorem nn_long {A B : List R} (h : 4096 < A.length ∨ 4096 < B.length) : codeNN A B = 2 := if_pos h
theorem nn_bad {A B : List R} (h : ¬ (4096 < A.length ∨ 4096 < B.length)) (hb : (treeOK A && treeOK B) = false) : codeNN A B = 1 := by unfold codeNN; rw [if_neg h, hb]; rfl
theorem nn_fine {A B : List R} (h : ¬ (4096 < A.length ∨ 4096 < B.length)) (hb : (treeOK A && treeOK B) = true) : codeNN A B = 0 := by unfold codeNN; rw [if_neg h, hb]; rfl
theorem grow_ok2 {A : List R} (h : treeOK A = true) : growK A = .fine := grow_ok.2 h

/-- The paths of changes, as bytes. -/
def cbts (cs : List Chg) : List (List UInt8) := cs.map fun c => c.1.data.toList
theorem cbts_snoc (cs : List Chg) (c : Chg) : cbts (cs ++ [c]) = cbts cs ++ [c.1.data.toList] := by unfold cbts; rw [List.map_append]; rfl
def tchR (A B : List R) : List (List UInt8) := if codeNN A B = 0 then cbts (chgs A B) else []
theorem tch_ok {A B : List R} (h : codeNN A B = 0) : tchR A B = cbts (chgs A B) := if_pos h
theorem tch_bad {A B : List R} {c : Int} (h : codeNN A B = c) (hc : c ≠ 0) : tchR A B = [] := if_neg (by rw [h]; exact hc)
theorem chgs_48 {A B : List R} (h : codeNN A B = 0) : (chgs A B).length ≤ 48 := by
  obtain ⟨h1, h2⟩ := nn_ok h
  have := (tree_of h1).len
  have := (tree_of h2).len
  have := chg_len A B
  omega
theorem tch_len (A B : List R) : (tchR A B).length ≤ 1048576 := by
  unfold tchR
  split
  · rename_i h
    have := chgs_48 h
    unfold cbts
    rw [List.length_map]
    omega
  · simp
theorem cbN_own {q : ByteArray} {x y : R} (B : Nat) {X Y : World} {row : Option Nat} (h : CbN X B q x y) (hg : X.grownBy Y row) (hr : ∀ r, row = some r → ∃ o : Obj, X.heap[r]? = some o ∧ o.isCells = false) : CbN Y B q x y := by
  refine (hg.block B h.lt fun e => ?_).trans h
  obtain ⟨o, ho, hc⟩ := hr B e.symm
  rw [show X.heap[B]? = _ from h] at ho
  cases ho
  cases hc
theorem CbN.alloc {W : World} {B : Nat} {q : ByteArray} {x y : R} (h : CbN W B q x y) (o : Obj) : CbN (W.alloc o) B q x y := ((World.grownBy_alloc W o none).block B h.lt (by simp)).trans h
theorem nodSl_form {w : World} {v : Value} {L : List R} (h : NodSl w v L) : ∃ A cap, v = .slice A L.length cap := by
  obtain ⟨_, A, cap, rfl, _⟩ := h
  exact ⟨A, cap, rfl⟩

set_option maxHeartbeats 8000000 in
theorem touched_impl (v1 v2 : Value) (A B : List R) (x y : Addr) (w : World) (h1 : NodSl w v1 A) (h2 : NodSl w v2 B) (hl1 : A.length ≤ 1048576) (hl2 : B.length ≤ 1048576)
    (hr1 : ∀ r ∈ A, r.p.size ≤ maxLen) (hr2 : ∀ r ∈ B, r.p.size ≤ maxLen) (hT : Three w x y) :
    Calls Tryd.prog 23 #[v1, v2] w fun e w' => ∃ z, e = .returned (.tuple #[z, .int .i64 (codeNN A B)]) ∧ Below w.heap.size w w' ∧ w'.ownsRow w.heap.size 9 1 z (tchR A B).length ((tchR A B).map strV) := by
  obtain ⟨i0, hi, hz0, hz1, hz2⟩ := info_parts strInfo
  have HARG : enFrom [growK A, growK B] 0 = codeNN A B := arg_nn A B
  have HC1 := checkTree_any v1 A x y w h1 hl1 hr1 hT
  have HC2 := fun w1 (hb : Below w.heap.size w w1) => checkTree_any v2 B x y w1 (h2.below hb) hl2 hr2 (hT.below hb (Nat.le_refl _))
  by_cases h0 : codeNN A B = 0
  · obtain ⟨ht1, ht2⟩ := nn_ok h0
    have H0 := Lib.hid h0
    have h48 := chgs_48 h0
    rw [grow_ok2 ht1] at HC1
    rw [grow_ok2 ht2] at HC2
    unfold EN.val at HC1 HC2
    have HTA := Lib.hid (tree_of ht1)
    have HTB := Lib.hid (tree_of ht2)
    have HR : Hid (tchR A B = cbts (chgs A B)) := tch_ok h0
    have HS1 := Lib.hid h1
    have HS2 := Lib.hid h2
    obtain ⟨a1, cap1, rfl⟩ := nodSl_form h1
    obtain ⟨a2, cap2, rfl⟩ := nodSl_form h2
    have hlA := HTA.out.len
    have hlB := HTB.out.len
    clear HARG h0 ht1 ht2 h1 h2
    refine (callsIn_wide (n := 6)).1 ?_
    refine callsIn_of_wp_marks Tryd.func23 rfl trivial ?_ rfl
    simp only [Tryd.ntmps23, List.size_toArray, List.length_cons, List.length_nil, Nat.reduceAdd, Nat.reduceSub, Array.replicate_succ, Array.replicate_zero, List.push_toArray, List.append_toArray, List.nil_append, List.cons_append]
    gi_wp2
    first
    | refine (callsIn_wide.2 HC1).mono ?_
    | refine ⟨trivial, (callsIn_wide.2 HC1).mono ?_⟩
    rintro e w1 ⟨rfl, hb1⟩
    gi_wp2
    first
    | refine (callsIn_wide.2 (HC2 w1 hb1)).mono ?_
    | refine ⟨trivial, (callsIn_wide.2 (HC2 w1 hb1)).mono ?_⟩
    rintro e w2 ⟨rfl, hb2⟩
    have c2 := hb1.trans (hb2.mono hb1.size)
    have HA := argN2_any .fine .fine x y w2 (hT.below c2 (Nat.le_refl _))
    unfold EN.val at HA
    rw [show enFrom [.fine, .fine] 0 = 0 from rfl] at HA
    gi_wp2
    first
    | refine (callsIn_wide.2 HA).mono ?_
    | refine ⟨trivial, (callsIn_wide.2 HA).mono ?_⟩
    rintro e w3 ⟨rfl, hb3⟩
    have c3 := c2.trans (hb3.mono c2.size)
    clear HA HC1 HC2
    gi_wp2
    first
    | refine (callsIn_wide.2 (changesN_any a1 a2 _ _ cap1 cap2 _)).mono ?_
    | refine ⟨trivial, (callsIn_wide.2 (changesN_any a1 a2 _ _ cap1 cap2 _)).mono ?_⟩
    rintro e w5 ⟨rfl, rfl⟩
    gi_wp2
    obtain ⟨W0, hW0⟩ : ∃ W0, (((w3.alloc (.cells #[.slice none 0 0] 24)).alloc (.cells #[.slice a1 A.length cap1] 45)).alloc (.cells #[.slice a2 B.length cap2] 45)).alloc (.cells #[.func (.func 44) #[] #[]] 82) = W0 := ⟨_, rfl⟩
    have hb0 : Below w.heap.size w W0 := by rw [← hW0]; exact (((c3.alloc c3.size _).alloc (by have := c3.size; simp; omega) _).alloc (by have := c3.size; simp; omega) _).alloc (by have := c3.size; simp; omega) _
    have hs0 : W0.heap.size = w3.heap.size + 4 := by rw [← hW0]; simp
    have bP : Boxed W0 w3.heap.size 24 (.slice none 0 0) := by rw [← hW0]; exact (((Boxed.new w3 _ _).alloc _).alloc _).alloc _
    have bA : Boxed W0 (w3.heap.size + 1) 45 (.slice a1 A.length cap1) := by
      rw [← hW0]
      have := Boxed.new (w3.alloc (.cells #[.slice none 0 0] 24)) 45 (.slice a1 A.length cap1)
      rw [World.size_alloc] at this
      exact (this.alloc _).alloc _
    have bB : Boxed W0 (w3.heap.size + 1 + 1) 45 (.slice a2 B.length cap2) := by
      rw [← hW0]
      have := Boxed.new ((w3.alloc (.cells #[.slice none 0 0] 24)).alloc (.cells #[.slice a1 A.length cap1] 45)) 45 (.slice a2 B.length cap2)
      rw [World.size_alloc, World.size_alloc] at this
      exact this.alloc _
    have bF : Boxed W0 (w3.heap.size + 1 + 2) 82 (.func (.func 44) #[] #[]) := by
      rw [← hW0]
      have := Boxed.new (((w3.alloc (.cells #[.slice none 0 0] 24)).alloc (.cells #[.slice a1 A.length cap1] 45)).alloc (.cells #[.slice a2 B.length cap2] 45)) 82 (.func (.func 44) #[] #[])
      rw [World.size_alloc, World.size_alloc, World.size_alloc] at this
      exact this
    rw [hW0]
    clear hW0
    have hsz3 := c3.size
    refine wpIn_rangeFunc_ownH rfl (by omega) (gf := 58) (lb := #[.pointer (some ⟨w3.heap.size + 1, 0, none⟩), .pointer (some ⟨w3.heap.size + 1 + 1, 0, none⟩), .pointer (some ⟨w3.heap.size + 1 + 2, 0, none⟩)]) rfl trivial (enters_of Tryd.func58 (by kernel_rfl) rfl)
      (chgN_stops (6 - 1) (by omega) (w3.heap.size + 1) (w3.heap.size + 1 + 1) (w3.heap.size + 1 + 2) _ _ A B w W0 hb0 HS1.out HS2.out bA bB bF HTA.out.fault HTB.out.fault (by omega)) KeepD.trans (KeepD.put (by omega)) (Below.refl _ _) (fun _ => rfl)
      (fun pre W => (∃ v, Boxed W w3.heap.size 24 v ∧ W.ownsRow w.heap.size 9 1 v (cbts (pre.map ItC.c)).length ((cbts (pre.map ItC.c)).map strV) ∧ True) ∧ Below w.heap.size w W)
      (fun _ _ _ => False)
      (OwnFrom.and (Own.from (holdsRow_own w.heap.size w3.heap.size 24 9 1 (fun pre : List (ItC A B) => (cbts (pre.map ItC.c)).length) (fun pre => (cbts (pre.map ItC.c)).map strV) (fun _ _ => True)) _) (ownFrom_below (Nat.le_refl _) hb0.size))
      (fun _ _ _ _ _ hs _ _ => hs)
      ⟨⟨_, bP, World.ownsRow_nil _ _ _ _, trivial⟩, hb0⟩
      (fun x a' W => ∃ Bx, w3.heap.size < Bx ∧ CbN W Bx x.c.1 x.c.2.1 x.c.2.2 ∧ a' = { tmps := #[.slice a1 A.length cap1, .slice a2 B.length cap2, undef, undef, .slice none 0 0, .int .i64 0, .int .i64 0, .pointer (some ⟨w3.heap.size, 0, none⟩), .pointer (some ⟨Bx, 0, none⟩), .slice a1 A.length cap1, .nilIface, .slice a2 B.length cap2, .nilIface, .slice (some ⟨w2.heap.size, 0, none⟩) 2 2, .int .i64 0, .int .i64 0, .bool false, undef, .slice a1 A.length cap1, .slice a2 B.length cap2, .func (.func 58) #[] #[.pointer (some ⟨w3.heap.size + 1, 0, none⟩), .pointer (some ⟨w3.heap.size + 1 + 1, 0, none⟩), .pointer (some ⟨w3.heap.size + 1 + 2, 0, none⟩)], chgVN x.c, undef, undef, undef, undef, undef, undef], defers := [] })
      (fun x a' _ X Y row hs hg hr => by obtain ⟨Bx, k1, k2, k3⟩ := hs; exact ⟨Bx, k1, cbN_own Bx k2 hg (fun r e => (hr r e).2), k3⟩)
      ?assign ?body ?done ?stop
    case assign =>
      rintro l pre x W K ⟨⟨v, bv, hrow, -⟩, hB⟩ hK
      simp only [chgVN]
      gi_wp2
      exact hK _ _ ((KeepsOthers.alloc _ _).from _) (KeepD.of ((Below.refl _ W).alloc (Nat.le_refl _) _) hB.size) ⟨⟨v, bv.alloc _, hrow.alloc _, trivial⟩, hB.alloc hB.size _⟩ ⟨W.heap.size, bv.lt, alloc_here _ _, rfl⟩
    case body =>
      rintro l pre x a' W hl ⟨r, hr⟩ ⟨⟨v, bv, hrow, -⟩, hB⟩ ⟨Bx, hBx, hcb, rfl⟩ hlt
      obtain ⟨e0, -⟩ := hcb.cells
      obtain ⟨vA, vcap, rfl⟩ := own_form hrow
      have hcl : (cbts (pre.map ItC.c)).length ≤ 48 := by unfold cbts; rw [List.length_map, List.length_map]; omega
      have HSN := Lib.hid (cbts_snoc (pre.map ItC.c) x.c)
      have HMP : Hid ((pre ++ [x]).map ItC.c = pre.map ItC.c ++ [x.c]) := by show _ = _; rw [List.map_append]; rfl
      have hbc := bv.cell
      have hbf := bv.frozen
      generalize hM : cbts (pre.map ItC.c) = M at *
      have HMM := Lib.hid hM
      have HRW := Lib.hid hrow
      have HBV := Lib.hid bv
      have hsz := hB.size
      clear hM
      gi_wp2_with (first
        | (gi_at_builtin; refine wpListIn_append_own _ rfl _ _ 24 rfl w.heap.size 9 i0 (.string ByteArray.empty) 1 16 Tryd.underlying24 hi hz0 hz1 hz2 rfl (by decide) _ _ _ rfl (HRW.out.alloc _) ⟨W.heap.size, 0, none⟩ 1 1 [.string x.c.1] rfl rfl (cell_one_new _ _ _) (by simp [Value.oneCell']) (by unfold maxLen; omega) (by omega) (by simp; omega) ?_; intro v' w9 hown' hgrow hnil; obtain ⟨g', cap', rfl⟩ := ownsRow_succ hown'; obtain ⟨hv1, hv2, hr2, hk2, hb2⟩ := HBV.out.appended (by decide) HRW.out hsz hsz3 hown' hgrow; have hc1 := hv1.cell; have hf1 := hv1.frozen; have HGR : Hid ((W.alloc (.cells #[.string x.c.1] 9)).grownBy w9 (Value.slice vA M.length vcap).ownBlock) := hgrow; have HV2 := Lib.hid hv2; have HR2 := Lib.hid hr2; have HK2 := Lib.hid hk2; have HB2 := Lib.hid hb2; clear hgrow hv2 hr2 hk2 hb2 hown' hnil))
      refine ⟨HK2.out.from _, ⟨HB2.out, fun u hu => ?_⟩, ⟨_, HV2.out, ?_, trivial⟩, hB.trans HB2.out⟩
      · exact ((hu.alloc (.cells #[.string x.c.1] 9)).kept HGR.out ((hu.alloc (.cells #[.string x.c.1] 9)).not_row (by decide) (HRW.out.alloc (.cells #[.string x.c.1] 9)))).other (by omega) _
      · rw [HMP.out, HSN.out]
        exact str_snoc HR2.out
    case done =>
      rintro D xs W hD hS ⟨⟨v, bv, hrow, -⟩, hB⟩ hK
      have cS := bv.cell
      have HXS : Hid (cbts (xs.map ItC.c) = tchR A B) := by show _ = _; rw [hS, HR.out]
      obtain ⟨vA, vcap, rfl⟩ := own_form hrow
      have HRW := Lib.hid hrow
      clear hS hrow
      gi_wp2
      refine ⟨by simp, .inl ⟨_, _, rfl, run_takeDeferred hK, ?_⟩⟩
      exact ⟨_, results_tmp2 rfl _ _ _, _, by rw [H0.out]; rfl, hB.trans (belowK_b (w := w) (Nat.le_refl _) W D _ _ (by omega) hK rfl rfl), by rw [← HXS.out]; exact ownsRow_putObj HRW.out _ hK rfl⟩
    case stop =>
      rintro D c pre W _ _ h _
      exact h.elim
  · cases hga : growK A <;> cases hgb : growK B <;> (
      rw [hga, hgb] at HARG
      first
      | exact absurd (HARG.symm.trans rfl) h0
      | (rw [hga] at HC1
         rw [hgb] at HC2
         unfold EN.val at HC1 HC2
         try unfold errV at HC1
         try unfold errV at HC2
         have HAA := fun w2 hb => argN2_any (growK A) (growK B) x y w2 (hT.below hb (Nat.le_refl _))
         rw [hga, hgb] at HAA
         have hne : (codeNN A B != 0) = true := (by simpa using h0)
         have HQ := Lib.hid (tch_bad (A := A) (B := B) rfl h0)
         rw [HARG] at HAA
         unfold EN.val at HAA
         try unfold errV at HAA
         generalize hC : codeNN A B = C at *
         have HCC := Lib.hid hC
         obtain ⟨a1, cap1, rfl⟩ := nodSl_form h1
         obtain ⟨a2, cap2, rfl⟩ := nodSl_form h2
         clear HARG h0 hC h1 h2
         go_enter Tryd.func23, Tryd.ntmps23
         go_wp2_with fail
         refine HC1.mono ?_
         rintro e w1 ⟨rfl, hb1⟩
         go_wp2_with fail
         refine (HC2 w1 hb1).mono ?_
         rintro e w2 ⟨rfl, hb2⟩
         have c2 := hb1.trans (hb2.mono hb1.size)
         go_wp2_with fail
         refine (HAA w2 c2).mono ?_
         rintro e w3 ⟨rfl, hb3⟩
         have c3 := c2.trans (hb3.mono c2.size)
         go_wp2_with fail
         go_ret2
         exact ⟨.slice none 0 0, by first | rfl | (rw [HCC.out]; rfl) | (rw [← HCC.out]; rfl), c3, by rw [HQ.out]; exact World.ownsRow_nil _ _ _ _⟩))
end Go.Proofs.YtcnjiphoahoojaaDoor.Recs
