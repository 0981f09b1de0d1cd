/- Parts of several texts of mine in one file (each begins with its own remark). -/
import Derived.Test.YtibekkfbpmloiabGreatDoorCA10
import Derived.Test.YtibekkfbpmloiabGreatDoorCA14
import Derived.Test.YtibekkfbpmloiabGreatDoorCA15
import Derived.Test.YtibekkfbpmloiabGreatDoorCA16
import Derived.Test.YtibekkfbpmloiabGreatDoorCA2
import Derived.Test.YtibekkfbpmloiabGreatDoorCA22
import Derived.Test.YtibekkfbpmloiabGreatDoorCA3
import Derived.Test.YtibekkfbpmloiabGreatDoorCA4
import Derived.Test.YtibekkfbpmloiabGreatDoorCA5
import Derived.Test.YtibekkfbpmloiabGreatDoorCA6
import Derived.Test.YtibekkfbpmloiabGreatDoorCA7
import Derived.Test.YtibekkfbpmloiabGreatDoorCA9
import Derived.Test.YtibekkfbpmloiabGreatDoorCC1
import Derived.Test.YtibekkfbpmloiabGreatDoorCC10
import Derived.Test.YtibekkfbpmloiabGreatDoorCC8
import Derived.Test.YtibekkfbpmloiabGreatDoorCC9
import Derived.Test.YtibekkfbpmloiabGreatDoorChecked
import Derived.Test.YtibekkfbpmloiabGreatDoorShelf
import Derived.Test.YtibekkfbpmloiabGreatDoorProg
import Derived.Test.YtibekkfbpmloiabGreatDoorRows
import Derived.Deep.RegionHeld3
import Derived.BigRegion
import Derived.StillTailTactics
import Derived.Deep.Slices
import Derived.OpenShut
import Derived.ShutString
import Derived.ChangeArms
import Derived.WideShapes
import Derived.Lib.LaidTab
import Derived.BigQuiet
import Derived.Deep.QuietTactic
import Derived.Deep.Draws
import Derived.Deep.LoopGhost
import Derived.WalkKit
import Derived.WalkSpells
import Derived.WalkSmall
import Derived.Lib.OthersKept
import Derived.Lib.Hide
import Derived.Lib.Strings
import Derived.Lib.Join
import Derived.WalkLawsBesides
import Derived.Laws.BytesArg
import Derived.Laws.OwnMore
import Derived.Stop.LaidErr
import Derived.LaidEql
import Derived.Stop.Asserts
import Derived.Below
import Derived.Stop.LaidTwo
import Derived.RangeFuncNested
import Derived.RangeFuncBound
import Derived.RangeFuncCalls
import Derived.RangeFuncLeaves
import Derived.RangeFuncBox
import Derived.Shelf.Abstract
import Derived.Shelf.RegionOpen
import Derived.OwnWalkIn
import Derived.TacticsInMore
import Derived.LoopNIn
import Derived.LoopIn
import Derived.ChangeVars
import Derived.Deep.DeepHandedRow
import Derived.Deep.RegionWith
import Derived.OneCell
import Derived.Lib.SliceRun
import Derived.Lib.Overlaps
import Derived.Lib.AppendZerosOnto
import Derived.Laws.NewBlocks
import Derived.Laws.IdiomCopy
import Derived.Deep.RegionLaw
/- The iterator over the changes between two lists of nodes, for every loop body. -/
namespace Go.Proofs.YtibekkfbpmloiabGreatDoor.Recs
set_option maxRecDepth 100000
open Go.RowKit Paths Errs Go.Shelf
attribute [local go_sem] Oper.semAt_some

/-- What a round keeps: all that lay below a place, and one box. -/
def KeepD (m C : Nat) (T : TypeId) (W W' : World) : Prop := Below m W W' ∧ ∀ v, Boxed W C T v → Boxed W' C T v
theorem KeepD.trans {m C : Nat} {T : TypeId} {A B D : World} (h : KeepD m C T A B) (k : KeepD m C T B D) : KeepD m C T A D := ⟨h.1.trans k.1, fun v hb => k.2 v (h.2 v hb)⟩
theorem KeepD.refl (m C : Nat) (T : TypeId) (W : World) : KeepD m C T W W := ⟨Below.refl _ _, fun _ h => h⟩
theorem KeepD.of {m C : Nat} {T : TypeId} {W W' : World} (h : Below W.heap.size W W') (hm : m ≤ W.heap.size) : KeepD m C T W W' := ⟨h.mono hm, fun _ hb => (h.block _ hb.lt).trans hb⟩
theorem KeepD.put {m C : Nat} {T : TypeId} {w : World} (hm : m ≤ w.heap.size) (W : World) (l : Nat) (o o' : Obj) (hl : w.heap.size ≤ l) (h : W.heap[l]? = some o) (h1 : o.isCells = false) (h2 : o.isWalk = false) : KeepD m C T W (W.putObj l o') :=
  ⟨belowK_b hm W l o o' hl h h1 h2, fun v hb => boxed_own C T (fun (_ : Unit) => v) () W _ (some l) hb (grownBy_putObj' W l o') (fun r e => by cases e; exact ⟨o, h, h1⟩)⟩

set_option maxHeartbeats 16000000 in
theorem chgN_in (n : Nat) (hn : 1 ≤ n) (l Ba Bb Bp : Nat) (v1 v2 : Value) (A B : List R) (w0 : World) (h1 : NodSl w0 v1 A) (h2 : NodSl w0 v2 B)
    (hfa : ∀ r ∈ A, r.fault = 0) (hfb : ∀ r ∈ B, r.fault = 0) (hlen : A.length + B.length ≤ 1048576)
    (J Jx : List (ItC A B) → World → Prop) (W : World) (hW : Below w0.heap.size w0 W)
    (ca : W.cell? ⟨Ba, 0, none⟩ = some v1) (cb : W.cell? ⟨Bb, 0, none⟩ = some v2) (bp : Boxed W Bp 90 (.func (.func 75) #[] #[])) (hJ : AbidesFrom W.heap.size J)
    (hY : ∀ pre x W1, J pre W1 → pre.length < (chgs A B).length → YieldAt Fence.wide (n - 1) Tryz.prog l #[chgVN x.c] W1 fun e W' => (e = .returned (.bool true) ∧ J (pre ++ [x]) W' ∧ KeepD w0.heap.size Bp 90 W1 W') ∨ (e = .returned (.bool false) ∧ Jx (pre ++ [x]) W'))
    (h0 : J [] W) :
    CallsIn Fence.wide n Tryz.prog 140 #[.func (.yield l) #[] #[], .pointer (some ⟨Ba, 0, none⟩), .pointer (some ⟨Bb, 0, none⟩), .pointer (some ⟨Bp, 0, none⟩)] W fun e W' => (∃ v, e = .returned v) ∧ ((∃ xs : List (ItC A B), xs.map ItC.c = chgs A B ∧ J xs W') ∨ (∃ pre : List (ItC A B), (∃ rest, pre.map ItC.c ++ rest = chgs A B) ∧ Jx pre W')) := by
  have HFA := Lib.hid hfa
  have HFB := Lib.hid hfb
  have HPO : Hid (∀ (kk mm : Int) (pp bb : ByteArray) (W : World), Calls Tryz.prog 75 #[.agg #[.int .i64 kk, .string pp, .string bb, .int .i64 mm]] W fun e w' => e = .returned (.string pp) ∧ Below W.heap.size W w') := fun kk mm pp bb W => pathOfN_any kk mm pp bb W
  have HS10 := Lib.hid h1
  have HS20 := Lib.hid h2
  have HY := Lib.hid hY
  have HJ := Lib.hid hJ
  obtain ⟨ho1, a01, cap01, rfl, -⟩ := h1
  obtain ⟨ho2, a02, cap02, rfl, -⟩ := h2
  clear hfa hfb hY hJ
  refine callsIn_of_wp Tryz.func140 rfl trivial ?_ rfl
  simp only [Tryz.ntmps140, List.size_toArray, List.length_cons, List.length_nil, Nat.reduceAdd, Nat.reduceSub, Array.replicate_succ, Array.replicate_zero, List.push_toArray, List.append_toArray, List.nil_append, List.cons_append]
  gi_wp2
  refine wpIn_wide.2 ?_
  go_quiet (fail)
  have hW2 := below_drewN hW nq
  have h02 : J [] (W.drewN nq) := abide_below HJ.out h0 (below_drewN (Below.refl _ _) nq)
  have HSW : Hid (W.heap.size ≤ (W.drewN nq).heap.size) := (below_drewN (Below.refl W.heap.size W) nq).size
  have HBP0 : Hid (Boxed (W.drewN nq) Bp 90 (.func (.func 75) #[] #[])) := bp
  clear bp
  generalize W.drewN nq = Wd at *
  gi_wp2
  gi_loopw [5, 6] (fun u1 u2 wr => ∃ (As Bs : List R) (pre : List (ItC A B)), NodSl w0 u1 As ∧ NodSl w0 u2 Bs ∧ Hid (∀ r ∈ As, r ∈ A) ∧ Hid (∀ r ∈ Bs, r ∈ B) ∧ As.length + Bs.length ≤ 1048576 ∧ Hid (pre.map ItC.c ++ chgs As Bs = chgs A B) ∧ J pre wr ∧ Hid (Boxed wr Bp 90 (.func (.func 75) #[] #[])) ∧ Below w0.heap.size w0 wr) (fun u1 u2 _ => lenV u1 + lenV u2)
  case atStart => exact ⟨A, B, [], HS10.out, HS20.out, fun _ h => h, fun _ h => h, hlen, rfl, h02, HBP0, hW2⟩
  case round =>
    obtain ⟨As, Bs, pre, hs1, hs2, HM1, HM2, hlen, HD, hJr, HBP, hbw⟩ := hrel
    obtain ⟨ho1, a1, cap1, rfl, hcap1, hs1⟩ := hs1
    obtain ⟨ho2, a2, cap2, rfl, hcap2, hs2⟩ := hs2
    have HO1 := Lib.hid ho1
    have HO2 := Lib.hid ho2
    clear ho1 ho2
    generalize hn1 : As.length = n1 at *
    generalize hn2 : Bs.length = n2 at *
    have HN1 := Lib.hid hn1
    have HN2 := Lib.hid hn2
    have HS1 := Lib.hid hs1
    have HS2 := Lib.hid hs2
    clear hn1 hn2 hs1 hs2
    by_cases hz2 : n2 = 0
    · obtain rfl : Bs = [] := List.eq_nil_of_length_eq_zero (by have := HN2.out; omega)
      have HR2 := Lib.hid (nsl_of (HO2.out) HN2.out hcap2 HS2.out)
      subst hz2
      by_cases hz1 : n1 = 0
      · obtain rfl : As = [] := List.eq_nil_of_length_eq_zero (by have := HN1.out; omega)
        subst hz1
        have HE : Hid (pre.map ItC.c = chgs A B) := by have := HD.out; rw [chg_nil, List.append_nil] at this; exact this
        gi_wp2
        go_end0
        exact ⟨⟨_, rfl⟩, .inl ⟨pre, HE.out, hJr⟩⟩
      · obtain ⟨x, a, rfl⟩ : ∃ x a, As = x :: a := by
          cases As with
          | nil => have := HN1.out; simp at this; omega
          | cons x a => exact ⟨x, a, rfl⟩
        have HR1 := Lib.hid (nsl_of (HO1.out) HN1.out hcap1 HS1.out)
        obtain ⟨b1, off1, rfl, hb1, hcell1⟩ := HS1.out (by omega)
        have HX : Hid (∀ W, Below w0.heap.size w0 W → NodCells W b1 off1 x) := fun W hW => by have := (hcell1 0 x rfl).below hW hb1; simpa using this
        clear HS1 hcell1
        have HFX := Lib.hid (HFA.out x (HM1.out x (List.mem_cons_self ..)))
        have HPX := Lib.hid (fault_path HFX.out)
        have HA1 : Hid (a.length + 1 = n1) := HN1.out
        have hq0n : 0 < n1 := by omega
        have hq0 : (0 : Int) < (n1 : Int) := by omega
        have hq1 : (1 : Int) ≤ (n1 : Int) := by omega
        have hq2 : (1 : Int) ≤ (cap1 : Int) := by omega
        have hp1 : decide ((0 : Int) < (n1 : Int)) = true := by simp; omega
        have hw0 : IntKind.i64.wrap (n1 : Int) = (n1 : Int) := by rw [IntKind.wrap_i64]; omega
        have hself : (x.p.toList == x.p.toList) = true := by simp
        have HFP := firstPathN_any _ _ (x :: a) [] wr ((HR1.out).below hbw) ((HR2.out).below hbw) (by simp) (fun r hr => (fault_path (HFA.out r (HM1.out r hr))).1) (fun r hr => (fault_path (HFB.out r (HM2.out r hr))).1)
        rw [show fpQ (x :: a) [] = x.p from rfl] at HFP
        have hpw := HBP.out.cell
        gi_wp2
        refine ⟨trivial, (callsIn_wide.2 HFP).mono ?_⟩
        rintro e w1 ⟨rfl, hbf⟩
        clear HFP hpw
        have hbf1 := hbw.trans (hbf.mono hbw.size)
        have hbA : Below w0.heap.size w0 (w1.alloc (.cells #[.string x.p, .int .i64 0, .string ⟨#[]⟩, .string ⟨#[]⟩, .int .i64 0, .int .i64 0, .string ⟨#[]⟩, .string ⟨#[]⟩, .int .i64 0] 92)) := hbf1.alloc hbf1.size _
        have hbR : Below wr.heap.size wr (w1.alloc (.cells #[.string x.p, .int .i64 0, .string ⟨#[]⟩, .string ⟨#[]⟩, .int .i64 0, .int .i64 0, .string ⟨#[]⟩, .string ⟨#[]⟩, .int .i64 0] 92)) := hbf.alloc hbf.size _
        have HCB : CbN (w1.alloc (.cells #[.string x.p, .int .i64 0, .string ⟨#[]⟩, .string ⟨#[]⟩, .int .i64 0, .int .i64 0, .string ⟨#[]⟩, .string ⟨#[]⟩, .int .i64 0] 92)) w1.heap.size x.p zR zR := alloc_here _ _
        have hszc : w0.heap.size ≤ w1.heap.size := hbf1.size
        have hszr : wr.heap.size ≤ w1.heap.size := hbf.size
        gi_wp2
        generalize w1.alloc (.cells #[.string x.p, .int .i64 0, .string ⟨#[]⟩, .string ⟨#[]⟩, .int .i64 0, .int .i64 0, .string ⟨#[]⟩, .string ⟨#[]⟩, .int .i64 0] 92) = Wc at *
        generalize w1.heap.size = C at *
        have hcb := HCB.cells
        simp only [zR] at hcb
        obtain ⟨e0, -⟩ := hcb
        obtain ⟨c0, c1, c2, c3⟩ := HX.out _ hbA
        have hlC := HCB.lt
        have hpb : Boxed Wc Bp 90 (.func (.func 75) #[] #[]) := (hbR.block _ HBP.out.lt).trans HBP.out
        have hlp := hpb.lt
        have hpc := hpb.cell
        have HKS : Hid (∀ W, Below Wc.heap.size Wc W → W.cell? ⟨b1, off1, none⟩ = some (.int .i64 x.k) ∧ W.cell? ⟨b1, off1 + 1, none⟩ = some (.string x.p) ∧ W.cell? ⟨b1, off1 + 2, none⟩ = some (.string x.b) ∧ W.cell? ⟨b1, off1 + 3, none⟩ = some (.int .i64 x.m) ∧ W.cell? ⟨C, 0, none⟩ = some (.string x.p) ∧ W.cell? ⟨Bp, 0, none⟩ = some (.func (.func 75) #[] #[])) := fun W hW => by
          obtain ⟨c0, c1, c2, c3⟩ := HX.out W (hbA.trans (hW.mono hbA.size))
          exact ⟨c0, c1, c2, c3, (hW.cell (p := ⟨C, 0, none⟩) hlC).trans e0, (hW.cell (p := ⟨Bp, 0, none⟩) hlp).trans hpc⟩
        have hbd : Below Wc.heap.size Wc Wc.drew := (Below.refl _ _).drew
        refine wpIn_wide.2 ?_
        go_region_held3 (fun W => W.cell? ⟨b1, off1, none⟩ = some (.int .i64 x.k) ∧ W.cell? ⟨b1, off1 + 1, none⟩ = some (.string x.p) ∧ W.cell? ⟨b1, off1 + 2, none⟩ = some (.string x.b) ∧ W.cell? ⟨b1, off1 + 3, none⟩ = some (.int .i64 x.m) ∧ W.cell? ⟨C, 0, none⟩ = some (.string x.p) ∧ W.cell? ⟨Bp, 0, none⟩ = some (.func (.func 75) #[] #[])) (first | exact HKS.out _ z3 | exact HKS.out _ hbd | go_keep) (first
          | (go_at_call 75; refine (HPO.out _ _ _ _ _).mono ?_; rintro e w3 ⟨rfl, hb3⟩; have z3 := hbd.trans (hb3.mono hbd.size)))
        clear c0 c1 c2 c3 e0 hpc hpb hlp HKS
        replace HCB := HCB.below z3 hlC
        replace hbR := hbR.trans (z3.mono hbR.size)
        replace hbA := hbA.trans (z3.mono hbA.size)
        clear hbd hlC z3 hb3
        generalize w3 = Wc at *
        gi_wp2
        by_cases hcc1 : cap1 = 1
        · have HT1 := Lib.hid (ntail_one (HR1.out) hcc1)
          have hn01 : n1 = 1 := by omega
          subst hcc1
          subst hn01
          obtain ⟨c0, c1, c2, c3⟩ := HX.out _ hbA
          obtain ⟨g0, g1, g2, g3, g4, g5, g6, g7, g8⟩ := HCB.frozen
          obtain ⟨e0, e1, e2, e3, e4, e5, e6, e7, e8⟩ := HCB.cells
          simp only [zR] at e0 e1 e2 e3 e4 e5 e6 e7 e8
          have HCB1 := Lib.hid (HCB.one x)
          have HBA := Lib.hid hbA
          have HBR := Lib.hid hbR
          have HWC : Hid (w0.heap.size ≤ C ∧ wr.heap.size ≤ C) := ⟨hszc, hszr⟩
          clear HCB hbA hbR
          gi_wp2
          refine wpIn_wide.2 ?_
          go_region
          have HCB : CbN (((((Wc.setCell ⟨C, 1, none⟩ (.int .i64 x.k)).setCell ⟨C, 2, none⟩ (.string x.p)).setCell ⟨C, 3, none⟩ (.string x.b)).setCell ⟨C, 4, none⟩ (.int .i64 x.m)).drew) C _ _ _ := HCB1.out
          have hbA : Below w0.heap.size w0 (((((Wc.setCell ⟨C, 1, none⟩ (.int .i64 x.k)).setCell ⟨C, 2, none⟩ (.string x.p)).setCell ⟨C, 3, none⟩ (.string x.b)).setCell ⟨C, 4, none⟩ (.int .i64 x.m)).drew) := Below.drew (((((HBA.out.setCell (p := ⟨C, 1, none⟩) HWC.out.1 (.int .i64 x.k)).setCell (p := ⟨C, 2, none⟩) HWC.out.1 (.string x.p)).setCell (p := ⟨C, 3, none⟩) HWC.out.1 (.string x.b)).setCell (p := ⟨C, 4, none⟩) HWC.out.1 (.int .i64 x.m)))
          have hbR : Below wr.heap.size wr (((((Wc.setCell ⟨C, 1, none⟩ (.int .i64 x.k)).setCell ⟨C, 2, none⟩ (.string x.p)).setCell ⟨C, 3, none⟩ (.string x.b)).setCell ⟨C, 4, none⟩ (.int .i64 x.m)).drew) := Below.drew (((((HBR.out.setCell (p := ⟨C, 1, none⟩) HWC.out.2 (.int .i64 x.k)).setCell (p := ⟨C, 2, none⟩) HWC.out.2 (.string x.p)).setCell (p := ⟨C, 3, none⟩) HWC.out.2 (.string x.b)).setCell (p := ⟨C, 4, none⟩) HWC.out.2 (.int .i64 x.m)))
          clear c0 c1 c2 c3 g0 g1 g2 g3 g4 g5 g6 g7 g8 e0 e1 e2 e3 e4 e5 e6 e7 e8 HCB1 HBA HBR HWC
          generalize ((((Wc.setCell ⟨C, 1, none⟩ (.int .i64 x.k)).setCell ⟨C, 2, none⟩ (.string x.p)).setCell ⟨C, 3, none⟩ (.string x.b)).setCell ⟨C, 4, none⟩ (.int .i64 x.m)).drew = Wc at *
          gi_wp2
          refine wpIn_wide.2 ?_
          go_quiet (fail)
          replace HCB := HCB.below (below_drewN (Below.refl _ _) nq) HCB.lt
          replace hbR := below_drewN hbR nq
          replace hbA := below_drewN hbA nq
          generalize Wc.drewN nq = Wc at *
          have HJ2 : J pre Wc := abide_below HJ.out hJr hbR
          have HPB : Hid (Boxed Wc Bp 90 (.func (.func 75) #[] #[])) := (hbR.block _ HBP.out.lt).trans HBP.out
          obtain ⟨e0, e1, e2, e3, e4, e5, e6, e7, e8⟩ := HCB.cells
          simp only [zR] at e0 e1 e2 e3 e4 e5 e6 e7 e8
          have hk1 := HPX.out.2.1
          have f0 : (x.k == 0) = false := by simp; omega
          clear hk1
          have HE : Hid (chgs (x :: a) [] = (x.p, x, zR) :: chgs a []) := chg_left x a
          have HMEM : (x.p, x, zR) ∈ chgs A B := by rw [← HD.out, HE.out]; simp
          have HDN : Hid ((pre ++ [(⟨(x.p, x, zR), HMEM⟩ : ItC A B)]).map ItC.c ++ chgs a [] = chgs A B) := by show _ = _; rw [← HD.out, HE.out, List.map_append]; simp
          have HLN : pre.length < (chgs A B).length := by rw [← HD.out, HE.out, List.length_append, List.length_map, List.length_cons]; omega
          obtain ⟨fn, tmps, assign, body, hy, hR⟩ := HY.out pre ⟨(x.p, x, zR), HMEM⟩ Wc HJ2 HLN
          dsimp only [chgVN, zR] at hy
          clear HE
          gi_wp2
          refine hR.mono ?_
          rintro e W3 (⟨rfl, hJ3, hk3⟩ | ⟨rfl, hJx3⟩)
          · gi_wp2
            go_roundw
            case rel => exact ⟨a, [], pre ++ [⟨(x.p, x, zR), HMEM⟩], HT1.out, HR2.out, fun r hr => HM1.out r (List.mem_cons_of_mem _ hr), HM2.out, by have h1 := HA1.out; simp only [List.length_nil]; omega, HDN, hJ3, hk3.2 _ HPB.out, hbA.trans hk3.1⟩
            case measure => simp only [lenV]; omega
          · gi_wp2
            refine bodyPost_ret (results_none rfl _ _ _) rfl ?_
            exact ⟨⟨_, rfl⟩, .inr ⟨_, ⟨chgs a [], HDN.out⟩, hJx3⟩⟩
        · have HT1 := Lib.hid (ntail_more (HR1.out))
          obtain ⟨c0, c1, c2, c3⟩ := HX.out _ hbA
          obtain ⟨g0, g1, g2, g3, g4, g5, g6, g7, g8⟩ := HCB.frozen
          obtain ⟨e0, e1, e2, e3, e4, e5, e6, e7, e8⟩ := HCB.cells
          simp only [zR] at e0 e1 e2 e3 e4 e5 e6 e7 e8
          have HCB1 := Lib.hid (HCB.one x)
          have HBA := Lib.hid hbA
          have HBR := Lib.hid hbR
          have HWC : Hid (w0.heap.size ≤ C ∧ wr.heap.size ≤ C) := ⟨hszc, hszr⟩
          clear HCB hbA hbR
          gi_wp2
          refine wpIn_wide.2 ?_
          go_region
          have HCB : CbN (((((Wc.setCell ⟨C, 1, none⟩ (.int .i64 x.k)).setCell ⟨C, 2, none⟩ (.string x.p)).setCell ⟨C, 3, none⟩ (.string x.b)).setCell ⟨C, 4, none⟩ (.int .i64 x.m)).drew) C _ _ _ := HCB1.out
          have hbA : Below w0.heap.size w0 (((((Wc.setCell ⟨C, 1, none⟩ (.int .i64 x.k)).setCell ⟨C, 2, none⟩ (.string x.p)).setCell ⟨C, 3, none⟩ (.string x.b)).setCell ⟨C, 4, none⟩ (.int .i64 x.m)).drew) := Below.drew (((((HBA.out.setCell (p := ⟨C, 1, none⟩) HWC.out.1 (.int .i64 x.k)).setCell (p := ⟨C, 2, none⟩) HWC.out.1 (.string x.p)).setCell (p := ⟨C, 3, none⟩) HWC.out.1 (.string x.b)).setCell (p := ⟨C, 4, none⟩) HWC.out.1 (.int .i64 x.m)))
          have hbR : Below wr.heap.size wr (((((Wc.setCell ⟨C, 1, none⟩ (.int .i64 x.k)).setCell ⟨C, 2, none⟩ (.string x.p)).setCell ⟨C, 3, none⟩ (.string x.b)).setCell ⟨C, 4, none⟩ (.int .i64 x.m)).drew) := Below.drew (((((HBR.out.setCell (p := ⟨C, 1, none⟩) HWC.out.2 (.int .i64 x.k)).setCell (p := ⟨C, 2, none⟩) HWC.out.2 (.string x.p)).setCell (p := ⟨C, 3, none⟩) HWC.out.2 (.string x.b)).setCell (p := ⟨C, 4, none⟩) HWC.out.2 (.int .i64 x.m)))
          clear c0 c1 c2 c3 g0 g1 g2 g3 g4 g5 g6 g7 g8 e0 e1 e2 e3 e4 e5 e6 e7 e8 HCB1 HBA HBR HWC
          generalize ((((Wc.setCell ⟨C, 1, none⟩ (.int .i64 x.k)).setCell ⟨C, 2, none⟩ (.string x.p)).setCell ⟨C, 3, none⟩ (.string x.b)).setCell ⟨C, 4, none⟩ (.int .i64 x.m)).drew = Wc at *
          gi_wp2
          refine wpIn_wide.2 ?_
          go_quiet (fail)
          replace HCB := HCB.below (below_drewN (Below.refl _ _) nq) HCB.lt
          replace hbR := below_drewN hbR nq
          replace hbA := below_drewN hbA nq
          generalize Wc.drewN nq = Wc at *
          have HJ2 : J pre Wc := abide_below HJ.out hJr hbR
          have HPB : Hid (Boxed Wc Bp 90 (.func (.func 75) #[] #[])) := (hbR.block _ HBP.out.lt).trans HBP.out
          obtain ⟨e0, e1, e2, e3, e4, e5, e6, e7, e8⟩ := HCB.cells
          simp only [zR] at e0 e1 e2 e3 e4 e5 e6 e7 e8
          have hk1 := HPX.out.2.1
          have f0 : (x.k == 0) = false := by simp; omega
          clear hk1
          have HE : Hid (chgs (x :: a) [] = (x.p, x, zR) :: chgs a []) := chg_left x a
          have HMEM : (x.p, x, zR) ∈ chgs A B := by rw [← HD.out, HE.out]; simp
          have HDN : Hid ((pre ++ [(⟨(x.p, x, zR), HMEM⟩ : ItC A B)]).map ItC.c ++ chgs a [] = chgs A B) := by show _ = _; rw [← HD.out, HE.out, List.map_append]; simp
          have HLN : pre.length < (chgs A B).length := by rw [← HD.out, HE.out, List.length_append, List.length_map, List.length_cons]; omega
          obtain ⟨fn, tmps, assign, body, hy, hR⟩ := HY.out pre ⟨(x.p, x, zR), HMEM⟩ Wc HJ2 HLN
          dsimp only [chgVN, zR] at hy
          clear HE
          gi_wp2
          refine hR.mono ?_
          rintro e W3 (⟨rfl, hJ3, hk3⟩ | ⟨rfl, hJx3⟩)
          · gi_wp2
            go_roundw
            case rel => exact ⟨a, [], pre ++ [⟨(x.p, x, zR), HMEM⟩], HT1.out, HR2.out, fun r hr => HM1.out r (List.mem_cons_of_mem _ hr), HM2.out, by have h1 := HA1.out; simp only [List.length_nil]; omega, HDN, hJ3, hk3.2 _ HPB.out, hbA.trans hk3.1⟩
            case measure => simp only [lenV]; omega
          · gi_wp2
            refine bodyPost_ret (results_none rfl _ _ _) rfl ?_
            exact ⟨⟨_, rfl⟩, .inr ⟨_, ⟨chgs a [], HDN.out⟩, hJx3⟩⟩
    · obtain ⟨y, b, rfl⟩ : ∃ y b, Bs = y :: b := by
        cases Bs with
        | nil => have := HN2.out; simp at this; omega
        | cons y b => exact ⟨y, b, rfl⟩
      have HR2 := Lib.hid (nsl_of (HO2.out) HN2.out hcap2 HS2.out)
      obtain ⟨b2, off2, rfl, hb2, hcell2⟩ := HS2.out (by omega)
      have HY0 : Hid (∀ W, Below w0.heap.size w0 W → NodCells W b2 off2 y) := fun W hW => by have := (hcell2 0 y rfl).below hW hb2; simpa using this
      clear HS2 hcell2
      have HFY := Lib.hid (HFB.out y (HM2.out y (List.mem_cons_self ..)))
      have HPY := Lib.hid (fault_path HFY.out)
      have HB2 : Hid (b.length + 1 = n2) := HN2.out
      have hu0n : 0 < n2 := by omega
      have hu0 : (0 : Int) < (n2 : Int) := by omega
      have hu1 : (1 : Int) ≤ (n2 : Int) := by omega
      have hu2 : (1 : Int) ≤ (cap2 : Int) := by omega
      have hp2 : decide ((0 : Int) < (n2 : Int)) = true := by simp; omega
      have hw2 : IntKind.i64.wrap (n2 : Int) = (n2 : Int) := by rw [IntKind.wrap_i64]; omega
      by_cases hz1 : n1 = 0
      · obtain rfl : As = [] := List.eq_nil_of_length_eq_zero (by have := HN1.out; omega)
        have HR1 := Lib.hid (nsl_of (HO1.out) HN1.out hcap1 HS1.out)
        subst hz1
        have hself : (y.p.toList == y.p.toList) = true := by simp
        have HFP := firstPathN_any _ _ [] (y :: b) wr ((HR1.out).below hbw) ((HR2.out).below hbw) (by simp) (fun r hr => (fault_path (HFA.out r (HM1.out r hr))).1) (fun r hr => (fault_path (HFB.out r (HM2.out r hr))).1)
        rw [show fpQ [] (y :: b) = y.p from rfl] at HFP
        have hpw := HBP.out.cell
        gi_wp2
        refine ⟨trivial, (callsIn_wide.2 HFP).mono ?_⟩
        rintro e w1 ⟨rfl, hbf⟩
        clear HFP hpw
        have hbf1 := hbw.trans (hbf.mono hbw.size)
        have hbA : Below w0.heap.size w0 (w1.alloc (.cells #[.string y.p, .int .i64 0, .string ⟨#[]⟩, .string ⟨#[]⟩, .int .i64 0, .int .i64 0, .string ⟨#[]⟩, .string ⟨#[]⟩, .int .i64 0] 92)) := hbf1.alloc hbf1.size _
        have hbR : Below wr.heap.size wr (w1.alloc (.cells #[.string y.p, .int .i64 0, .string ⟨#[]⟩, .string ⟨#[]⟩, .int .i64 0, .int .i64 0, .string ⟨#[]⟩, .string ⟨#[]⟩, .int .i64 0] 92)) := hbf.alloc hbf.size _
        have HCB : CbN (w1.alloc (.cells #[.string y.p, .int .i64 0, .string ⟨#[]⟩, .string ⟨#[]⟩, .int .i64 0, .int .i64 0, .string ⟨#[]⟩, .string ⟨#[]⟩, .int .i64 0] 92)) w1.heap.size y.p zR zR := alloc_here _ _
        have hszc : w0.heap.size ≤ w1.heap.size := hbf1.size
        have hszr : wr.heap.size ≤ w1.heap.size := hbf.size
        gi_wp2
        generalize w1.alloc (.cells #[.string y.p, .int .i64 0, .string ⟨#[]⟩, .string ⟨#[]⟩, .int .i64 0, .int .i64 0, .string ⟨#[]⟩, .string ⟨#[]⟩, .int .i64 0] 92) = Wc at *
        generalize w1.heap.size = C at *
        gi_wp2
        refine wpIn_wide.2 ?_
        go_quiet (fail)
        replace HCB := HCB.below (below_drewN (Below.refl _ _) nq) HCB.lt
        replace hbR := below_drewN hbR nq
        replace hbA := below_drewN hbA nq
        generalize Wc.drewN nq = Wc at *
        gi_wp2
        have hcb := HCB.cells
        simp only [zR] at hcb
        obtain ⟨e0, -⟩ := hcb
        obtain ⟨c0, c1, c2, c3⟩ := HY0.out _ hbA
        have hlC := HCB.lt
        have hpb : Boxed Wc Bp 90 (.func (.func 75) #[] #[]) := (hbR.block _ HBP.out.lt).trans HBP.out
        have hlp := hpb.lt
        have hpc := hpb.cell
        have HKS : Hid (∀ W, Below Wc.heap.size Wc W → W.cell? ⟨b2, off2, none⟩ = some (.int .i64 y.k) ∧ W.cell? ⟨b2, off2 + 1, none⟩ = some (.string y.p) ∧ W.cell? ⟨b2, off2 + 2, none⟩ = some (.string y.b) ∧ W.cell? ⟨b2, off2 + 3, none⟩ = some (.int .i64 y.m) ∧ W.cell? ⟨C, 0, none⟩ = some (.string y.p) ∧ W.cell? ⟨Bp, 0, none⟩ = some (.func (.func 75) #[] #[])) := fun W hW => by
          obtain ⟨c0, c1, c2, c3⟩ := HY0.out W (hbA.trans (hW.mono hbA.size))
          exact ⟨c0, c1, c2, c3, (hW.cell (p := ⟨C, 0, none⟩) hlC).trans e0, (hW.cell (p := ⟨Bp, 0, none⟩) hlp).trans hpc⟩
        have hbd : Below Wc.heap.size Wc Wc.drew := (Below.refl _ _).drew
        refine wpIn_wide.2 ?_
        go_region_held3 (fun W => W.cell? ⟨b2, off2, none⟩ = some (.int .i64 y.k) ∧ W.cell? ⟨b2, off2 + 1, none⟩ = some (.string y.p) ∧ W.cell? ⟨b2, off2 + 2, none⟩ = some (.string y.b) ∧ W.cell? ⟨b2, off2 + 3, none⟩ = some (.int .i64 y.m) ∧ W.cell? ⟨C, 0, none⟩ = some (.string y.p) ∧ W.cell? ⟨Bp, 0, none⟩ = some (.func (.func 75) #[] #[])) (first | exact HKS.out _ z3 | exact HKS.out _ hbd | go_keep) (first
          | (go_at_call 75; refine (HPO.out _ _ _ _ _).mono ?_; rintro e w3 ⟨rfl, hb3⟩; have z3 := hbd.trans (hb3.mono hbd.size)))
        clear c0 c1 c2 c3 e0 hpc hpb hlp HKS
        replace HCB := HCB.below z3 hlC
        replace hbR := hbR.trans (z3.mono hbR.size)
        replace hbA := hbA.trans (z3.mono hbA.size)
        clear hbd hlC z3 hb3
        generalize w3 = Wc at *
        gi_wp2
        by_cases hcc2 : cap2 = 1
        · have HT2 := Lib.hid (ntail_one (HR2.out) hcc2)
          have hn02 : n2 = 1 := by omega
          subst hcc2
          subst hn02
          obtain ⟨c0, c1, c2, c3⟩ := HY0.out _ hbA
          obtain ⟨g0, g1, g2, g3, g4, g5, g6, g7, g8⟩ := HCB.frozen
          obtain ⟨e0, e1, e2, e3, e4, e5, e6, e7, e8⟩ := HCB.cells
          simp only [zR] at e0 e1 e2 e3 e4 e5 e6 e7 e8
          have HCB1 := Lib.hid (HCB.two y)
          have HBA := Lib.hid hbA
          have HBR := Lib.hid hbR
          have HWC : Hid (w0.heap.size ≤ C ∧ wr.heap.size ≤ C) := ⟨hszc, hszr⟩
          clear HCB hbA hbR
          gi_wp2
          refine wpIn_wide.2 ?_
          go_region
          have HCB : CbN (((((Wc.setCell ⟨C, 5, none⟩ (.int .i64 y.k)).setCell ⟨C, 6, none⟩ (.string y.p)).setCell ⟨C, 7, none⟩ (.string y.b)).setCell ⟨C, 8, none⟩ (.int .i64 y.m)).drew) C _ _ _ := HCB1.out
          have hbA : Below w0.heap.size w0 (((((Wc.setCell ⟨C, 5, none⟩ (.int .i64 y.k)).setCell ⟨C, 6, none⟩ (.string y.p)).setCell ⟨C, 7, none⟩ (.string y.b)).setCell ⟨C, 8, none⟩ (.int .i64 y.m)).drew) := Below.drew (((((HBA.out.setCell (p := ⟨C, 5, none⟩) HWC.out.1 (.int .i64 y.k)).setCell (p := ⟨C, 6, none⟩) HWC.out.1 (.string y.p)).setCell (p := ⟨C, 7, none⟩) HWC.out.1 (.string y.b)).setCell (p := ⟨C, 8, none⟩) HWC.out.1 (.int .i64 y.m)))
          have hbR : Below wr.heap.size wr (((((Wc.setCell ⟨C, 5, none⟩ (.int .i64 y.k)).setCell ⟨C, 6, none⟩ (.string y.p)).setCell ⟨C, 7, none⟩ (.string y.b)).setCell ⟨C, 8, none⟩ (.int .i64 y.m)).drew) := Below.drew (((((HBR.out.setCell (p := ⟨C, 5, none⟩) HWC.out.2 (.int .i64 y.k)).setCell (p := ⟨C, 6, none⟩) HWC.out.2 (.string y.p)).setCell (p := ⟨C, 7, none⟩) HWC.out.2 (.string y.b)).setCell (p := ⟨C, 8, none⟩) HWC.out.2 (.int .i64 y.m)))
          clear c0 c1 c2 c3 g0 g1 g2 g3 g4 g5 g6 g7 g8 e0 e1 e2 e3 e4 e5 e6 e7 e8 HCB1 HBA HBR HWC
          generalize ((((Wc.setCell ⟨C, 5, none⟩ (.int .i64 y.k)).setCell ⟨C, 6, none⟩ (.string y.p)).setCell ⟨C, 7, none⟩ (.string y.b)).setCell ⟨C, 8, none⟩ (.int .i64 y.m)).drew = Wc at *
          have HJ2 : J pre Wc := abide_below HJ.out hJr hbR
          have HPB : Hid (Boxed Wc Bp 90 (.func (.func 75) #[] #[])) := (hbR.block _ HBP.out.lt).trans HBP.out
          obtain ⟨e0, e1, e2, e3, e4, e5, e6, e7, e8⟩ := HCB.cells
          simp only [zR] at e0 e1 e2 e3 e4 e5 e6 e7 e8
          have hk1 := HPY.out.2.1
          have f0 : ((0 : Int) == y.k) = false := by simp; omega
          clear hk1
          have HE : Hid (chgs [] (y :: b) = (y.p, zR, y) :: chgs [] b) := chg_right y b
          have HMEM : (y.p, zR, y) ∈ chgs A B := by rw [← HD.out, HE.out]; simp
          have HDN : Hid ((pre ++ [(⟨(y.p, zR, y), HMEM⟩ : ItC A B)]).map ItC.c ++ chgs [] b = chgs A B) := by show _ = _; rw [← HD.out, HE.out, List.map_append]; simp
          have HLN : pre.length < (chgs A B).length := by rw [← HD.out, HE.out, List.length_append, List.length_map, List.length_cons]; omega
          obtain ⟨fn, tmps, assign, body, hy, hR⟩ := HY.out pre ⟨(y.p, zR, y), HMEM⟩ Wc HJ2 HLN
          dsimp only [chgVN, zR] at hy
          clear HE
          gi_wp2
          refine hR.mono ?_
          rintro e W3 (⟨rfl, hJ3, hk3⟩ | ⟨rfl, hJx3⟩)
          · gi_wp2
            go_roundw
            case rel => exact ⟨[], b, pre ++ [⟨(y.p, zR, y), HMEM⟩], HR1.out, HT2.out, HM1.out, fun r hr => HM2.out r (List.mem_cons_of_mem _ hr), by have h2 := HB2.out; simp only [List.length_nil]; omega, HDN, hJ3, hk3.2 _ HPB.out, hbA.trans hk3.1⟩
            case measure => simp only [lenV]; omega
          · gi_wp2
            refine bodyPost_ret (results_none rfl _ _ _) rfl ?_
            exact ⟨⟨_, rfl⟩, .inr ⟨_, ⟨chgs [] b, HDN.out⟩, hJx3⟩⟩
        · have HT2 := Lib.hid (ntail_more (HR2.out))
          obtain ⟨c0, c1, c2, c3⟩ := HY0.out _ hbA
          obtain ⟨g0, g1, g2, g3, g4, g5, g6, g7, g8⟩ := HCB.frozen
          obtain ⟨e0, e1, e2, e3, e4, e5, e6, e7, e8⟩ := HCB.cells
          simp only [zR] at e0 e1 e2 e3 e4 e5 e6 e7 e8
          have HCB1 := Lib.hid (HCB.two y)
          have HBA := Lib.hid hbA
          have HBR := Lib.hid hbR
          have HWC : Hid (w0.heap.size ≤ C ∧ wr.heap.size ≤ C) := ⟨hszc, hszr⟩
          clear HCB hbA hbR
          gi_wp2
          refine wpIn_wide.2 ?_
          go_region
          have HCB : CbN (((((Wc.setCell ⟨C, 5, none⟩ (.int .i64 y.k)).setCell ⟨C, 6, none⟩ (.string y.p)).setCell ⟨C, 7, none⟩ (.string y.b)).setCell ⟨C, 8, none⟩ (.int .i64 y.m)).drew) C _ _ _ := HCB1.out
          have hbA : Below w0.heap.size w0 (((((Wc.setCell ⟨C, 5, none⟩ (.int .i64 y.k)).setCell ⟨C, 6, none⟩ (.string y.p)).setCell ⟨C, 7, none⟩ (.string y.b)).setCell ⟨C, 8, none⟩ (.int .i64 y.m)).drew) := Below.drew (((((HBA.out.setCell (p := ⟨C, 5, none⟩) HWC.out.1 (.int .i64 y.k)).setCell (p := ⟨C, 6, none⟩) HWC.out.1 (.string y.p)).setCell (p := ⟨C, 7, none⟩) HWC.out.1 (.string y.b)).setCell (p := ⟨C, 8, none⟩) HWC.out.1 (.int .i64 y.m)))
          have hbR : Below wr.heap.size wr (((((Wc.setCell ⟨C, 5, none⟩ (.int .i64 y.k)).setCell ⟨C, 6, none⟩ (.string y.p)).setCell ⟨C, 7, none⟩ (.string y.b)).setCell ⟨C, 8, none⟩ (.int .i64 y.m)).drew) := Below.drew (((((HBR.out.setCell (p := ⟨C, 5, none⟩) HWC.out.2 (.int .i64 y.k)).setCell (p := ⟨C, 6, none⟩) HWC.out.2 (.string y.p)).setCell (p := ⟨C, 7, none⟩) HWC.out.2 (.string y.b)).setCell (p := ⟨C, 8, none⟩) HWC.out.2 (.int .i64 y.m)))
          clear c0 c1 c2 c3 g0 g1 g2 g3 g4 g5 g6 g7 g8 e0 e1 e2 e3 e4 e5 e6 e7 e8 HCB1 HBA HBR HWC
          generalize ((((Wc.setCell ⟨C, 5, none⟩ (.int .i64 y.k)).setCell ⟨C, 6, none⟩ (.string y.p)).setCell ⟨C, 7, none⟩ (.string y.b)).setCell ⟨C, 8, none⟩ (.int .i64 y.m)).drew = Wc at *
          have HJ2 : J pre Wc := abide_below HJ.out hJr hbR
          have HPB : Hid (Boxed Wc Bp 90 (.func (.func 75) #[] #[])) := (hbR.block _ HBP.out.lt).trans HBP.out
          obtain ⟨e0, e1, e2, e3, e4, e5, e6, e7, e8⟩ := HCB.cells
          simp only [zR] at e0 e1 e2 e3 e4 e5 e6 e7 e8
          have hk1 := HPY.out.2.1
          have f0 : ((0 : Int) == y.k) = false := by simp; omega
          clear hk1
          have HE : Hid (chgs [] (y :: b) = (y.p, zR, y) :: chgs [] b) := chg_right y b
          have HMEM : (y.p, zR, y) ∈ chgs A B := by rw [← HD.out, HE.out]; simp
          have HDN : Hid ((pre ++ [(⟨(y.p, zR, y), HMEM⟩ : ItC A B)]).map ItC.c ++ chgs [] b = chgs A B) := by show _ = _; rw [← HD.out, HE.out, List.map_append]; simp
          have HLN : pre.length < (chgs A B).length := by rw [← HD.out, HE.out, List.length_append, List.length_map, List.length_cons]; omega
          obtain ⟨fn, tmps, assign, body, hy, hR⟩ := HY.out pre ⟨(y.p, zR, y), HMEM⟩ Wc HJ2 HLN
          dsimp only [chgVN, zR] at hy
          clear HE
          gi_wp2
          refine hR.mono ?_
          rintro e W3 (⟨rfl, hJ3, hk3⟩ | ⟨rfl, hJx3⟩)
          · gi_wp2
            go_roundw
            case rel => exact ⟨[], b, pre ++ [⟨(y.p, zR, y), HMEM⟩], HR1.out, HT2.out, HM1.out, fun r hr => HM2.out r (List.mem_cons_of_mem _ hr), by have h2 := HB2.out; simp only [List.length_nil]; omega, HDN, hJ3, hk3.2 _ HPB.out, hbA.trans hk3.1⟩
            case measure => simp only [lenV]; omega
          · gi_wp2
            refine bodyPost_ret (results_none rfl _ _ _) rfl ?_
            exact ⟨⟨_, rfl⟩, .inr ⟨_, ⟨chgs [] b, HDN.out⟩, hJx3⟩⟩
      · obtain ⟨x, a, rfl⟩ : ∃ x a, As = x :: a := by
          cases As with
          | nil => have := HN1.out; simp at this; omega
          | cons x a => exact ⟨x, a, rfl⟩
        have HR1 := Lib.hid (nsl_of (HO1.out) HN1.out hcap1 HS1.out)
        obtain ⟨b1, off1, rfl, hb1, hcell1⟩ := HS1.out (by omega)
        have HX : Hid (∀ W, Below w0.heap.size w0 W → NodCells W b1 off1 x) := fun W hW => by have := (hcell1 0 x rfl).below hW hb1; simpa using this
        clear HS1 hcell1
        have HFX := Lib.hid (HFA.out x (HM1.out x (List.mem_cons_self ..)))
        have HPX := Lib.hid (fault_path HFX.out)
        have HA1 : Hid (a.length + 1 = n1) := HN1.out
        have hq0n : 0 < n1 := by omega
        have hq0 : (0 : Int) < (n1 : Int) := by omega
        have hq1 : (1 : Int) ≤ (n1 : Int) := by omega
        have hq2 : (1 : Int) ≤ (cap1 : Int) := by omega
        have hp1 : decide ((0 : Int) < (n1 : Int)) = true := by simp; omega
        have hw0 : IntKind.i64.wrap ((n1 : Int) + (n2 : Int)) = (n1 : Int) + (n2 : Int) := by rw [IntKind.wrap_i64]; omega
        have hp0 : decide ((0 : Int) < (n1 : Int) + (n2 : Int)) = true := by simp; omega
        rcases Bool.eq_false_or_eq_true (lessR x y) with hls | hls
        · have HLS := Lib.hid hls
          have HNE : Hid (x.p ≠ y.p) := less_ne hls
          have hself : (x.p.toList == x.p.toList) = true := by simp
          have hys : (y.p.toList == x.p.toList) = false := by
            cases hc : (y.p.toList == x.p.toList) with
            | false => rfl
            | true => exact absurd (str_eq_of hc).symm HNE.out
          clear hls
          have HFP := firstPathN_any _ _ (x :: a) (y :: b) wr ((HR1.out).below hbw) ((HR2.out).below hbw) (by simp; omega) (fun r hr => (fault_path (HFA.out r (HM1.out r hr))).1) (fun r hr => (fault_path (HFB.out r (HM2.out r hr))).1)
          rw [show fpQ (x :: a) (y :: b) = x.p from (by show (if lessR x y then x.p else y.p) = x.p; rw [HLS.out]; rfl)] at HFP
          have hpw := HBP.out.cell
          gi_wp2
          refine ⟨trivial, (callsIn_wide.2 HFP).mono ?_⟩
          rintro e w1 ⟨rfl, hbf⟩
          clear HFP hpw
          have hbf1 := hbw.trans (hbf.mono hbw.size)
          have hbA : Below w0.heap.size w0 (w1.alloc (.cells #[.string x.p, .int .i64 0, .string ⟨#[]⟩, .string ⟨#[]⟩, .int .i64 0, .int .i64 0, .string ⟨#[]⟩, .string ⟨#[]⟩, .int .i64 0] 92)) := hbf1.alloc hbf1.size _
          have hbR : Below wr.heap.size wr (w1.alloc (.cells #[.string x.p, .int .i64 0, .string ⟨#[]⟩, .string ⟨#[]⟩, .int .i64 0, .int .i64 0, .string ⟨#[]⟩, .string ⟨#[]⟩, .int .i64 0] 92)) := hbf.alloc hbf.size _
          have HCB : CbN (w1.alloc (.cells #[.string x.p, .int .i64 0, .string ⟨#[]⟩, .string ⟨#[]⟩, .int .i64 0, .int .i64 0, .string ⟨#[]⟩, .string ⟨#[]⟩, .int .i64 0] 92)) w1.heap.size x.p zR zR := alloc_here _ _
          have hszc : w0.heap.size ≤ w1.heap.size := hbf1.size
          have hszr : wr.heap.size ≤ w1.heap.size := hbf.size
          gi_wp2
          generalize w1.alloc (.cells #[.string x.p, .int .i64 0, .string ⟨#[]⟩, .string ⟨#[]⟩, .int .i64 0, .int .i64 0, .string ⟨#[]⟩, .string ⟨#[]⟩, .int .i64 0] 92) = Wc at *
          generalize w1.heap.size = C at *
          have hcb := HCB.cells
          simp only [zR] at hcb
          obtain ⟨e0, -⟩ := hcb
          obtain ⟨c0, c1, c2, c3⟩ := HX.out _ hbA
          have hlC := HCB.lt
          have hpb : Boxed Wc Bp 90 (.func (.func 75) #[] #[]) := (hbR.block _ HBP.out.lt).trans HBP.out
          have hlp := hpb.lt
          have hpc := hpb.cell
          have HKS : Hid (∀ W, Below Wc.heap.size Wc W → W.cell? ⟨b1, off1, none⟩ = some (.int .i64 x.k) ∧ W.cell? ⟨b1, off1 + 1, none⟩ = some (.string x.p) ∧ W.cell? ⟨b1, off1 + 2, none⟩ = some (.string x.b) ∧ W.cell? ⟨b1, off1 + 3, none⟩ = some (.int .i64 x.m) ∧ W.cell? ⟨C, 0, none⟩ = some (.string x.p) ∧ W.cell? ⟨Bp, 0, none⟩ = some (.func (.func 75) #[] #[])) := fun W hW => by
            obtain ⟨c0, c1, c2, c3⟩ := HX.out W (hbA.trans (hW.mono hbA.size))
            exact ⟨c0, c1, c2, c3, (hW.cell (p := ⟨C, 0, none⟩) hlC).trans e0, (hW.cell (p := ⟨Bp, 0, none⟩) hlp).trans hpc⟩
          have hbd : Below Wc.heap.size Wc Wc.drew := (Below.refl _ _).drew
          refine wpIn_wide.2 ?_
          go_region_held3 (fun W => W.cell? ⟨b1, off1, none⟩ = some (.int .i64 x.k) ∧ W.cell? ⟨b1, off1 + 1, none⟩ = some (.string x.p) ∧ W.cell? ⟨b1, off1 + 2, none⟩ = some (.string x.b) ∧ W.cell? ⟨b1, off1 + 3, none⟩ = some (.int .i64 x.m) ∧ W.cell? ⟨C, 0, none⟩ = some (.string x.p) ∧ W.cell? ⟨Bp, 0, none⟩ = some (.func (.func 75) #[] #[])) (first | exact HKS.out _ z3 | exact HKS.out _ hbd | go_keep) (first
            | (go_at_call 75; refine (HPO.out _ _ _ _ _).mono ?_; rintro e w3 ⟨rfl, hb3⟩; have z3 := hbd.trans (hb3.mono hbd.size)))
          clear c0 c1 c2 c3 e0 hpc hpb hlp HKS
          replace HCB := HCB.below z3 hlC
          replace hbR := hbR.trans (z3.mono hbR.size)
          replace hbA := hbA.trans (z3.mono hbA.size)
          clear hbd hlC z3 hb3
          generalize w3 = Wc at *
          gi_wp2
          by_cases hcc1 : cap1 = 1
          · have HT1 := Lib.hid (ntail_one (HR1.out) hcc1)
            have hn01 : n1 = 1 := by omega
            subst hcc1
            subst hn01
            obtain ⟨c0, c1, c2, c3⟩ := HX.out _ hbA
            obtain ⟨g0, g1, g2, g3, g4, g5, g6, g7, g8⟩ := HCB.frozen
            obtain ⟨e0, e1, e2, e3, e4, e5, e6, e7, e8⟩ := HCB.cells
            simp only [zR] at e0 e1 e2 e3 e4 e5 e6 e7 e8
            have HCB1 := Lib.hid (HCB.one x)
            have HBA := Lib.hid hbA
            have HBR := Lib.hid hbR
            have HWC : Hid (w0.heap.size ≤ C ∧ wr.heap.size ≤ C) := ⟨hszc, hszr⟩
            clear HCB hbA hbR
            gi_wp2
            refine wpIn_wide.2 ?_
            go_region
            have HCB : CbN (((((Wc.setCell ⟨C, 1, none⟩ (.int .i64 x.k)).setCell ⟨C, 2, none⟩ (.string x.p)).setCell ⟨C, 3, none⟩ (.string x.b)).setCell ⟨C, 4, none⟩ (.int .i64 x.m)).drew) C _ _ _ := HCB1.out
            have hbA : Below w0.heap.size w0 (((((Wc.setCell ⟨C, 1, none⟩ (.int .i64 x.k)).setCell ⟨C, 2, none⟩ (.string x.p)).setCell ⟨C, 3, none⟩ (.string x.b)).setCell ⟨C, 4, none⟩ (.int .i64 x.m)).drew) := Below.drew (((((HBA.out.setCell (p := ⟨C, 1, none⟩) HWC.out.1 (.int .i64 x.k)).setCell (p := ⟨C, 2, none⟩) HWC.out.1 (.string x.p)).setCell (p := ⟨C, 3, none⟩) HWC.out.1 (.string x.b)).setCell (p := ⟨C, 4, none⟩) HWC.out.1 (.int .i64 x.m)))
            have hbR : Below wr.heap.size wr (((((Wc.setCell ⟨C, 1, none⟩ (.int .i64 x.k)).setCell ⟨C, 2, none⟩ (.string x.p)).setCell ⟨C, 3, none⟩ (.string x.b)).setCell ⟨C, 4, none⟩ (.int .i64 x.m)).drew) := Below.drew (((((HBR.out.setCell (p := ⟨C, 1, none⟩) HWC.out.2 (.int .i64 x.k)).setCell (p := ⟨C, 2, none⟩) HWC.out.2 (.string x.p)).setCell (p := ⟨C, 3, none⟩) HWC.out.2 (.string x.b)).setCell (p := ⟨C, 4, none⟩) HWC.out.2 (.int .i64 x.m)))
            clear c0 c1 c2 c3 g0 g1 g2 g3 g4 g5 g6 g7 g8 e0 e1 e2 e3 e4 e5 e6 e7 e8 HCB1 HBA HBR HWC
            generalize ((((Wc.setCell ⟨C, 1, none⟩ (.int .i64 x.k)).setCell ⟨C, 2, none⟩ (.string x.p)).setCell ⟨C, 3, none⟩ (.string x.b)).setCell ⟨C, 4, none⟩ (.int .i64 x.m)).drew = Wc at *
            gi_wp2
            have hcb := HCB.cells
            simp only [zR] at hcb
            obtain ⟨e0, -⟩ := hcb
            obtain ⟨c0, c1, c2, c3⟩ := HY0.out _ hbA
            have hlC := HCB.lt
            have hpb : Boxed Wc Bp 90 (.func (.func 75) #[] #[]) := (hbR.block _ HBP.out.lt).trans HBP.out
            have hlp := hpb.lt
            have hpc := hpb.cell
            have HKS : Hid (∀ W, Below Wc.heap.size Wc W → W.cell? ⟨b2, off2, none⟩ = some (.int .i64 y.k) ∧ W.cell? ⟨b2, off2 + 1, none⟩ = some (.string y.p) ∧ W.cell? ⟨b2, off2 + 2, none⟩ = some (.string y.b) ∧ W.cell? ⟨b2, off2 + 3, none⟩ = some (.int .i64 y.m) ∧ W.cell? ⟨C, 0, none⟩ = some (.string x.p) ∧ W.cell? ⟨Bp, 0, none⟩ = some (.func (.func 75) #[] #[])) := fun W hW => by
              obtain ⟨c0, c1, c2, c3⟩ := HY0.out W (hbA.trans (hW.mono hbA.size))
              exact ⟨c0, c1, c2, c3, (hW.cell (p := ⟨C, 0, none⟩) hlC).trans e0, (hW.cell (p := ⟨Bp, 0, none⟩) hlp).trans hpc⟩
            have hbd : Below Wc.heap.size Wc Wc.drew := (Below.refl _ _).drew
            refine wpIn_wide.2 ?_
            go_region_held3 (fun W => W.cell? ⟨b2, off2, none⟩ = some (.int .i64 y.k) ∧ W.cell? ⟨b2, off2 + 1, none⟩ = some (.string y.p) ∧ W.cell? ⟨b2, off2 + 2, none⟩ = some (.string y.b) ∧ W.cell? ⟨b2, off2 + 3, none⟩ = some (.int .i64 y.m) ∧ W.cell? ⟨C, 0, none⟩ = some (.string x.p) ∧ W.cell? ⟨Bp, 0, none⟩ = some (.func (.func 75) #[] #[])) (first | exact HKS.out _ z3 | exact HKS.out _ hbd | go_keep) (first
              | (go_at_call 75; refine (HPO.out _ _ _ _ _).mono ?_; rintro e w3 ⟨rfl, hb3⟩; have z3 := hbd.trans (hb3.mono hbd.size)))
            clear c0 c1 c2 c3 e0 hpc hpb hlp HKS
            replace HCB := HCB.below z3 hlC
            replace hbR := hbR.trans (z3.mono hbR.size)
            replace hbA := hbA.trans (z3.mono hbA.size)
            clear hbd hlC z3 hb3
            generalize w3 = Wc at *
            have HJ2 : J pre Wc := abide_below HJ.out hJr hbR
            have HPB : Hid (Boxed Wc Bp 90 (.func (.func 75) #[] #[])) := (hbR.block _ HBP.out.lt).trans HBP.out
            obtain ⟨e0, e1, e2, e3, e4, e5, e6, e7, e8⟩ := HCB.cells
            simp only [zR] at e0 e1 e2 e3 e4 e5 e6 e7 e8
            have hk1 := HPX.out.2.1
            have f0 : (x.k == 0) = false := by simp; omega
            clear hk1
            have HE : Hid (chgs (x :: a) (y :: b) = (x.p, x, zR) :: chgs a (y :: b)) := chg_less HLS.out a b
            have HMEM : (x.p, x, zR) ∈ chgs A B := by rw [← HD.out, HE.out]; simp
            have HDN : Hid ((pre ++ [(⟨(x.p, x, zR), HMEM⟩ : ItC A B)]).map ItC.c ++ chgs a (y :: b) = chgs A B) := by show _ = _; rw [← HD.out, HE.out, List.map_append]; simp
            have HLN : pre.length < (chgs A B).length := by rw [← HD.out, HE.out, List.length_append, List.length_map, List.length_cons]; omega
            obtain ⟨fn, tmps, assign, body, hy, hR⟩ := HY.out pre ⟨(x.p, x, zR), HMEM⟩ Wc HJ2 HLN
            dsimp only [chgVN, zR] at hy
            clear HE
            gi_wp2
            refine hR.mono ?_
            rintro e W3 (⟨rfl, hJ3, hk3⟩ | ⟨rfl, hJx3⟩)
            · gi_wp2
              go_roundw
              case rel => exact ⟨a, (y :: b), pre ++ [⟨(x.p, x, zR), HMEM⟩], HT1.out, HR2.out, fun r hr => HM1.out r (List.mem_cons_of_mem _ hr), HM2.out, by have h1 := HA1.out; have h2 := HB2.out; simp only [List.length_cons]; omega, HDN, hJ3, hk3.2 _ HPB.out, hbA.trans hk3.1⟩
              case measure => simp only [lenV]; omega
            · gi_wp2
              refine bodyPost_ret (results_none rfl _ _ _) rfl ?_
              exact ⟨⟨_, rfl⟩, .inr ⟨_, ⟨chgs a (y :: b), HDN.out⟩, hJx3⟩⟩
          · have HT1 := Lib.hid (ntail_more (HR1.out))
            obtain ⟨c0, c1, c2, c3⟩ := HX.out _ hbA
            obtain ⟨g0, g1, g2, g3, g4, g5, g6, g7, g8⟩ := HCB.frozen
            obtain ⟨e0, e1, e2, e3, e4, e5, e6, e7, e8⟩ := HCB.cells
            simp only [zR] at e0 e1 e2 e3 e4 e5 e6 e7 e8
            have HCB1 := Lib.hid (HCB.one x)
            have HBA := Lib.hid hbA
            have HBR := Lib.hid hbR
            have HWC : Hid (w0.heap.size ≤ C ∧ wr.heap.size ≤ C) := ⟨hszc, hszr⟩
            clear HCB hbA hbR
            gi_wp2
            refine wpIn_wide.2 ?_
            go_region
            have HCB : CbN (((((Wc.setCell ⟨C, 1, none⟩ (.int .i64 x.k)).setCell ⟨C, 2, none⟩ (.string x.p)).setCell ⟨C, 3, none⟩ (.string x.b)).setCell ⟨C, 4, none⟩ (.int .i64 x.m)).drew) C _ _ _ := HCB1.out
            have hbA : Below w0.heap.size w0 (((((Wc.setCell ⟨C, 1, none⟩ (.int .i64 x.k)).setCell ⟨C, 2, none⟩ (.string x.p)).setCell ⟨C, 3, none⟩ (.string x.b)).setCell ⟨C, 4, none⟩ (.int .i64 x.m)).drew) := Below.drew (((((HBA.out.setCell (p := ⟨C, 1, none⟩) HWC.out.1 (.int .i64 x.k)).setCell (p := ⟨C, 2, none⟩) HWC.out.1 (.string x.p)).setCell (p := ⟨C, 3, none⟩) HWC.out.1 (.string x.b)).setCell (p := ⟨C, 4, none⟩) HWC.out.1 (.int .i64 x.m)))
            have hbR : Below wr.heap.size wr (((((Wc.setCell ⟨C, 1, none⟩ (.int .i64 x.k)).setCell ⟨C, 2, none⟩ (.string x.p)).setCell ⟨C, 3, none⟩ (.string x.b)).setCell ⟨C, 4, none⟩ (.int .i64 x.m)).drew) := Below.drew (((((HBR.out.setCell (p := ⟨C, 1, none⟩) HWC.out.2 (.int .i64 x.k)).setCell (p := ⟨C, 2, none⟩) HWC.out.2 (.string x.p)).setCell (p := ⟨C, 3, none⟩) HWC.out.2 (.string x.b)).setCell (p := ⟨C, 4, none⟩) HWC.out.2 (.int .i64 x.m)))
            clear c0 c1 c2 c3 g0 g1 g2 g3 g4 g5 g6 g7 g8 e0 e1 e2 e3 e4 e5 e6 e7 e8 HCB1 HBA HBR HWC
            generalize ((((Wc.setCell ⟨C, 1, none⟩ (.int .i64 x.k)).setCell ⟨C, 2, none⟩ (.string x.p)).setCell ⟨C, 3, none⟩ (.string x.b)).setCell ⟨C, 4, none⟩ (.int .i64 x.m)).drew = Wc at *
            gi_wp2
            have hcb := HCB.cells
            simp only [zR] at hcb
            obtain ⟨e0, -⟩ := hcb
            obtain ⟨c0, c1, c2, c3⟩ := HY0.out _ hbA
            have hlC := HCB.lt
            have hpb : Boxed Wc Bp 90 (.func (.func 75) #[] #[]) := (hbR.block _ HBP.out.lt).trans HBP.out
            have hlp := hpb.lt
            have hpc := hpb.cell
            have HKS : Hid (∀ W, Below Wc.heap.size Wc W → W.cell? ⟨b2, off2, none⟩ = some (.int .i64 y.k) ∧ W.cell? ⟨b2, off2 + 1, none⟩ = some (.string y.p) ∧ W.cell? ⟨b2, off2 + 2, none⟩ = some (.string y.b) ∧ W.cell? ⟨b2, off2 + 3, none⟩ = some (.int .i64 y.m) ∧ W.cell? ⟨C, 0, none⟩ = some (.string x.p) ∧ W.cell? ⟨Bp, 0, none⟩ = some (.func (.func 75) #[] #[])) := fun W hW => by
              obtain ⟨c0, c1, c2, c3⟩ := HY0.out W (hbA.trans (hW.mono hbA.size))
              exact ⟨c0, c1, c2, c3, (hW.cell (p := ⟨C, 0, none⟩) hlC).trans e0, (hW.cell (p := ⟨Bp, 0, none⟩) hlp).trans hpc⟩
            have hbd : Below Wc.heap.size Wc Wc.drew := (Below.refl _ _).drew
            refine wpIn_wide.2 ?_
            go_region_held3 (fun W => W.cell? ⟨b2, off2, none⟩ = some (.int .i64 y.k) ∧ W.cell? ⟨b2, off2 + 1, none⟩ = some (.string y.p) ∧ W.cell? ⟨b2, off2 + 2, none⟩ = some (.string y.b) ∧ W.cell? ⟨b2, off2 + 3, none⟩ = some (.int .i64 y.m) ∧ W.cell? ⟨C, 0, none⟩ = some (.string x.p) ∧ W.cell? ⟨Bp, 0, none⟩ = some (.func (.func 75) #[] #[])) (first | exact HKS.out _ z3 | exact HKS.out _ hbd | go_keep) (first
              | (go_at_call 75; refine (HPO.out _ _ _ _ _).mono ?_; rintro e w3 ⟨rfl, hb3⟩; have z3 := hbd.trans (hb3.mono hbd.size)))
            clear c0 c1 c2 c3 e0 hpc hpb hlp HKS
            replace HCB := HCB.below z3 hlC
            replace hbR := hbR.trans (z3.mono hbR.size)
            replace hbA := hbA.trans (z3.mono hbA.size)
            clear hbd hlC z3 hb3
            generalize w3 = Wc at *
            have HJ2 : J pre Wc := abide_below HJ.out hJr hbR
            have HPB : Hid (Boxed Wc Bp 90 (.func (.func 75) #[] #[])) := (hbR.block _ HBP.out.lt).trans HBP.out
            obtain ⟨e0, e1, e2, e3, e4, e5, e6, e7, e8⟩ := HCB.cells
            simp only [zR] at e0 e1 e2 e3 e4 e5 e6 e7 e8
            have hk1 := HPX.out.2.1
            have f0 : (x.k == 0) = false := by simp; omega
            clear hk1
            have HE : Hid (chgs (x :: a) (y :: b) = (x.p, x, zR) :: chgs a (y :: b)) := chg_less HLS.out a b
            have HMEM : (x.p, x, zR) ∈ chgs A B := by rw [← HD.out, HE.out]; simp
            have HDN : Hid ((pre ++ [(⟨(x.p, x, zR), HMEM⟩ : ItC A B)]).map ItC.c ++ chgs a (y :: b) = chgs A B) := by show _ = _; rw [← HD.out, HE.out, List.map_append]; simp
            have HLN : pre.length < (chgs A B).length := by rw [← HD.out, HE.out, List.length_append, List.length_map, List.length_cons]; omega
            obtain ⟨fn, tmps, assign, body, hy, hR⟩ := HY.out pre ⟨(x.p, x, zR), HMEM⟩ Wc HJ2 HLN
            dsimp only [chgVN, zR] at hy
            clear HE
            gi_wp2
            refine hR.mono ?_
            rintro e W3 (⟨rfl, hJ3, hk3⟩ | ⟨rfl, hJx3⟩)
            · gi_wp2
              go_roundw
              case rel => exact ⟨a, (y :: b), pre ++ [⟨(x.p, x, zR), HMEM⟩], HT1.out, HR2.out, fun r hr => HM1.out r (List.mem_cons_of_mem _ hr), HM2.out, by have h1 := HA1.out; have h2 := HB2.out; simp only [List.length_cons]; omega, HDN, hJ3, hk3.2 _ HPB.out, hbA.trans hk3.1⟩
              case measure => simp only [lenV]; omega
            · gi_wp2
              refine bodyPost_ret (results_none rfl _ _ _) rfl ?_
              exact ⟨⟨_, rfl⟩, .inr ⟨_, ⟨chgs a (y :: b), HDN.out⟩, hJx3⟩⟩
        · have HLS := Lib.hid hls
          have hself : (y.p.toList == y.p.toList) = true := by simp
          clear hls
          rcases Bool.eq_false_or_eq_true (x.p.toList == y.p.toList) with heq | heq
          · have HEQ := Lib.hid (str_eq_of heq)
            have HFP := firstPathN_any _ _ (x :: a) (y :: b) wr ((HR1.out).below hbw) ((HR2.out).below hbw) (by simp; omega) (fun r hr => (fault_path (HFA.out r (HM1.out r hr))).1) (fun r hr => (fault_path (HFB.out r (HM2.out r hr))).1)
            rw [show fpQ (x :: a) (y :: b) = y.p from (by show (if lessR x y then x.p else y.p) = y.p; rw [HLS.out]; rfl)] at HFP
            have hpw := HBP.out.cell
            gi_wp2
            refine ⟨trivial, (callsIn_wide.2 HFP).mono ?_⟩
            rintro e w1 ⟨rfl, hbf⟩
            clear HFP hpw
            have hbf1 := hbw.trans (hbf.mono hbw.size)
            have hbA : Below w0.heap.size w0 (w1.alloc (.cells #[.string y.p, .int .i64 0, .string ⟨#[]⟩, .string ⟨#[]⟩, .int .i64 0, .int .i64 0, .string ⟨#[]⟩, .string ⟨#[]⟩, .int .i64 0] 92)) := hbf1.alloc hbf1.size _
            have hbR : Below wr.heap.size wr (w1.alloc (.cells #[.string y.p, .int .i64 0, .string ⟨#[]⟩, .string ⟨#[]⟩, .int .i64 0, .int .i64 0, .string ⟨#[]⟩, .string ⟨#[]⟩, .int .i64 0] 92)) := hbf.alloc hbf.size _
            have HCB : CbN (w1.alloc (.cells #[.string y.p, .int .i64 0, .string ⟨#[]⟩, .string ⟨#[]⟩, .int .i64 0, .int .i64 0, .string ⟨#[]⟩, .string ⟨#[]⟩, .int .i64 0] 92)) w1.heap.size y.p zR zR := alloc_here _ _
            have hszc : w0.heap.size ≤ w1.heap.size := hbf1.size
            have hszr : wr.heap.size ≤ w1.heap.size := hbf.size
            gi_wp2
            generalize w1.alloc (.cells #[.string y.p, .int .i64 0, .string ⟨#[]⟩, .string ⟨#[]⟩, .int .i64 0, .int .i64 0, .string ⟨#[]⟩, .string ⟨#[]⟩, .int .i64 0] 92) = Wc at *
            generalize w1.heap.size = C at *
            have hcb := HCB.cells
            simp only [zR] at hcb
            obtain ⟨e0, -⟩ := hcb
            obtain ⟨c0, c1, c2, c3⟩ := HX.out _ hbA
            have hlC := HCB.lt
            have hpb : Boxed Wc Bp 90 (.func (.func 75) #[] #[]) := (hbR.block _ HBP.out.lt).trans HBP.out
            have hlp := hpb.lt
            have hpc := hpb.cell
            have HKS : Hid (∀ W, Below Wc.heap.size Wc W → W.cell? ⟨b1, off1, none⟩ = some (.int .i64 x.k) ∧ W.cell? ⟨b1, off1 + 1, none⟩ = some (.string x.p) ∧ W.cell? ⟨b1, off1 + 2, none⟩ = some (.string x.b) ∧ W.cell? ⟨b1, off1 + 3, none⟩ = some (.int .i64 x.m) ∧ W.cell? ⟨C, 0, none⟩ = some (.string y.p) ∧ W.cell? ⟨Bp, 0, none⟩ = some (.func (.func 75) #[] #[])) := fun W hW => by
              obtain ⟨c0, c1, c2, c3⟩ := HX.out W (hbA.trans (hW.mono hbA.size))
              exact ⟨c0, c1, c2, c3, (hW.cell (p := ⟨C, 0, none⟩) hlC).trans e0, (hW.cell (p := ⟨Bp, 0, none⟩) hlp).trans hpc⟩
            have hbd : Below Wc.heap.size Wc Wc.drew := (Below.refl _ _).drew
            refine wpIn_wide.2 ?_
            go_region_held3 (fun W => W.cell? ⟨b1, off1, none⟩ = some (.int .i64 x.k) ∧ W.cell? ⟨b1, off1 + 1, none⟩ = some (.string x.p) ∧ W.cell? ⟨b1, off1 + 2, none⟩ = some (.string x.b) ∧ W.cell? ⟨b1, off1 + 3, none⟩ = some (.int .i64 x.m) ∧ W.cell? ⟨C, 0, none⟩ = some (.string y.p) ∧ W.cell? ⟨Bp, 0, none⟩ = some (.func (.func 75) #[] #[])) (first | exact HKS.out _ z3 | exact HKS.out _ hbd | go_keep) (first
              | (go_at_call 75; refine (HPO.out _ _ _ _ _).mono ?_; rintro e w3 ⟨rfl, hb3⟩; have z3 := hbd.trans (hb3.mono hbd.size)))
            clear c0 c1 c2 c3 e0 hpc hpb hlp HKS
            replace HCB := HCB.below z3 hlC
            replace hbR := hbR.trans (z3.mono hbR.size)
            replace hbA := hbA.trans (z3.mono hbA.size)
            clear hbd hlC z3 hb3
            generalize w3 = Wc at *
            gi_wp2
            by_cases hcc1 : cap1 = 1
            · have HT1 := Lib.hid (ntail_one (HR1.out) hcc1)
              have hn01 : n1 = 1 := by omega
              subst hcc1
              subst hn01
              obtain ⟨c0, c1, c2, c3⟩ := HX.out _ hbA
              obtain ⟨g0, g1, g2, g3, g4, g5, g6, g7, g8⟩ := HCB.frozen
              obtain ⟨e0, e1, e2, e3, e4, e5, e6, e7, e8⟩ := HCB.cells
              simp only [zR] at e0 e1 e2 e3 e4 e5 e6 e7 e8
              have HCB1 := Lib.hid (HCB.one x)
              have HBA := Lib.hid hbA
              have HBR := Lib.hid hbR
              have HWC : Hid (w0.heap.size ≤ C ∧ wr.heap.size ≤ C) := ⟨hszc, hszr⟩
              clear HCB hbA hbR
              gi_wp2
              refine wpIn_wide.2 ?_
              go_region
              have HCB : CbN (((((Wc.setCell ⟨C, 1, none⟩ (.int .i64 x.k)).setCell ⟨C, 2, none⟩ (.string x.p)).setCell ⟨C, 3, none⟩ (.string x.b)).setCell ⟨C, 4, none⟩ (.int .i64 x.m)).drew) C _ _ _ := HCB1.out
              have hbA : Below w0.heap.size w0 (((((Wc.setCell ⟨C, 1, none⟩ (.int .i64 x.k)).setCell ⟨C, 2, none⟩ (.string x.p)).setCell ⟨C, 3, none⟩ (.string x.b)).setCell ⟨C, 4, none⟩ (.int .i64 x.m)).drew) := Below.drew (((((HBA.out.setCell (p := ⟨C, 1, none⟩) HWC.out.1 (.int .i64 x.k)).setCell (p := ⟨C, 2, none⟩) HWC.out.1 (.string x.p)).setCell (p := ⟨C, 3, none⟩) HWC.out.1 (.string x.b)).setCell (p := ⟨C, 4, none⟩) HWC.out.1 (.int .i64 x.m)))
              have hbR : Below wr.heap.size wr (((((Wc.setCell ⟨C, 1, none⟩ (.int .i64 x.k)).setCell ⟨C, 2, none⟩ (.string x.p)).setCell ⟨C, 3, none⟩ (.string x.b)).setCell ⟨C, 4, none⟩ (.int .i64 x.m)).drew) := Below.drew (((((HBR.out.setCell (p := ⟨C, 1, none⟩) HWC.out.2 (.int .i64 x.k)).setCell (p := ⟨C, 2, none⟩) HWC.out.2 (.string x.p)).setCell (p := ⟨C, 3, none⟩) HWC.out.2 (.string x.b)).setCell (p := ⟨C, 4, none⟩) HWC.out.2 (.int .i64 x.m)))
              clear c0 c1 c2 c3 g0 g1 g2 g3 g4 g5 g6 g7 g8 e0 e1 e2 e3 e4 e5 e6 e7 e8 HCB1 HBA HBR HWC
              generalize ((((Wc.setCell ⟨C, 1, none⟩ (.int .i64 x.k)).setCell ⟨C, 2, none⟩ (.string x.p)).setCell ⟨C, 3, none⟩ (.string x.b)).setCell ⟨C, 4, none⟩ (.int .i64 x.m)).drew = Wc at *
              gi_wp2
              have hcb := HCB.cells
              simp only [zR] at hcb
              obtain ⟨e0, -⟩ := hcb
              obtain ⟨c0, c1, c2, c3⟩ := HY0.out _ hbA
              have hlC := HCB.lt
              have hpb : Boxed Wc Bp 90 (.func (.func 75) #[] #[]) := (hbR.block _ HBP.out.lt).trans HBP.out
              have hlp := hpb.lt
              have hpc := hpb.cell
              have HKS : Hid (∀ W, Below Wc.heap.size Wc W → W.cell? ⟨b2, off2, none⟩ = some (.int .i64 y.k) ∧ W.cell? ⟨b2, off2 + 1, none⟩ = some (.string y.p) ∧ W.cell? ⟨b2, off2 + 2, none⟩ = some (.string y.b) ∧ W.cell? ⟨b2, off2 + 3, none⟩ = some (.int .i64 y.m) ∧ W.cell? ⟨C, 0, none⟩ = some (.string y.p) ∧ W.cell? ⟨Bp, 0, none⟩ = some (.func (.func 75) #[] #[])) := fun W hW => by
                obtain ⟨c0, c1, c2, c3⟩ := HY0.out W (hbA.trans (hW.mono hbA.size))
                exact ⟨c0, c1, c2, c3, (hW.cell (p := ⟨C, 0, none⟩) hlC).trans e0, (hW.cell (p := ⟨Bp, 0, none⟩) hlp).trans hpc⟩
              have hbd : Below Wc.heap.size Wc Wc.drew := (Below.refl _ _).drew
              refine wpIn_wide.2 ?_
              go_region_held3 (fun W => W.cell? ⟨b2, off2, none⟩ = some (.int .i64 y.k) ∧ W.cell? ⟨b2, off2 + 1, none⟩ = some (.string y.p) ∧ W.cell? ⟨b2, off2 + 2, none⟩ = some (.string y.b) ∧ W.cell? ⟨b2, off2 + 3, none⟩ = some (.int .i64 y.m) ∧ W.cell? ⟨C, 0, none⟩ = some (.string y.p) ∧ W.cell? ⟨Bp, 0, none⟩ = some (.func (.func 75) #[] #[])) (first | exact HKS.out _ z3 | exact HKS.out _ hbd | go_keep) (first
                | (go_at_call 75; refine (HPO.out _ _ _ _ _).mono ?_; rintro e w3 ⟨rfl, hb3⟩; have z3 := hbd.trans (hb3.mono hbd.size)))
              clear c0 c1 c2 c3 e0 hpc hpb hlp HKS
              replace HCB := HCB.below z3 hlC
              replace hbR := hbR.trans (z3.mono hbR.size)
              replace hbA := hbA.trans (z3.mono hbA.size)
              clear hbd hlC z3 hb3
              generalize w3 = Wc at *
              gi_wp2
              by_cases hcc2 : cap2 = 1
              · have HT2 := Lib.hid (ntail_one (HR2.out) hcc2)
                have hn02 : n2 = 1 := by omega
                subst hcc2
                subst hn02
                obtain ⟨c0, c1, c2, c3⟩ := HY0.out _ hbA
                obtain ⟨g0, g1, g2, g3, g4, g5, g6, g7, g8⟩ := HCB.frozen
                obtain ⟨e0, e1, e2, e3, e4, e5, e6, e7, e8⟩ := HCB.cells
                simp only [zR] at e0 e1 e2 e3 e4 e5 e6 e7 e8
                have HCB1 := Lib.hid (HCB.two y)
                have HBA := Lib.hid hbA
                have HBR := Lib.hid hbR
                have HWC : Hid (w0.heap.size ≤ C ∧ wr.heap.size ≤ C) := ⟨hszc, hszr⟩
                clear HCB hbA hbR
                gi_wp2
                refine wpIn_wide.2 ?_
                go_region
                have HCB : CbN (((((Wc.setCell ⟨C, 5, none⟩ (.int .i64 y.k)).setCell ⟨C, 6, none⟩ (.string y.p)).setCell ⟨C, 7, none⟩ (.string y.b)).setCell ⟨C, 8, none⟩ (.int .i64 y.m)).drew) C _ _ _ := HCB1.out
                have hbA : Below w0.heap.size w0 (((((Wc.setCell ⟨C, 5, none⟩ (.int .i64 y.k)).setCell ⟨C, 6, none⟩ (.string y.p)).setCell ⟨C, 7, none⟩ (.string y.b)).setCell ⟨C, 8, none⟩ (.int .i64 y.m)).drew) := Below.drew (((((HBA.out.setCell (p := ⟨C, 5, none⟩) HWC.out.1 (.int .i64 y.k)).setCell (p := ⟨C, 6, none⟩) HWC.out.1 (.string y.p)).setCell (p := ⟨C, 7, none⟩) HWC.out.1 (.string y.b)).setCell (p := ⟨C, 8, none⟩) HWC.out.1 (.int .i64 y.m)))
                have hbR : Below wr.heap.size wr (((((Wc.setCell ⟨C, 5, none⟩ (.int .i64 y.k)).setCell ⟨C, 6, none⟩ (.string y.p)).setCell ⟨C, 7, none⟩ (.string y.b)).setCell ⟨C, 8, none⟩ (.int .i64 y.m)).drew) := Below.drew (((((HBR.out.setCell (p := ⟨C, 5, none⟩) HWC.out.2 (.int .i64 y.k)).setCell (p := ⟨C, 6, none⟩) HWC.out.2 (.string y.p)).setCell (p := ⟨C, 7, none⟩) HWC.out.2 (.string y.b)).setCell (p := ⟨C, 8, none⟩) HWC.out.2 (.int .i64 y.m)))
                clear c0 c1 c2 c3 g0 g1 g2 g3 g4 g5 g6 g7 g8 e0 e1 e2 e3 e4 e5 e6 e7 e8 HCB1 HBA HBR HWC
                generalize ((((Wc.setCell ⟨C, 5, none⟩ (.int .i64 y.k)).setCell ⟨C, 6, none⟩ (.string y.p)).setCell ⟨C, 7, none⟩ (.string y.b)).setCell ⟨C, 8, none⟩ (.int .i64 y.m)).drew = Wc at *
                have HJ2 : J pre Wc := abide_below HJ.out hJr hbR
                have HPB : Hid (Boxed Wc Bp 90 (.func (.func 75) #[] #[])) := (hbR.block _ HBP.out.lt).trans HBP.out
                obtain ⟨e0, e1, e2, e3, e4, e5, e6, e7, e8⟩ := HCB.cells
                have f4 : (x.o == y.o) = true := by rw [HO1.out x (List.mem_cons_self ..), HO2.out y (List.mem_cons_self ..)]; rfl
                rcases four x y with f0 | ⟨f0, f1⟩ | ⟨f0, f1, f2⟩ | ⟨f0, f1, f2, f3⟩ | ⟨f0, f1, f2, f3⟩
                · have HE : Hid (chgs (x :: a) (y :: b) = (y.p, x, y) :: chgs a b) := chg_both HEQ.out (fun e => by rw [e] at f0; simp at f0) a b
                  have HMEM : (y.p, x, y) ∈ chgs A B := by rw [← HD.out, HE.out]; simp
                  have HDN : Hid ((pre ++ [(⟨(y.p, x, y), HMEM⟩ : ItC A B)]).map ItC.c ++ chgs a b = chgs A B) := by show _ = _; rw [← HD.out, HE.out, List.map_append]; simp
                  have HLN : pre.length < (chgs A B).length := by rw [← HD.out, HE.out, List.length_append, List.length_map, List.length_cons]; omega
                  obtain ⟨fn, tmps, assign, body, hy, hR⟩ := HY.out pre ⟨(y.p, x, y), HMEM⟩ Wc HJ2 HLN
                  dsimp only [chgVN, zR] at hy
                  clear HE
                  gi_wp2
                  refine hR.mono ?_
                  rintro e W3 (⟨rfl, hJ3, hk3⟩ | ⟨rfl, hJx3⟩)
                  · gi_wp2
                    go_roundw
                    case rel => exact ⟨a, b, pre ++ [⟨(y.p, x, y), HMEM⟩], HT1.out, HT2.out, fun r hr => HM1.out r (List.mem_cons_of_mem _ hr), fun r hr => HM2.out r (List.mem_cons_of_mem _ hr), by have h1 := HA1.out; have h2 := HB2.out; omega, HDN, hJ3, hk3.2 _ HPB.out, hbA.trans hk3.1⟩
                    case measure => simp only [lenV]; omega
                  · gi_wp2
                    refine bodyPost_ret (results_none rfl _ _ _) rfl ?_
                    exact ⟨⟨_, rfl⟩, .inr ⟨_, ⟨chgs a b, HDN.out⟩, hJx3⟩⟩
                · rw [heq] at f1
                  cases f1
                · have HE : Hid (chgs (x :: a) (y :: b) = (y.p, x, y) :: chgs a b) := chg_both HEQ.out (fun e => by rw [e] at f2; simp at f2) a b
                  have HMEM : (y.p, x, y) ∈ chgs A B := by rw [← HD.out, HE.out]; simp
                  have HDN : Hid ((pre ++ [(⟨(y.p, x, y), HMEM⟩ : ItC A B)]).map ItC.c ++ chgs a b = chgs A B) := by show _ = _; rw [← HD.out, HE.out, List.map_append]; simp
                  have HLN : pre.length < (chgs A B).length := by rw [← HD.out, HE.out, List.length_append, List.length_map, List.length_cons]; omega
                  obtain ⟨fn, tmps, assign, body, hy, hR⟩ := HY.out pre ⟨(y.p, x, y), HMEM⟩ Wc HJ2 HLN
                  dsimp only [chgVN, zR] at hy
                  clear HE
                  gi_wp2
                  refine hR.mono ?_
                  rintro e W3 (⟨rfl, hJ3, hk3⟩ | ⟨rfl, hJx3⟩)
                  · gi_wp2
                    go_roundw
                    case rel => exact ⟨a, b, pre ++ [⟨(y.p, x, y), HMEM⟩], HT1.out, HT2.out, fun r hr => HM1.out r (List.mem_cons_of_mem _ hr), fun r hr => HM2.out r (List.mem_cons_of_mem _ hr), by have h1 := HA1.out; have h2 := HB2.out; omega, HDN, hJ3, hk3.2 _ HPB.out, hbA.trans hk3.1⟩
                    case measure => simp only [lenV]; omega
                  · gi_wp2
                    refine bodyPost_ret (results_none rfl _ _ _) rfl ?_
                    exact ⟨⟨_, rfl⟩, .inr ⟨_, ⟨chgs a b, HDN.out⟩, hJx3⟩⟩
                · have HE : Hid (chgs (x :: a) (y :: b) = (y.p, x, y) :: chgs a b) := chg_both HEQ.out (fun e => by rw [e] at f3; simp at f3) a b
                  have HMEM : (y.p, x, y) ∈ chgs A B := by rw [← HD.out, HE.out]; simp
                  have HDN : Hid ((pre ++ [(⟨(y.p, x, y), HMEM⟩ : ItC A B)]).map ItC.c ++ chgs a b = chgs A B) := by show _ = _; rw [← HD.out, HE.out, List.map_append]; simp
                  have HLN : pre.length < (chgs A B).length := by rw [← HD.out, HE.out, List.length_append, List.length_map, List.length_cons]; omega
                  obtain ⟨fn, tmps, assign, body, hy, hR⟩ := HY.out pre ⟨(y.p, x, y), HMEM⟩ Wc HJ2 HLN
                  dsimp only [chgVN, zR] at hy
                  clear HE
                  gi_wp2
                  refine hR.mono ?_
                  rintro e W3 (⟨rfl, hJ3, hk3⟩ | ⟨rfl, hJx3⟩)
                  · gi_wp2
                    go_roundw
                    case rel => exact ⟨a, b, pre ++ [⟨(y.p, x, y), HMEM⟩], HT1.out, HT2.out, fun r hr => HM1.out r (List.mem_cons_of_mem _ hr), fun r hr => HM2.out r (List.mem_cons_of_mem _ hr), by have h1 := HA1.out; have h2 := HB2.out; omega, HDN, hJ3, hk3.2 _ HPB.out, hbA.trans hk3.1⟩
                    case measure => simp only [lenV]; omega
                  · gi_wp2
                    refine bodyPost_ret (results_none rfl _ _ _) rfl ?_
                    exact ⟨⟨_, rfl⟩, .inr ⟨_, ⟨chgs a b, HDN.out⟩, hJx3⟩⟩
                · have HE : Hid (chgs (x :: a) (y :: b) = chgs a b) := chg_same (rec_eq f0 f1 f2 f3 f4) a b
                  have HDN : Hid (pre.map ItC.c ++ chgs a b = chgs A B) := by show _ = _; rw [← HD.out, HE.out]
                  clear HE
                  gi_wp2
                  refine ⟨fun _ h => (by cases h), ?_⟩
                  gi_wp2
                  exact ⟨⟨a, b, pre, HT1.out, HT2.out, fun r hr => HM1.out r (List.mem_cons_of_mem _ hr), fun r hr => HM2.out r (List.mem_cons_of_mem _ hr), by have h1 := HA1.out; have h2 := HB2.out; omega, HDN, HJ2, HPB, hbA⟩, by simp only [lenV] <;> omega⟩
              · have HT2 := Lib.hid (ntail_more (HR2.out))
                obtain ⟨c0, c1, c2, c3⟩ := HY0.out _ hbA
                obtain ⟨g0, g1, g2, g3, g4, g5, g6, g7, g8⟩ := HCB.frozen
                obtain ⟨e0, e1, e2, e3, e4, e5, e6, e7, e8⟩ := HCB.cells
                simp only [zR] at e0 e1 e2 e3 e4 e5 e6 e7 e8
                have HCB1 := Lib.hid (HCB.two y)
                have HBA := Lib.hid hbA
                have HBR := Lib.hid hbR
                have HWC : Hid (w0.heap.size ≤ C ∧ wr.heap.size ≤ C) := ⟨hszc, hszr⟩
                clear HCB hbA hbR
                gi_wp2
                refine wpIn_wide.2 ?_
                go_region
                have HCB : CbN (((((Wc.setCell ⟨C, 5, none⟩ (.int .i64 y.k)).setCell ⟨C, 6, none⟩ (.string y.p)).setCell ⟨C, 7, none⟩ (.string y.b)).setCell ⟨C, 8, none⟩ (.int .i64 y.m)).drew) C _ _ _ := HCB1.out
                have hbA : Below w0.heap.size w0 (((((Wc.setCell ⟨C, 5, none⟩ (.int .i64 y.k)).setCell ⟨C, 6, none⟩ (.string y.p)).setCell ⟨C, 7, none⟩ (.string y.b)).setCell ⟨C, 8, none⟩ (.int .i64 y.m)).drew) := Below.drew (((((HBA.out.setCell (p := ⟨C, 5, none⟩) HWC.out.1 (.int .i64 y.k)).setCell (p := ⟨C, 6, none⟩) HWC.out.1 (.string y.p)).setCell (p := ⟨C, 7, none⟩) HWC.out.1 (.string y.b)).setCell (p := ⟨C, 8, none⟩) HWC.out.1 (.int .i64 y.m)))
                have hbR : Below wr.heap.size wr (((((Wc.setCell ⟨C, 5, none⟩ (.int .i64 y.k)).setCell ⟨C, 6, none⟩ (.string y.p)).setCell ⟨C, 7, none⟩ (.string y.b)).setCell ⟨C, 8, none⟩ (.int .i64 y.m)).drew) := Below.drew (((((HBR.out.setCell (p := ⟨C, 5, none⟩) HWC.out.2 (.int .i64 y.k)).setCell (p := ⟨C, 6, none⟩) HWC.out.2 (.string y.p)).setCell (p := ⟨C, 7, none⟩) HWC.out.2 (.string y.b)).setCell (p := ⟨C, 8, none⟩) HWC.out.2 (.int .i64 y.m)))
                clear c0 c1 c2 c3 g0 g1 g2 g3 g4 g5 g6 g7 g8 e0 e1 e2 e3 e4 e5 e6 e7 e8 HCB1 HBA HBR HWC
                generalize ((((Wc.setCell ⟨C, 5, none⟩ (.int .i64 y.k)).setCell ⟨C, 6, none⟩ (.string y.p)).setCell ⟨C, 7, none⟩ (.string y.b)).setCell ⟨C, 8, none⟩ (.int .i64 y.m)).drew = Wc at *
                have HJ2 : J pre Wc := abide_below HJ.out hJr hbR
                have HPB : Hid (Boxed Wc Bp 90 (.func (.func 75) #[] #[])) := (hbR.block _ HBP.out.lt).trans HBP.out
                obtain ⟨e0, e1, e2, e3, e4, e5, e6, e7, e8⟩ := HCB.cells
                have f4 : (x.o == y.o) = true := by rw [HO1.out x (List.mem_cons_self ..), HO2.out y (List.mem_cons_self ..)]; rfl
                rcases four x y with f0 | ⟨f0, f1⟩ | ⟨f0, f1, f2⟩ | ⟨f0, f1, f2, f3⟩ | ⟨f0, f1, f2, f3⟩
                · have HE : Hid (chgs (x :: a) (y :: b) = (y.p, x, y) :: chgs a b) := chg_both HEQ.out (fun e => by rw [e] at f0; simp at f0) a b
                  have HMEM : (y.p, x, y) ∈ chgs A B := by rw [← HD.out, HE.out]; simp
                  have HDN : Hid ((pre ++ [(⟨(y.p, x, y), HMEM⟩ : ItC A B)]).map ItC.c ++ chgs a b = chgs A B) := by show _ = _; rw [← HD.out, HE.out, List.map_append]; simp
                  have HLN : pre.length < (chgs A B).length := by rw [← HD.out, HE.out, List.length_append, List.length_map, List.length_cons]; omega
                  obtain ⟨fn, tmps, assign, body, hy, hR⟩ := HY.out pre ⟨(y.p, x, y), HMEM⟩ Wc HJ2 HLN
                  dsimp only [chgVN, zR] at hy
                  clear HE
                  gi_wp2
                  refine hR.mono ?_
                  rintro e W3 (⟨rfl, hJ3, hk3⟩ | ⟨rfl, hJx3⟩)
                  · gi_wp2
                    go_roundw
                    case rel => exact ⟨a, b, pre ++ [⟨(y.p, x, y), HMEM⟩], HT1.out, HT2.out, fun r hr => HM1.out r (List.mem_cons_of_mem _ hr), fun r hr => HM2.out r (List.mem_cons_of_mem _ hr), by have h1 := HA1.out; have h2 := HB2.out; omega, HDN, hJ3, hk3.2 _ HPB.out, hbA.trans hk3.1⟩
                    case measure => simp only [lenV]; omega
                  · gi_wp2
                    refine bodyPost_ret (results_none rfl _ _ _) rfl ?_
                    exact ⟨⟨_, rfl⟩, .inr ⟨_, ⟨chgs a b, HDN.out⟩, hJx3⟩⟩
                · rw [heq] at f1
                  cases f1
                · have HE : Hid (chgs (x :: a) (y :: b) = (y.p, x, y) :: chgs a b) := chg_both HEQ.out (fun e => by rw [e] at f2; simp at f2) a b
                  have HMEM : (y.p, x, y) ∈ chgs A B := by rw [← HD.out, HE.out]; simp
                  have HDN : Hid ((pre ++ [(⟨(y.p, x, y), HMEM⟩ : ItC A B)]).map ItC.c ++ chgs a b = chgs A B) := by show _ = _; rw [← HD.out, HE.out, List.map_append]; simp
                  have HLN : pre.length < (chgs A B).length := by rw [← HD.out, HE.out, List.length_append, List.length_map, List.length_cons]; omega
                  obtain ⟨fn, tmps, assign, body, hy, hR⟩ := HY.out pre ⟨(y.p, x, y), HMEM⟩ Wc HJ2 HLN
                  dsimp only [chgVN, zR] at hy
                  clear HE
                  gi_wp2
                  refine hR.mono ?_
                  rintro e W3 (⟨rfl, hJ3, hk3⟩ | ⟨rfl, hJx3⟩)
                  · gi_wp2
                    go_roundw
                    case rel => exact ⟨a, b, pre ++ [⟨(y.p, x, y), HMEM⟩], HT1.out, HT2.out, fun r hr => HM1.out r (List.mem_cons_of_mem _ hr), fun r hr => HM2.out r (List.mem_cons_of_mem _ hr), by have h1 := HA1.out; have h2 := HB2.out; omega, HDN, hJ3, hk3.2 _ HPB.out, hbA.trans hk3.1⟩
                    case measure => simp only [lenV]; omega
                  · gi_wp2
                    refine bodyPost_ret (results_none rfl _ _ _) rfl ?_
                    exact ⟨⟨_, rfl⟩, .inr ⟨_, ⟨chgs a b, HDN.out⟩, hJx3⟩⟩
                · have HE : Hid (chgs (x :: a) (y :: b) = (y.p, x, y) :: chgs a b) := chg_both HEQ.out (fun e => by rw [e] at f3; simp at f3) a b
                  have HMEM : (y.p, x, y) ∈ chgs A B := by rw [← HD.out, HE.out]; simp
                  have HDN : Hid ((pre ++ [(⟨(y.p, x, y), HMEM⟩ : ItC A B)]).map ItC.c ++ chgs a b = chgs A B) := by show _ = _; rw [← HD.out, HE.out, List.map_append]; simp
                  have HLN : pre.length < (chgs A B).length := by rw [← HD.out, HE.out, List.length_append, List.length_map, List.length_cons]; omega
                  obtain ⟨fn, tmps, assign, body, hy, hR⟩ := HY.out pre ⟨(y.p, x, y), HMEM⟩ Wc HJ2 HLN
                  dsimp only [chgVN, zR] at hy
                  clear HE
                  gi_wp2
                  refine hR.mono ?_
                  rintro e W3 (⟨rfl, hJ3, hk3⟩ | ⟨rfl, hJx3⟩)
                  · gi_wp2
                    go_roundw
                    case rel => exact ⟨a, b, pre ++ [⟨(y.p, x, y), HMEM⟩], HT1.out, HT2.out, fun r hr => HM1.out r (List.mem_cons_of_mem _ hr), fun r hr => HM2.out r (List.mem_cons_of_mem _ hr), by have h1 := HA1.out; have h2 := HB2.out; omega, HDN, hJ3, hk3.2 _ HPB.out, hbA.trans hk3.1⟩
                    case measure => simp only [lenV]; omega
                  · gi_wp2
                    refine bodyPost_ret (results_none rfl _ _ _) rfl ?_
                    exact ⟨⟨_, rfl⟩, .inr ⟨_, ⟨chgs a b, HDN.out⟩, hJx3⟩⟩
                · have HE : Hid (chgs (x :: a) (y :: b) = chgs a b) := chg_same (rec_eq f0 f1 f2 f3 f4) a b
                  have HDN : Hid (pre.map ItC.c ++ chgs a b = chgs A B) := by show _ = _; rw [← HD.out, HE.out]
                  clear HE
                  gi_wp2
                  refine ⟨fun _ h => (by cases h), ?_⟩
                  gi_wp2
                  exact ⟨⟨a, b, pre, HT1.out, HT2.out, fun r hr => HM1.out r (List.mem_cons_of_mem _ hr), fun r hr => HM2.out r (List.mem_cons_of_mem _ hr), by have h1 := HA1.out; have h2 := HB2.out; omega, HDN, HJ2, HPB, hbA⟩, by simp only [lenV] <;> omega⟩
            · have HT1 := Lib.hid (ntail_more (HR1.out))
              obtain ⟨c0, c1, c2, c3⟩ := HX.out _ hbA
              obtain ⟨g0, g1, g2, g3, g4, g5, g6, g7, g8⟩ := HCB.frozen
              obtain ⟨e0, e1, e2, e3, e4, e5, e6, e7, e8⟩ := HCB.cells
              simp only [zR] at e0 e1 e2 e3 e4 e5 e6 e7 e8
              have HCB1 := Lib.hid (HCB.one x)
              have HBA := Lib.hid hbA
              have HBR := Lib.hid hbR
              have HWC : Hid (w0.heap.size ≤ C ∧ wr.heap.size ≤ C) := ⟨hszc, hszr⟩
              clear HCB hbA hbR
              gi_wp2
              refine wpIn_wide.2 ?_
              go_region
              have HCB : CbN (((((Wc.setCell ⟨C, 1, none⟩ (.int .i64 x.k)).setCell ⟨C, 2, none⟩ (.string x.p)).setCell ⟨C, 3, none⟩ (.string x.b)).setCell ⟨C, 4, none⟩ (.int .i64 x.m)).drew) C _ _ _ := HCB1.out
              have hbA : Below w0.heap.size w0 (((((Wc.setCell ⟨C, 1, none⟩ (.int .i64 x.k)).setCell ⟨C, 2, none⟩ (.string x.p)).setCell ⟨C, 3, none⟩ (.string x.b)).setCell ⟨C, 4, none⟩ (.int .i64 x.m)).drew) := Below.drew (((((HBA.out.setCell (p := ⟨C, 1, none⟩) HWC.out.1 (.int .i64 x.k)).setCell (p := ⟨C, 2, none⟩) HWC.out.1 (.string x.p)).setCell (p := ⟨C, 3, none⟩) HWC.out.1 (.string x.b)).setCell (p := ⟨C, 4, none⟩) HWC.out.1 (.int .i64 x.m)))
              have hbR : Below wr.heap.size wr (((((Wc.setCell ⟨C, 1, none⟩ (.int .i64 x.k)).setCell ⟨C, 2, none⟩ (.string x.p)).setCell ⟨C, 3, none⟩ (.string x.b)).setCell ⟨C, 4, none⟩ (.int .i64 x.m)).drew) := Below.drew (((((HBR.out.setCell (p := ⟨C, 1, none⟩) HWC.out.2 (.int .i64 x.k)).setCell (p := ⟨C, 2, none⟩) HWC.out.2 (.string x.p)).setCell (p := ⟨C, 3, none⟩) HWC.out.2 (.string x.b)).setCell (p := ⟨C, 4, none⟩) HWC.out.2 (.int .i64 x.m)))
              clear c0 c1 c2 c3 g0 g1 g2 g3 g4 g5 g6 g7 g8 e0 e1 e2 e3 e4 e5 e6 e7 e8 HCB1 HBA HBR HWC
              generalize ((((Wc.setCell ⟨C, 1, none⟩ (.int .i64 x.k)).setCell ⟨C, 2, none⟩ (.string x.p)).setCell ⟨C, 3, none⟩ (.string x.b)).setCell ⟨C, 4, none⟩ (.int .i64 x.m)).drew = Wc at *
              gi_wp2
              have hcb := HCB.cells
              simp only [zR] at hcb
              obtain ⟨e0, -⟩ := hcb
              obtain ⟨c0, c1, c2, c3⟩ := HY0.out _ hbA
              have hlC := HCB.lt
              have hpb : Boxed Wc Bp 90 (.func (.func 75) #[] #[]) := (hbR.block _ HBP.out.lt).trans HBP.out
              have hlp := hpb.lt
              have hpc := hpb.cell
              have HKS : Hid (∀ W, Below Wc.heap.size Wc W → W.cell? ⟨b2, off2, none⟩ = some (.int .i64 y.k) ∧ W.cell? ⟨b2, off2 + 1, none⟩ = some (.string y.p) ∧ W.cell? ⟨b2, off2 + 2, none⟩ = some (.string y.b) ∧ W.cell? ⟨b2, off2 + 3, none⟩ = some (.int .i64 y.m) ∧ W.cell? ⟨C, 0, none⟩ = some (.string y.p) ∧ W.cell? ⟨Bp, 0, none⟩ = some (.func (.func 75) #[] #[])) := fun W hW => by
                obtain ⟨c0, c1, c2, c3⟩ := HY0.out W (hbA.trans (hW.mono hbA.size))
                exact ⟨c0, c1, c2, c3, (hW.cell (p := ⟨C, 0, none⟩) hlC).trans e0, (hW.cell (p := ⟨Bp, 0, none⟩) hlp).trans hpc⟩
              have hbd : Below Wc.heap.size Wc Wc.drew := (Below.refl _ _).drew
              refine wpIn_wide.2 ?_
              go_region_held3 (fun W => W.cell? ⟨b2, off2, none⟩ = some (.int .i64 y.k) ∧ W.cell? ⟨b2, off2 + 1, none⟩ = some (.string y.p) ∧ W.cell? ⟨b2, off2 + 2, none⟩ = some (.string y.b) ∧ W.cell? ⟨b2, off2 + 3, none⟩ = some (.int .i64 y.m) ∧ W.cell? ⟨C, 0, none⟩ = some (.string y.p) ∧ W.cell? ⟨Bp, 0, none⟩ = some (.func (.func 75) #[] #[])) (first | exact HKS.out _ z3 | exact HKS.out _ hbd | go_keep) (first
                | (go_at_call 75; refine (HPO.out _ _ _ _ _).mono ?_; rintro e w3 ⟨rfl, hb3⟩; have z3 := hbd.trans (hb3.mono hbd.size)))
              clear c0 c1 c2 c3 e0 hpc hpb hlp HKS
              replace HCB := HCB.below z3 hlC
              replace hbR := hbR.trans (z3.mono hbR.size)
              replace hbA := hbA.trans (z3.mono hbA.size)
              clear hbd hlC z3 hb3
              generalize w3 = Wc at *
              gi_wp2
              by_cases hcc2 : cap2 = 1
              · have HT2 := Lib.hid (ntail_one (HR2.out) hcc2)
                have hn02 : n2 = 1 := by omega
                subst hcc2
                subst hn02
                obtain ⟨c0, c1, c2, c3⟩ := HY0.out _ hbA
                obtain ⟨g0, g1, g2, g3, g4, g5, g6, g7, g8⟩ := HCB.frozen
                obtain ⟨e0, e1, e2, e3, e4, e5, e6, e7, e8⟩ := HCB.cells
                simp only [zR] at e0 e1 e2 e3 e4 e5 e6 e7 e8
                have HCB1 := Lib.hid (HCB.two y)
                have HBA := Lib.hid hbA
                have HBR := Lib.hid hbR
                have HWC : Hid (w0.heap.size ≤ C ∧ wr.heap.size ≤ C) := ⟨hszc, hszr⟩
                clear HCB hbA hbR
                gi_wp2
                refine wpIn_wide.2 ?_
                go_region
                have HCB : CbN (((((Wc.setCell ⟨C, 5, none⟩ (.int .i64 y.k)).setCell ⟨C, 6, none⟩ (.string y.p)).setCell ⟨C, 7, none⟩ (.string y.b)).setCell ⟨C, 8, none⟩ (.int .i64 y.m)).drew) C _ _ _ := HCB1.out
                have hbA : Below w0.heap.size w0 (((((Wc.setCell ⟨C, 5, none⟩ (.int .i64 y.k)).setCell ⟨C, 6, none⟩ (.string y.p)).setCell ⟨C, 7, none⟩ (.string y.b)).setCell ⟨C, 8, none⟩ (.int .i64 y.m)).drew) := Below.drew (((((HBA.out.setCell (p := ⟨C, 5, none⟩) HWC.out.1 (.int .i64 y.k)).setCell (p := ⟨C, 6, none⟩) HWC.out.1 (.string y.p)).setCell (p := ⟨C, 7, none⟩) HWC.out.1 (.string y.b)).setCell (p := ⟨C, 8, none⟩) HWC.out.1 (.int .i64 y.m)))
                have hbR : Below wr.heap.size wr (((((Wc.setCell ⟨C, 5, none⟩ (.int .i64 y.k)).setCell ⟨C, 6, none⟩ (.string y.p)).setCell ⟨C, 7, none⟩ (.string y.b)).setCell ⟨C, 8, none⟩ (.int .i64 y.m)).drew) := Below.drew (((((HBR.out.setCell (p := ⟨C, 5, none⟩) HWC.out.2 (.int .i64 y.k)).setCell (p := ⟨C, 6, none⟩) HWC.out.2 (.string y.p)).setCell (p := ⟨C, 7, none⟩) HWC.out.2 (.string y.b)).setCell (p := ⟨C, 8, none⟩) HWC.out.2 (.int .i64 y.m)))
                clear c0 c1 c2 c3 g0 g1 g2 g3 g4 g5 g6 g7 g8 e0 e1 e2 e3 e4 e5 e6 e7 e8 HCB1 HBA HBR HWC
                generalize ((((Wc.setCell ⟨C, 5, none⟩ (.int .i64 y.k)).setCell ⟨C, 6, none⟩ (.string y.p)).setCell ⟨C, 7, none⟩ (.string y.b)).setCell ⟨C, 8, none⟩ (.int .i64 y.m)).drew = Wc at *
                have HJ2 : J pre Wc := abide_below HJ.out hJr hbR
                have HPB : Hid (Boxed Wc Bp 90 (.func (.func 75) #[] #[])) := (hbR.block _ HBP.out.lt).trans HBP.out
                obtain ⟨e0, e1, e2, e3, e4, e5, e6, e7, e8⟩ := HCB.cells
                have f4 : (x.o == y.o) = true := by rw [HO1.out x (List.mem_cons_self ..), HO2.out y (List.mem_cons_self ..)]; rfl
                rcases four x y with f0 | ⟨f0, f1⟩ | ⟨f0, f1, f2⟩ | ⟨f0, f1, f2, f3⟩ | ⟨f0, f1, f2, f3⟩
                · have HE : Hid (chgs (x :: a) (y :: b) = (y.p, x, y) :: chgs a b) := chg_both HEQ.out (fun e => by rw [e] at f0; simp at f0) a b
                  have HMEM : (y.p, x, y) ∈ chgs A B := by rw [← HD.out, HE.out]; simp
                  have HDN : Hid ((pre ++ [(⟨(y.p, x, y), HMEM⟩ : ItC A B)]).map ItC.c ++ chgs a b = chgs A B) := by show _ = _; rw [← HD.out, HE.out, List.map_append]; simp
                  have HLN : pre.length < (chgs A B).length := by rw [← HD.out, HE.out, List.length_append, List.length_map, List.length_cons]; omega
                  obtain ⟨fn, tmps, assign, body, hy, hR⟩ := HY.out pre ⟨(y.p, x, y), HMEM⟩ Wc HJ2 HLN
                  dsimp only [chgVN, zR] at hy
                  clear HE
                  gi_wp2
                  refine hR.mono ?_
                  rintro e W3 (⟨rfl, hJ3, hk3⟩ | ⟨rfl, hJx3⟩)
                  · gi_wp2
                    go_roundw
                    case rel => exact ⟨a, b, pre ++ [⟨(y.p, x, y), HMEM⟩], HT1.out, HT2.out, fun r hr => HM1.out r (List.mem_cons_of_mem _ hr), fun r hr => HM2.out r (List.mem_cons_of_mem _ hr), by have h1 := HA1.out; have h2 := HB2.out; omega, HDN, hJ3, hk3.2 _ HPB.out, hbA.trans hk3.1⟩
                    case measure => simp only [lenV]; omega
                  · gi_wp2
                    refine bodyPost_ret (results_none rfl _ _ _) rfl ?_
                    exact ⟨⟨_, rfl⟩, .inr ⟨_, ⟨chgs a b, HDN.out⟩, hJx3⟩⟩
                · rw [heq] at f1
                  cases f1
                · have HE : Hid (chgs (x :: a) (y :: b) = (y.p, x, y) :: chgs a b) := chg_both HEQ.out (fun e => by rw [e] at f2; simp at f2) a b
                  have HMEM : (y.p, x, y) ∈ chgs A B := by rw [← HD.out, HE.out]; simp
                  have HDN : Hid ((pre ++ [(⟨(y.p, x, y), HMEM⟩ : ItC A B)]).map ItC.c ++ chgs a b = chgs A B) := by show _ = _; rw [← HD.out, HE.out, List.map_append]; simp
                  have HLN : pre.length < (chgs A B).length := by rw [← HD.out, HE.out, List.length_append, List.length_map, List.length_cons]; omega
                  obtain ⟨fn, tmps, assign, body, hy, hR⟩ := HY.out pre ⟨(y.p, x, y), HMEM⟩ Wc HJ2 HLN
                  dsimp only [chgVN, zR] at hy
                  clear HE
                  gi_wp2
                  refine hR.mono ?_
                  rintro e W3 (⟨rfl, hJ3, hk3⟩ | ⟨rfl, hJx3⟩)
                  · gi_wp2
                    go_roundw
                    case rel => exact ⟨a, b, pre ++ [⟨(y.p, x, y), HMEM⟩], HT1.out, HT2.out, fun r hr => HM1.out r (List.mem_cons_of_mem _ hr), fun r hr => HM2.out r (List.mem_cons_of_mem _ hr), by have h1 := HA1.out; have h2 := HB2.out; omega, HDN, hJ3, hk3.2 _ HPB.out, hbA.trans hk3.1⟩
                    case measure => simp only [lenV]; omega
                  · gi_wp2
                    refine bodyPost_ret (results_none rfl _ _ _) rfl ?_
                    exact ⟨⟨_, rfl⟩, .inr ⟨_, ⟨chgs a b, HDN.out⟩, hJx3⟩⟩
                · have HE : Hid (chgs (x :: a) (y :: b) = (y.p, x, y) :: chgs a b) := chg_both HEQ.out (fun e => by rw [e] at f3; simp at f3) a b
                  have HMEM : (y.p, x, y) ∈ chgs A B := by rw [← HD.out, HE.out]; simp
                  have HDN : Hid ((pre ++ [(⟨(y.p, x, y), HMEM⟩ : ItC A B)]).map ItC.c ++ chgs a b = chgs A B) := by show _ = _; rw [← HD.out, HE.out, List.map_append]; simp
                  have HLN : pre.length < (chgs A B).length := by rw [← HD.out, HE.out, List.length_append, List.length_map, List.length_cons]; omega
                  obtain ⟨fn, tmps, assign, body, hy, hR⟩ := HY.out pre ⟨(y.p, x, y), HMEM⟩ Wc HJ2 HLN
                  dsimp only [chgVN, zR] at hy
                  clear HE
                  gi_wp2
                  refine hR.mono ?_
                  rintro e W3 (⟨rfl, hJ3, hk3⟩ | ⟨rfl, hJx3⟩)
                  · gi_wp2
                    go_roundw
                    case rel => exact ⟨a, b, pre ++ [⟨(y.p, x, y), HMEM⟩], HT1.out, HT2.out, fun r hr => HM1.out r (List.mem_cons_of_mem _ hr), fun r hr => HM2.out r (List.mem_cons_of_mem _ hr), by have h1 := HA1.out; have h2 := HB2.out; omega, HDN, hJ3, hk3.2 _ HPB.out, hbA.trans hk3.1⟩
                    case measure => simp only [lenV]; omega
                  · gi_wp2
                    refine bodyPost_ret (results_none rfl _ _ _) rfl ?_
                    exact ⟨⟨_, rfl⟩, .inr ⟨_, ⟨chgs a b, HDN.out⟩, hJx3⟩⟩
                · have HE : Hid (chgs (x :: a) (y :: b) = chgs a b) := chg_same (rec_eq f0 f1 f2 f3 f4) a b
                  have HDN : Hid (pre.map ItC.c ++ chgs a b = chgs A B) := by show _ = _; rw [← HD.out, HE.out]
                  clear HE
                  gi_wp2
                  refine ⟨fun _ h => (by cases h), ?_⟩
                  gi_wp2
                  exact ⟨⟨a, b, pre, HT1.out, HT2.out, fun r hr => HM1.out r (List.mem_cons_of_mem _ hr), fun r hr => HM2.out r (List.mem_cons_of_mem _ hr), by have h1 := HA1.out; have h2 := HB2.out; omega, HDN, HJ2, HPB, hbA⟩, by simp only [lenV] <;> omega⟩
              · have HT2 := Lib.hid (ntail_more (HR2.out))
                obtain ⟨c0, c1, c2, c3⟩ := HY0.out _ hbA
                obtain ⟨g0, g1, g2, g3, g4, g5, g6, g7, g8⟩ := HCB.frozen
                obtain ⟨e0, e1, e2, e3, e4, e5, e6, e7, e8⟩ := HCB.cells
                simp only [zR] at e0 e1 e2 e3 e4 e5 e6 e7 e8
                have HCB1 := Lib.hid (HCB.two y)
                have HBA := Lib.hid hbA
                have HBR := Lib.hid hbR
                have HWC : Hid (w0.heap.size ≤ C ∧ wr.heap.size ≤ C) := ⟨hszc, hszr⟩
                clear HCB hbA hbR
                gi_wp2
                refine wpIn_wide.2 ?_
                go_region
                have HCB : CbN (((((Wc.setCell ⟨C, 5, none⟩ (.int .i64 y.k)).setCell ⟨C, 6, none⟩ (.string y.p)).setCell ⟨C, 7, none⟩ (.string y.b)).setCell ⟨C, 8, none⟩ (.int .i64 y.m)).drew) C _ _ _ := HCB1.out
                have hbA : Below w0.heap.size w0 (((((Wc.setCell ⟨C, 5, none⟩ (.int .i64 y.k)).setCell ⟨C, 6, none⟩ (.string y.p)).setCell ⟨C, 7, none⟩ (.string y.b)).setCell ⟨C, 8, none⟩ (.int .i64 y.m)).drew) := Below.drew (((((HBA.out.setCell (p := ⟨C, 5, none⟩) HWC.out.1 (.int .i64 y.k)).setCell (p := ⟨C, 6, none⟩) HWC.out.1 (.string y.p)).setCell (p := ⟨C, 7, none⟩) HWC.out.1 (.string y.b)).setCell (p := ⟨C, 8, none⟩) HWC.out.1 (.int .i64 y.m)))
                have hbR : Below wr.heap.size wr (((((Wc.setCell ⟨C, 5, none⟩ (.int .i64 y.k)).setCell ⟨C, 6, none⟩ (.string y.p)).setCell ⟨C, 7, none⟩ (.string y.b)).setCell ⟨C, 8, none⟩ (.int .i64 y.m)).drew) := Below.drew (((((HBR.out.setCell (p := ⟨C, 5, none⟩) HWC.out.2 (.int .i64 y.k)).setCell (p := ⟨C, 6, none⟩) HWC.out.2 (.string y.p)).setCell (p := ⟨C, 7, none⟩) HWC.out.2 (.string y.b)).setCell (p := ⟨C, 8, none⟩) HWC.out.2 (.int .i64 y.m)))
                clear c0 c1 c2 c3 g0 g1 g2 g3 g4 g5 g6 g7 g8 e0 e1 e2 e3 e4 e5 e6 e7 e8 HCB1 HBA HBR HWC
                generalize ((((Wc.setCell ⟨C, 5, none⟩ (.int .i64 y.k)).setCell ⟨C, 6, none⟩ (.string y.p)).setCell ⟨C, 7, none⟩ (.string y.b)).setCell ⟨C, 8, none⟩ (.int .i64 y.m)).drew = Wc at *
                have HJ2 : J pre Wc := abide_below HJ.out hJr hbR
                have HPB : Hid (Boxed Wc Bp 90 (.func (.func 75) #[] #[])) := (hbR.block _ HBP.out.lt).trans HBP.out
                obtain ⟨e0, e1, e2, e3, e4, e5, e6, e7, e8⟩ := HCB.cells
                have f4 : (x.o == y.o) = true := by rw [HO1.out x (List.mem_cons_self ..), HO2.out y (List.mem_cons_self ..)]; rfl
                rcases four x y with f0 | ⟨f0, f1⟩ | ⟨f0, f1, f2⟩ | ⟨f0, f1, f2, f3⟩ | ⟨f0, f1, f2, f3⟩
                · have HE : Hid (chgs (x :: a) (y :: b) = (y.p, x, y) :: chgs a b) := chg_both HEQ.out (fun e => by rw [e] at f0; simp at f0) a b
                  have HMEM : (y.p, x, y) ∈ chgs A B := by rw [← HD.out, HE.out]; simp
                  have HDN : Hid ((pre ++ [(⟨(y.p, x, y), HMEM⟩ : ItC A B)]).map ItC.c ++ chgs a b = chgs A B) := by show _ = _; rw [← HD.out, HE.out, List.map_append]; simp
                  have HLN : pre.length < (chgs A B).length := by rw [← HD.out, HE.out, List.length_append, List.length_map, List.length_cons]; omega
                  obtain ⟨fn, tmps, assign, body, hy, hR⟩ := HY.out pre ⟨(y.p, x, y), HMEM⟩ Wc HJ2 HLN
                  dsimp only [chgVN, zR] at hy
                  clear HE
                  gi_wp2
                  refine hR.mono ?_
                  rintro e W3 (⟨rfl, hJ3, hk3⟩ | ⟨rfl, hJx3⟩)
                  · gi_wp2
                    go_roundw
                    case rel => exact ⟨a, b, pre ++ [⟨(y.p, x, y), HMEM⟩], HT1.out, HT2.out, fun r hr => HM1.out r (List.mem_cons_of_mem _ hr), fun r hr => HM2.out r (List.mem_cons_of_mem _ hr), by have h1 := HA1.out; have h2 := HB2.out; omega, HDN, hJ3, hk3.2 _ HPB.out, hbA.trans hk3.1⟩
                    case measure => simp only [lenV]; omega
                  · gi_wp2
                    refine bodyPost_ret (results_none rfl _ _ _) rfl ?_
                    exact ⟨⟨_, rfl⟩, .inr ⟨_, ⟨chgs a b, HDN.out⟩, hJx3⟩⟩
                · rw [heq] at f1
                  cases f1
                · have HE : Hid (chgs (x :: a) (y :: b) = (y.p, x, y) :: chgs a b) := chg_both HEQ.out (fun e => by rw [e] at f2; simp at f2) a b
                  have HMEM : (y.p, x, y) ∈ chgs A B := by rw [← HD.out, HE.out]; simp
                  have HDN : Hid ((pre ++ [(⟨(y.p, x, y), HMEM⟩ : ItC A B)]).map ItC.c ++ chgs a b = chgs A B) := by show _ = _; rw [← HD.out, HE.out, List.map_append]; simp
                  have HLN : pre.length < (chgs A B).length := by rw [← HD.out, HE.out, List.length_append, List.length_map, List.length_cons]; omega
                  obtain ⟨fn, tmps, assign, body, hy, hR⟩ := HY.out pre ⟨(y.p, x, y), HMEM⟩ Wc HJ2 HLN
                  dsimp only [chgVN, zR] at hy
                  clear HE
                  gi_wp2
                  refine hR.mono ?_
                  rintro e W3 (⟨rfl, hJ3, hk3⟩ | ⟨rfl, hJx3⟩)
                  · gi_wp2
                    go_roundw
                    case rel => exact ⟨a, b, pre ++ [⟨(y.p, x, y), HMEM⟩], HT1.out, HT2.out, fun r hr => HM1.out r (List.mem_cons_of_mem _ hr), fun r hr => HM2.out r (List.mem_cons_of_mem _ hr), by have h1 := HA1.out; have h2 := HB2.out; omega, HDN, hJ3, hk3.2 _ HPB.out, hbA.trans hk3.1⟩
                    case measure => simp only [lenV]; omega
                  · gi_wp2
                    refine bodyPost_ret (results_none rfl _ _ _) rfl ?_
                    exact ⟨⟨_, rfl⟩, .inr ⟨_, ⟨chgs a b, HDN.out⟩, hJx3⟩⟩
                · have HE : Hid (chgs (x :: a) (y :: b) = (y.p, x, y) :: chgs a b) := chg_both HEQ.out (fun e => by rw [e] at f3; simp at f3) a b
                  have HMEM : (y.p, x, y) ∈ chgs A B := by rw [← HD.out, HE.out]; simp
                  have HDN : Hid ((pre ++ [(⟨(y.p, x, y), HMEM⟩ : ItC A B)]).map ItC.c ++ chgs a b = chgs A B) := by show _ = _; rw [← HD.out, HE.out, List.map_append]; simp
                  have HLN : pre.length < (chgs A B).length := by rw [← HD.out, HE.out, List.length_append, List.length_map, List.length_cons]; omega
                  obtain ⟨fn, tmps, assign, body, hy, hR⟩ := HY.out pre ⟨(y.p, x, y), HMEM⟩ Wc HJ2 HLN
                  dsimp only [chgVN, zR] at hy
                  clear HE
                  gi_wp2
                  refine hR.mono ?_
                  rintro e W3 (⟨rfl, hJ3, hk3⟩ | ⟨rfl, hJx3⟩)
                  · gi_wp2
                    go_roundw
                    case rel => exact ⟨a, b, pre ++ [⟨(y.p, x, y), HMEM⟩], HT1.out, HT2.out, fun r hr => HM1.out r (List.mem_cons_of_mem _ hr), fun r hr => HM2.out r (List.mem_cons_of_mem _ hr), by have h1 := HA1.out; have h2 := HB2.out; omega, HDN, hJ3, hk3.2 _ HPB.out, hbA.trans hk3.1⟩
                    case measure => simp only [lenV]; omega
                  · gi_wp2
                    refine bodyPost_ret (results_none rfl _ _ _) rfl ?_
                    exact ⟨⟨_, rfl⟩, .inr ⟨_, ⟨chgs a b, HDN.out⟩, hJx3⟩⟩
                · have HE : Hid (chgs (x :: a) (y :: b) = chgs a b) := chg_same (rec_eq f0 f1 f2 f3 f4) a b
                  have HDN : Hid (pre.map ItC.c ++ chgs a b = chgs A B) := by show _ = _; rw [← HD.out, HE.out]
                  clear HE
                  gi_wp2
                  refine ⟨fun _ h => (by cases h), ?_⟩
                  gi_wp2
                  exact ⟨⟨a, b, pre, HT1.out, HT2.out, fun r hr => HM1.out r (List.mem_cons_of_mem _ hr), fun r hr => HM2.out r (List.mem_cons_of_mem _ hr), by have h1 := HA1.out; have h2 := HB2.out; omega, HDN, HJ2, HPB, hbA⟩, by simp only [lenV] <;> omega⟩
          · have HNE : Hid (x.p ≠ y.p) := fun e => by rw [e] at heq; simp at heq
            have HFP := firstPathN_any _ _ (x :: a) (y :: b) wr ((HR1.out).below hbw) ((HR2.out).below hbw) (by simp; omega) (fun r hr => (fault_path (HFA.out r (HM1.out r hr))).1) (fun r hr => (fault_path (HFB.out r (HM2.out r hr))).1)
            rw [show fpQ (x :: a) (y :: b) = y.p from (by show (if lessR x y then x.p else y.p) = y.p; rw [HLS.out]; rfl)] at HFP
            have hpw := HBP.out.cell
            gi_wp2
            refine ⟨trivial, (callsIn_wide.2 HFP).mono ?_⟩
            rintro e w1 ⟨rfl, hbf⟩
            clear HFP hpw
            have hbf1 := hbw.trans (hbf.mono hbw.size)
            have hbA : Below w0.heap.size w0 (w1.alloc (.cells #[.string y.p, .int .i64 0, .string ⟨#[]⟩, .string ⟨#[]⟩, .int .i64 0, .int .i64 0, .string ⟨#[]⟩, .string ⟨#[]⟩, .int .i64 0] 92)) := hbf1.alloc hbf1.size _
            have hbR : Below wr.heap.size wr (w1.alloc (.cells #[.string y.p, .int .i64 0, .string ⟨#[]⟩, .string ⟨#[]⟩, .int .i64 0, .int .i64 0, .string ⟨#[]⟩, .string ⟨#[]⟩, .int .i64 0] 92)) := hbf.alloc hbf.size _
            have HCB : CbN (w1.alloc (.cells #[.string y.p, .int .i64 0, .string ⟨#[]⟩, .string ⟨#[]⟩, .int .i64 0, .int .i64 0, .string ⟨#[]⟩, .string ⟨#[]⟩, .int .i64 0] 92)) w1.heap.size y.p zR zR := alloc_here _ _
            have hszc : w0.heap.size ≤ w1.heap.size := hbf1.size
            have hszr : wr.heap.size ≤ w1.heap.size := hbf.size
            gi_wp2
            generalize w1.alloc (.cells #[.string y.p, .int .i64 0, .string ⟨#[]⟩, .string ⟨#[]⟩, .int .i64 0, .int .i64 0, .string ⟨#[]⟩, .string ⟨#[]⟩, .int .i64 0] 92) = Wc at *
            generalize w1.heap.size = C at *
            have hcb := HCB.cells
            simp only [zR] at hcb
            obtain ⟨e0, -⟩ := hcb
            obtain ⟨c0, c1, c2, c3⟩ := HX.out _ hbA
            have hlC := HCB.lt
            have hpb : Boxed Wc Bp 90 (.func (.func 75) #[] #[]) := (hbR.block _ HBP.out.lt).trans HBP.out
            have hlp := hpb.lt
            have hpc := hpb.cell
            have HKS : Hid (∀ W, Below Wc.heap.size Wc W → W.cell? ⟨b1, off1, none⟩ = some (.int .i64 x.k) ∧ W.cell? ⟨b1, off1 + 1, none⟩ = some (.string x.p) ∧ W.cell? ⟨b1, off1 + 2, none⟩ = some (.string x.b) ∧ W.cell? ⟨b1, off1 + 3, none⟩ = some (.int .i64 x.m) ∧ W.cell? ⟨C, 0, none⟩ = some (.string y.p) ∧ W.cell? ⟨Bp, 0, none⟩ = some (.func (.func 75) #[] #[])) := fun W hW => by
              obtain ⟨c0, c1, c2, c3⟩ := HX.out W (hbA.trans (hW.mono hbA.size))
              exact ⟨c0, c1, c2, c3, (hW.cell (p := ⟨C, 0, none⟩) hlC).trans e0, (hW.cell (p := ⟨Bp, 0, none⟩) hlp).trans hpc⟩
            have hbd : Below Wc.heap.size Wc Wc.drew := (Below.refl _ _).drew
            refine wpIn_wide.2 ?_
            go_region_held3 (fun W => W.cell? ⟨b1, off1, none⟩ = some (.int .i64 x.k) ∧ W.cell? ⟨b1, off1 + 1, none⟩ = some (.string x.p) ∧ W.cell? ⟨b1, off1 + 2, none⟩ = some (.string x.b) ∧ W.cell? ⟨b1, off1 + 3, none⟩ = some (.int .i64 x.m) ∧ W.cell? ⟨C, 0, none⟩ = some (.string y.p) ∧ W.cell? ⟨Bp, 0, none⟩ = some (.func (.func 75) #[] #[])) (first | exact HKS.out _ z3 | exact HKS.out _ hbd | go_keep) (first
              | (go_at_call 75; refine (HPO.out _ _ _ _ _).mono ?_; rintro e w3 ⟨rfl, hb3⟩; have z3 := hbd.trans (hb3.mono hbd.size)))
            clear c0 c1 c2 c3 e0 hpc hpb hlp HKS
            replace HCB := HCB.below z3 hlC
            replace hbR := hbR.trans (z3.mono hbR.size)
            replace hbA := hbA.trans (z3.mono hbA.size)
            clear hbd hlC z3 hb3
            generalize w3 = Wc at *
            gi_wp2
            have hcb := HCB.cells
            simp only [zR] at hcb
            obtain ⟨e0, -⟩ := hcb
            obtain ⟨c0, c1, c2, c3⟩ := HY0.out _ hbA
            have hlC := HCB.lt
            have hpb : Boxed Wc Bp 90 (.func (.func 75) #[] #[]) := (hbR.block _ HBP.out.lt).trans HBP.out
            have hlp := hpb.lt
            have hpc := hpb.cell
            have HKS : Hid (∀ W, Below Wc.heap.size Wc W → W.cell? ⟨b2, off2, none⟩ = some (.int .i64 y.k) ∧ W.cell? ⟨b2, off2 + 1, none⟩ = some (.string y.p) ∧ W.cell? ⟨b2, off2 + 2, none⟩ = some (.string y.b) ∧ W.cell? ⟨b2, off2 + 3, none⟩ = some (.int .i64 y.m) ∧ W.cell? ⟨C, 0, none⟩ = some (.string y.p) ∧ W.cell? ⟨Bp, 0, none⟩ = some (.func (.func 75) #[] #[])) := fun W hW => by
              obtain ⟨c0, c1, c2, c3⟩ := HY0.out W (hbA.trans (hW.mono hbA.size))
              exact ⟨c0, c1, c2, c3, (hW.cell (p := ⟨C, 0, none⟩) hlC).trans e0, (hW.cell (p := ⟨Bp, 0, none⟩) hlp).trans hpc⟩
            have hbd : Below Wc.heap.size Wc Wc.drew := (Below.refl _ _).drew
            refine wpIn_wide.2 ?_
            go_region_held3 (fun W => W.cell? ⟨b2, off2, none⟩ = some (.int .i64 y.k) ∧ W.cell? ⟨b2, off2 + 1, none⟩ = some (.string y.p) ∧ W.cell? ⟨b2, off2 + 2, none⟩ = some (.string y.b) ∧ W.cell? ⟨b2, off2 + 3, none⟩ = some (.int .i64 y.m) ∧ W.cell? ⟨C, 0, none⟩ = some (.string y.p) ∧ W.cell? ⟨Bp, 0, none⟩ = some (.func (.func 75) #[] #[])) (first | exact HKS.out _ z3 | exact HKS.out _ hbd | go_keep) (first
              | (go_at_call 75; refine (HPO.out _ _ _ _ _).mono ?_; rintro e w3 ⟨rfl, hb3⟩; have z3 := hbd.trans (hb3.mono hbd.size)))
            clear c0 c1 c2 c3 e0 hpc hpb hlp HKS
            replace HCB := HCB.below z3 hlC
            replace hbR := hbR.trans (z3.mono hbR.size)
            replace hbA := hbA.trans (z3.mono hbA.size)
            clear hbd hlC z3 hb3
            generalize w3 = Wc at *
            gi_wp2
            by_cases hcc2 : cap2 = 1
            · have HT2 := Lib.hid (ntail_one (HR2.out) hcc2)
              have hn02 : n2 = 1 := by omega
              subst hcc2
              subst hn02
              obtain ⟨c0, c1, c2, c3⟩ := HY0.out _ hbA
              obtain ⟨g0, g1, g2, g3, g4, g5, g6, g7, g8⟩ := HCB.frozen
              obtain ⟨e0, e1, e2, e3, e4, e5, e6, e7, e8⟩ := HCB.cells
              simp only [zR] at e0 e1 e2 e3 e4 e5 e6 e7 e8
              have HCB1 := Lib.hid (HCB.two y)
              have HBA := Lib.hid hbA
              have HBR := Lib.hid hbR
              have HWC : Hid (w0.heap.size ≤ C ∧ wr.heap.size ≤ C) := ⟨hszc, hszr⟩
              clear HCB hbA hbR
              gi_wp2
              refine wpIn_wide.2 ?_
              go_region
              have HCB : CbN (((((Wc.setCell ⟨C, 5, none⟩ (.int .i64 y.k)).setCell ⟨C, 6, none⟩ (.string y.p)).setCell ⟨C, 7, none⟩ (.string y.b)).setCell ⟨C, 8, none⟩ (.int .i64 y.m)).drew) C _ _ _ := HCB1.out
              have hbA : Below w0.heap.size w0 (((((Wc.setCell ⟨C, 5, none⟩ (.int .i64 y.k)).setCell ⟨C, 6, none⟩ (.string y.p)).setCell ⟨C, 7, none⟩ (.string y.b)).setCell ⟨C, 8, none⟩ (.int .i64 y.m)).drew) := Below.drew (((((HBA.out.setCell (p := ⟨C, 5, none⟩) HWC.out.1 (.int .i64 y.k)).setCell (p := ⟨C, 6, none⟩) HWC.out.1 (.string y.p)).setCell (p := ⟨C, 7, none⟩) HWC.out.1 (.string y.b)).setCell (p := ⟨C, 8, none⟩) HWC.out.1 (.int .i64 y.m)))
              have hbR : Below wr.heap.size wr (((((Wc.setCell ⟨C, 5, none⟩ (.int .i64 y.k)).setCell ⟨C, 6, none⟩ (.string y.p)).setCell ⟨C, 7, none⟩ (.string y.b)).setCell ⟨C, 8, none⟩ (.int .i64 y.m)).drew) := Below.drew (((((HBR.out.setCell (p := ⟨C, 5, none⟩) HWC.out.2 (.int .i64 y.k)).setCell (p := ⟨C, 6, none⟩) HWC.out.2 (.string y.p)).setCell (p := ⟨C, 7, none⟩) HWC.out.2 (.string y.b)).setCell (p := ⟨C, 8, none⟩) HWC.out.2 (.int .i64 y.m)))
              clear c0 c1 c2 c3 g0 g1 g2 g3 g4 g5 g6 g7 g8 e0 e1 e2 e3 e4 e5 e6 e7 e8 HCB1 HBA HBR HWC
              generalize ((((Wc.setCell ⟨C, 5, none⟩ (.int .i64 y.k)).setCell ⟨C, 6, none⟩ (.string y.p)).setCell ⟨C, 7, none⟩ (.string y.b)).setCell ⟨C, 8, none⟩ (.int .i64 y.m)).drew = Wc at *
              have HJ2 : J pre Wc := abide_below HJ.out hJr hbR
              have HPB : Hid (Boxed Wc Bp 90 (.func (.func 75) #[] #[])) := (hbR.block _ HBP.out.lt).trans HBP.out
              obtain ⟨e0, e1, e2, e3, e4, e5, e6, e7, e8⟩ := HCB.cells
              simp only [zR] at e0 e1 e2 e3 e4 e5 e6 e7 e8
              have hk1 := HPY.out.2.1
              have f0 : ((0 : Int) == y.k) = false := by simp; omega
              clear hk1
              have HE : Hid (chgs (x :: a) (y :: b) = (y.p, zR, y) :: chgs (x :: a) b) := chg_more HLS.out HNE.out a b
              have HMEM : (y.p, zR, y) ∈ chgs A B := by rw [← HD.out, HE.out]; simp
              have HDN : Hid ((pre ++ [(⟨(y.p, zR, y), HMEM⟩ : ItC A B)]).map ItC.c ++ chgs (x :: a) b = chgs A B) := by show _ = _; rw [← HD.out, HE.out, List.map_append]; simp
              have HLN : pre.length < (chgs A B).length := by rw [← HD.out, HE.out, List.length_append, List.length_map, List.length_cons]; omega
              obtain ⟨fn, tmps, assign, body, hy, hR⟩ := HY.out pre ⟨(y.p, zR, y), HMEM⟩ Wc HJ2 HLN
              dsimp only [chgVN, zR] at hy
              clear HE
              gi_wp2
              refine hR.mono ?_
              rintro e W3 (⟨rfl, hJ3, hk3⟩ | ⟨rfl, hJx3⟩)
              · gi_wp2
                go_roundw
                case rel => exact ⟨(x :: a), b, pre ++ [⟨(y.p, zR, y), HMEM⟩], HR1.out, HT2.out, HM1.out, fun r hr => HM2.out r (List.mem_cons_of_mem _ hr), by have h1 := HA1.out; have h2 := HB2.out; simp only [List.length_cons]; omega, HDN, hJ3, hk3.2 _ HPB.out, hbA.trans hk3.1⟩
                case measure => simp only [lenV]; omega
              · gi_wp2
                refine bodyPost_ret (results_none rfl _ _ _) rfl ?_
                exact ⟨⟨_, rfl⟩, .inr ⟨_, ⟨chgs (x :: a) b, HDN.out⟩, hJx3⟩⟩
            · have HT2 := Lib.hid (ntail_more (HR2.out))
              obtain ⟨c0, c1, c2, c3⟩ := HY0.out _ hbA
              obtain ⟨g0, g1, g2, g3, g4, g5, g6, g7, g8⟩ := HCB.frozen
              obtain ⟨e0, e1, e2, e3, e4, e5, e6, e7, e8⟩ := HCB.cells
              simp only [zR] at e0 e1 e2 e3 e4 e5 e6 e7 e8
              have HCB1 := Lib.hid (HCB.two y)
              have HBA := Lib.hid hbA
              have HBR := Lib.hid hbR
              have HWC : Hid (w0.heap.size ≤ C ∧ wr.heap.size ≤ C) := ⟨hszc, hszr⟩
              clear HCB hbA hbR
              gi_wp2
              refine wpIn_wide.2 ?_
              go_region
              have HCB : CbN (((((Wc.setCell ⟨C, 5, none⟩ (.int .i64 y.k)).setCell ⟨C, 6, none⟩ (.string y.p)).setCell ⟨C, 7, none⟩ (.string y.b)).setCell ⟨C, 8, none⟩ (.int .i64 y.m)).drew) C _ _ _ := HCB1.out
              have hbA : Below w0.heap.size w0 (((((Wc.setCell ⟨C, 5, none⟩ (.int .i64 y.k)).setCell ⟨C, 6, none⟩ (.string y.p)).setCell ⟨C, 7, none⟩ (.string y.b)).setCell ⟨C, 8, none⟩ (.int .i64 y.m)).drew) := Below.drew (((((HBA.out.setCell (p := ⟨C, 5, none⟩) HWC.out.1 (.int .i64 y.k)).setCell (p := ⟨C, 6, none⟩) HWC.out.1 (.string y.p)).setCell (p := ⟨C, 7, none⟩) HWC.out.1 (.string y.b)).setCell (p := ⟨C, 8, none⟩) HWC.out.1 (.int .i64 y.m)))
              have hbR : Below wr.heap.size wr (((((Wc.setCell ⟨C, 5, none⟩ (.int .i64 y.k)).setCell ⟨C, 6, none⟩ (.string y.p)).setCell ⟨C, 7, none⟩ (.string y.b)).setCell ⟨C, 8, none⟩ (.int .i64 y.m)).drew) := Below.drew (((((HBR.out.setCell (p := ⟨C, 5, none⟩) HWC.out.2 (.int .i64 y.k)).setCell (p := ⟨C, 6, none⟩) HWC.out.2 (.string y.p)).setCell (p := ⟨C, 7, none⟩) HWC.out.2 (.string y.b)).setCell (p := ⟨C, 8, none⟩) HWC.out.2 (.int .i64 y.m)))
              clear c0 c1 c2 c3 g0 g1 g2 g3 g4 g5 g6 g7 g8 e0 e1 e2 e3 e4 e5 e6 e7 e8 HCB1 HBA HBR HWC
              generalize ((((Wc.setCell ⟨C, 5, none⟩ (.int .i64 y.k)).setCell ⟨C, 6, none⟩ (.string y.p)).setCell ⟨C, 7, none⟩ (.string y.b)).setCell ⟨C, 8, none⟩ (.int .i64 y.m)).drew = Wc at *
              have HJ2 : J pre Wc := abide_below HJ.out hJr hbR
              have HPB : Hid (Boxed Wc Bp 90 (.func (.func 75) #[] #[])) := (hbR.block _ HBP.out.lt).trans HBP.out
              obtain ⟨e0, e1, e2, e3, e4, e5, e6, e7, e8⟩ := HCB.cells
              simp only [zR] at e0 e1 e2 e3 e4 e5 e6 e7 e8
              have hk1 := HPY.out.2.1
              have f0 : ((0 : Int) == y.k) = false := by simp; omega
              clear hk1
              have HE : Hid (chgs (x :: a) (y :: b) = (y.p, zR, y) :: chgs (x :: a) b) := chg_more HLS.out HNE.out a b
              have HMEM : (y.p, zR, y) ∈ chgs A B := by rw [← HD.out, HE.out]; simp
              have HDN : Hid ((pre ++ [(⟨(y.p, zR, y), HMEM⟩ : ItC A B)]).map ItC.c ++ chgs (x :: a) b = chgs A B) := by show _ = _; rw [← HD.out, HE.out, List.map_append]; simp
              have HLN : pre.length < (chgs A B).length := by rw [← HD.out, HE.out, List.length_append, List.length_map, List.length_cons]; omega
              obtain ⟨fn, tmps, assign, body, hy, hR⟩ := HY.out pre ⟨(y.p, zR, y), HMEM⟩ Wc HJ2 HLN
              dsimp only [chgVN, zR] at hy
              clear HE
              gi_wp2
              refine hR.mono ?_
              rintro e W3 (⟨rfl, hJ3, hk3⟩ | ⟨rfl, hJx3⟩)
              · gi_wp2
                go_roundw
                case rel => exact ⟨(x :: a), b, pre ++ [⟨(y.p, zR, y), HMEM⟩], HR1.out, HT2.out, HM1.out, fun r hr => HM2.out r (List.mem_cons_of_mem _ hr), by have h1 := HA1.out; have h2 := HB2.out; simp only [List.length_cons]; omega, HDN, hJ3, hk3.2 _ HPB.out, hbA.trans hk3.1⟩
                case measure => simp only [lenV]; omega
              · gi_wp2
                refine bodyPost_ret (results_none rfl _ _ _) rfl ?_
                exact ⟨⟨_, rfl⟩, .inr ⟨_, ⟨chgs (x :: a) b, HDN.out⟩, hJx3⟩⟩

theorem chgN_stops (n : Nat) (hn : 1 ≤ n) (Ba Bb Bp : Nat) (v1 v2 : Value) (A B : List R) (w W0 : World) (hw : Below w.heap.size w W0) (h1 : NodSl w v1 A) (h2 : NodSl w v2 B) {ta tb : TypeId}
    (ba : Boxed W0 Ba ta v1) (bb : Boxed W0 Bb tb v2) (bp : Boxed W0 Bp 90 (.func (.func 75) #[] #[])) (hfa : ∀ r ∈ A, r.fault = 0) (hfb : ∀ r ∈ B, r.fault = 0) (hlen : A.length + B.length ≤ 1048576) :
    SeqStopsK Fence.wide n Tryz.prog 140 #[.pointer (some ⟨Ba, 0, none⟩), .pointer (some ⟨Bb, 0, none⟩), .pointer (some ⟨Bp, 0, none⟩)] (fun x : ItC A B => #[chgVN x.c]) (KeepD w.heap.size Bp 90) (fun xs => xs.map ItC.c = chgs A B) (fun pre => ∃ rest, pre.map ItC.c ++ rest = chgs A B) (chgs A B).length W0 := fun l J Jx W hW hJ _ hY h0 =>
  chgN_in n hn l Ba Bb Bp v1 v2 A B w h1 h2 hfa hfb hlen J Jx W (hw.trans (hW.mono hw.size)) (Boxed.cell (show Boxed W Ba ta v1 from (hW.block _ ba.lt).trans ba)) (Boxed.cell (show Boxed W Bb tb v2 from (hW.block _ bb.lt).trans bb)) ((hW.block _ bp.lt).trans bp) hJ hY h0
end Go.Proofs.YtibekkfbpmloiabGreatDoor.Recs
