/- Parts of several texts of mine in one file (each begins with its own remark). -/
import Derived.Test.YtibekkfbpmloiabGreatDoorHA1
import Derived.Test.YtibekkfbpmloiabGreatDoorHA10
import Derived.Test.YtibekkfbpmloiabGreatDoorHA11
import Derived.Test.YtibekkfbpmloiabGreatDoorHA12
import Derived.Test.YtibekkfbpmloiabGreatDoorHA14
import Derived.Test.YtibekkfbpmloiabGreatDoorHA15
import Derived.Test.YtibekkfbpmloiabGreatDoorHA16
import Derived.Test.YtibekkfbpmloiabGreatDoorHA19
import Derived.Test.YtibekkfbpmloiabGreatDoorHA2
import Derived.Test.YtibekkfbpmloiabGreatDoorHA20
import Derived.Test.YtibekkfbpmloiabGreatDoorHA3
import Derived.Test.YtibekkfbpmloiabGreatDoorHA4
import Derived.Test.YtibekkfbpmloiabGreatDoorHA5
import Derived.Test.YtibekkfbpmloiabGreatDoorHA6
import Derived.Test.YtibekkfbpmloiabGreatDoorHA7
import Derived.Test.YtibekkfbpmloiabGreatDoorHA9
import Derived.Test.YtibekkfbpmloiabGreatDoorChecked
import Derived.Test.YtibekkfbpmloiabGreatDoorShelf
import Derived.Test.YtibekkfbpmloiabGreatDoorProg
import Derived.Test.YtibekkfbpmloiabGreatDoorRows
import Derived.RangeFuncNested
import Derived.RangeFuncBound
import Derived.RangeFuncCalls
import Derived.RangeFuncLeaves
import Derived.RangeFuncBox
import Derived.Shelf.Abstract
import Derived.Shelf.RegionOpen
import Derived.OwnWalkIn
import Derived.TacticsInMore
import Derived.LoopNIn
import Derived.LoopIn
import Derived.Deep.Slices
import Derived.OpenShut
import Derived.ShutString
import Derived.ChangeArms
import Derived.WideShapes
import Derived.Lib.LaidTab
import Derived.BigQuiet
import Derived.Deep.QuietTactic
import Derived.Deep.RegionHeld3
import Derived.StillTailTactics
import Derived.Deep.Draws
import Derived.Deep.LoopGhost
import Derived.WalkKit
import Derived.WalkSpells
import Derived.WalkSmall
import Derived.Lib.OthersKept
import Derived.Lib.Hide
import Derived.Lib.Strings
import Derived.Lib.Join
import Derived.Laws.OwnMore
import Derived.BigRegion
import Derived.Laws.BytesArg
import Derived.Stop.LaidErr
import Derived.WalkLawsBesides
import Derived.LaidEql
import Derived.Stop.Asserts
import Derived.Below
import Derived.Stop.LaidTwo
import Derived.ChangeVars
import Derived.Deep.DeepHandedRow
import Derived.Deep.RegionWith
import Derived.OneCell
import Derived.Lib.SliceRun
import Derived.Lib.Overlaps
import Derived.Lib.AppendZerosOnto
import Derived.Laws.NewBlocks
import Derived.Laws.IdiomCopy
import Derived.Deep.RegionLaw
/- The highest layer that cuts a path off: of the program (a range over the library's slices.Backward) and of its model; CutDepth. Conditions (of the program's): the table of kinds, the two sentinels. -/
namespace Go.Proofs.YtibekkfbpmloiabGreatDoor.Recs
set_option maxRecDepth 100000
open Go.RowKit Paths Errs Go.Shelf
attribute [local go_sem] Oper.semAt_some

theorem cut_none {LL : List (List R)} {q : ByteArray} : ∀ m, m ≤ LL.length → (∀ i (h : i < LL.length), cutsL LL[i] q = false) → cutD (LL.take m) q = 0
  | 0, _, _ => rfl
  | m + 1, hm, h => by
    rw [cut_take (by omega), h m (by omega)]
    exact cut_none m (by omega) h
theorem cut_stays {LL : List (List R)} {q : ByteArray} {k : Nat} : ∀ m, k ≤ m → m ≤ LL.length → (∀ i (h : i < LL.length), k ≤ i → cutsL LL[i] q = false) → cutD (LL.take m) q = cutD (LL.take k) q
  | 0, hk, _, _ => by
    obtain rfl : k = 0 := by omega
    rfl
  | m + 1, hk, hm, h => by
    rcases Nat.lt_or_ge m k with h1 | h1
    · obtain rfl : k = m + 1 := by omega
      rfl
    · rw [cut_take (by omega), h m (by omega) h1]
      exact cut_stays m h1 (by omega) h
theorem cut_here {LL : List (List R)} {q : ByteArray} {k : Nat} (hk : k < LL.length) (hc : cutsL LL[k] q = true) (h : ∀ i (h : i < LL.length), k + 1 ≤ i → cutsL LL[i] q = false) : cutD LL q = k + 1 := by
  have := cut_stays (k := k + 1) LL.length (by omega) (Nat.le_refl _) h
  rw [List.take_length, cut_take hk, hc] at this
  exact this
theorem cut_all0 {LL : List (List R)} {q : ByteArray} (h : ∀ i (h : i < LL.length), cutsL LL[i] q = false) : cutD LL q = 0 := by
  have := cut_none LL.length (Nat.le_refl _) h
  rw [List.take_length] at this
  exact this

/-- A layer as the iterator hands it out. -/
structure Itm (LL : List (List R)) (w0 : World) where
  i : Nat
  u : Value
  lt : i < LL.length
  sl : RecSl w0 u LL[i]
def dn (n : Nat) : List Nat := (List.range n).reverse
theorem dn_succ (n : Nat) : dn (n + 1) = n :: dn n := by unfold dn; rw [List.range_succ, List.reverse_append]; rfl
theorem dn_mem {n i : Nat} : i ∈ dn n ↔ i < n := by unfold dn; rw [List.mem_reverse, List.mem_range]
theorem dn_last {ini : List Nat} {x k n : Nat} (h : ini ++ [x] ++ dn k = dn n) : x = k ∧ ∀ j, k < j → j < n → j ∈ ini := by
  have hx : x = k := by
    induction n generalizing ini with
    | zero => cases ini <;> simp [dn] at h
    | succ n ih =>
      rw [dn_succ] at h
      cases ini with
      | nil =>
        have h1 : x :: dn k = n :: dn n := h
        have e1 : x = n := (List.cons.inj h1).1
        have e2 : dn k = dn n := (List.cons.inj h1).2
        have e3 : k = n := by
          have := congrArg List.length e2
          simpa [dn] using this
        omega
      | cons a t =>
        have h1 : a :: (t ++ [x] ++ dn k) = n :: dn n := h
        exact ih (ini := t) (List.cons.inj h1).2
  refine ⟨hx, fun j h1 h2 => ?_⟩
  have : j ∈ dn n := dn_mem.2 h2
  rw [← h] at this
  rcases List.mem_append.1 this with h3 | h3
  · rcases List.mem_append.1 h3 with h3 | h3
    · exact h3
    · rw [List.mem_singleton.1 h3] at h1; omega
  · have := dn_mem.1 h3; omega
theorem others_of {w w' : World} (h : Below w.heap.size w w') : KeepsOthers w w' := ⟨h.size, fun k _ hk _ => (h.block k (Array.getElem?_eq_some_iff.1 hk).1).trans hk⟩

theorem backward_any (v : Value) (A : Option Addr) (n cap : Nat) (hv : v = .slice A n cap) (w : World) :
    Calls Tryz.prog 162 #[v] w fun e w' => e = .returned (.func (.func 205) #[] #[.pointer (some ⟨w.heap.size, 0, none⟩)]) ∧ w' = w.alloc (.cells #[v] 43) := by
  subst hv
  go_enter Tryz.func162, Tryz.ntmps162
  go_wp2_with fail
  go_ret
  exact ⟨rfl, rfl⟩

set_option maxHeartbeats 2000000 in
/-- slices.Backward's iterator over a stack, for every loop body. -/
theorem back1_in (F : Fence) (n : Nat) (hF : F.fn 205) (hro : F.round = none) (hn : 1 ≤ n) (l Bs : Nat) (v : Value) (LL : List (List R)) (w0 : World) (hsl : StkSl w0 v LL) (hBs : w0.cell? ⟨Bs, 0, none⟩ = some v) (hBl : Bs < w0.heap.size) (hlen : LL.length ≤ 1048576)
    (J Jx : List (Itm LL w0) → World → Prop)
    (hY : ∀ pre x W, J pre W → pre.length < LL.length → YieldAt F (n - 1) Tryz.prog l #[.int .i64 (x.i : Int), x.u] W fun e W' =>
      (e = .returned (.bool true) ∧ J (pre ++ [x]) W' ∧ Below w0.heap.size W W') ∨ (e = .returned (.bool false) ∧ Jx (pre ++ [x]) W'))
    (W : World) (hW : Below w0.heap.size w0 W) (h0 : J [] W) :
    CallsIn F n Tryz.prog 205 #[.func (.yield l) #[] #[], .pointer (some ⟨Bs, 0, none⟩)] W fun e W' => (∃ v, e = .returned v) ∧
      ((∃ xs : List (Itm LL w0), xs.map Itm.i = dn LL.length ∧ J xs W') ∨ (∃ pre : List (Itm LL w0), (∃ k, pre.map Itm.i ++ dn k = dn LL.length) ∧ Jx pre W')) := by
  obtain ⟨A, cap, rfl, hcap, h⟩ := hsl
  have H := Lib.hid h
  clear h
  have hbs : W.cell? ⟨Bs, 0, none⟩ = some (.slice A LL.length cap) := (hW.cell (p := ⟨Bs, 0, none⟩) hBl).trans hBs
  refine callsIn_of_wp Tryz.func205 rfl hF ?_ hro
  simp only [Tryz.ntmps205, List.size_toArray, List.length_cons, List.length_nil, Nat.reduceAdd, Nat.reduceSub, Array.replicate_succ, Array.replicate_zero, List.push_toArray, List.append_toArray, List.nil_append, List.cons_append]
  gi_wp2
  gi_loopw [3] (fun i wr => ∃ (k : Nat) (z : Int) (pre : List (Itm LL w0)), k ≤ LL.length ∧ i = .int .i64 z ∧ Hid (z = (k : Int) - 1) ∧ Hid (pre.map Itm.i ++ dn k = dn LL.length) ∧ J pre wr ∧ Below w0.heap.size w0 wr)
    (fun i _ => (intOf i + 1).toNat)
  case atStart => exact ⟨LL.length, _, [], Nat.le_refl _, rfl, rfl, rfl, h0, hW⟩
  case round =>
    obtain ⟨k, z, pre, hk, rfl, HZ, HP, hJ, hb⟩ := hrel
    have hbs2 : wr.cell? ⟨Bs, 0, none⟩ = some (.slice A LL.length cap) := (hb.cell (p := ⟨Bs, 0, none⟩) hBl).trans hBs
    cases k with
    | zero =>
      have hz : z = -1 := HZ.out
      subst hz
      gi_wp2
      go_end0
      exact ⟨⟨_, rfl⟩, .inl ⟨pre, by have := HP.out; rw [show dn 0 = [] from rfl, List.append_nil] at this; exact this, hJ⟩⟩
    | succ m =>
      have hz : z = (m : Int) := by have := HZ.out; omega
      subst hz
      obtain ⟨b, off, rfl, hbl, hcell⟩ := H.out (by omega)
      obtain ⟨u, hu0, hur⟩ := hcell m LL[m] (by rw [List.getElem?_eq_getElem (by omega)])
      have hu : wr.cell? ⟨b, off + m, none⟩ = some u := (hb.cell (p := ⟨b, off + m, none⟩) hbl).trans hu0
      have hpl : pre.length < LL.length := by
        have := congrArg List.length HP.out
        simp [dn] at this
        omega
      obtain ⟨fn, tmps, assign, body, hy, hR⟩ := hY pre ⟨m, u, by omega, hur⟩ wr hJ hpl
      dsimp only at hy
      have hi1 : (m : Int) < (LL.length : Int) := by omega
      have hi0 : (0 : Int) ≤ (m : Int) := by omega
      have HN : Hid ((pre ++ [(⟨m, u, by omega, hur⟩ : Itm LL w0)]).map Itm.i ++ dn m = dn LL.length) := by
        show _ = _
        rw [← HP.out, dn_succ, List.map_append]
        simp
      clear hcell hu0 hpl
      gi_wp2
      refine hR.mono ?_
      rintro e W3 (⟨rfl, hJ3, hk3⟩ | ⟨rfl, hJx3⟩)
      · gi_wp2
        go_roundw
        case rel => exact ⟨m, (m : Int) - 1, _, by omega, rfl, rfl, HN, hJ3, hb.trans hk3⟩
        case measure => simp [intOf]
      · gi_wp2
        refine bodyPost_ret (results_none rfl _ _ _) rfl ?_
        exact ⟨⟨_, rfl⟩, .inr ⟨_, ⟨m, HN.out⟩, hJx3⟩⟩

theorem back_stops (F : Fence) (n : Nat) (hF : F.fn 205) (hro : F.round = none) (hn : 1 ≤ n) (Bs : Nat) (v : Value) (LL : List (List R)) (w0 : World) (hsl : StkSl w0 v LL) (hBs : w0.cell? ⟨Bs, 0, none⟩ = some v) (hBl : Bs < w0.heap.size) (hlen : LL.length ≤ 1048576) :
    SeqStopsK F n Tryz.prog 205 #[.pointer (some ⟨Bs, 0, none⟩)] (fun x : Itm LL w0 => #[.int .i64 (x.i : Int), x.u]) (Below w0.heap.size) (fun xs => xs.map Itm.i = dn LL.length) (fun pre => ∃ k, pre.map Itm.i ++ dn k = dn LL.length) LL.length w0 := fun l J Jx W hW _ _ hY h0 =>
  back1_in F n hF hro hn l Bs v LL w0 hsl hBs hBl hlen J Jx hY W hW h0

/-- The number of the last layer handed out. -/
def lastI {LL : List (List R)} {w0 : World} (pre : List (Itm LL w0)) : Int := ((pre.getLast?.map fun x => (x.i : Int) + 1)).getD 0
def cutStop {LL : List (List R)} {w0 : World} (q : ByteArray) (pre : List (Itm LL w0)) : Prop := ∃ ini x, pre = ini ++ [x] ∧ (∀ y ∈ ini, cutsL (LL[y.i]'y.lt) q = false) ∧ cutsL (LL[x.i]'x.lt) q = true
theorem cut_done {LL : List (List R)} {w0 : World} {q : ByteArray} {xs : List (Itm LL w0)} (h : xs.map Itm.i = dn LL.length) (hc : ∀ y ∈ xs, cutsL (LL[y.i]'y.lt) q = false) : cutD LL q = 0 :=
  cut_all0 fun i hi => by
    have : i ∈ xs.map Itm.i := by rw [h]; exact dn_mem.2 hi
    obtain ⟨y, hy, rfl⟩ := List.mem_map.1 this
    exact hc y hy
theorem cut_stopped {LL : List (List R)} {w0 : World} {q : ByteArray} {pre : List (Itm LL w0)} (h : ∃ k, pre.map Itm.i ++ dn k = dn LL.length) (hc : cutStop q pre) : lastI pre = (cutD LL q : Int) := by
  obtain ⟨ini, x, rfl, h1, h2⟩ := hc
  obtain ⟨k, hk⟩ := h
  rw [List.map_append] at hk
  obtain ⟨h3, h4⟩ := dn_last hk
  have := cut_here x.lt h2 fun i hi hxi => by
    have hm := h4 i (by omega) hi
    obtain ⟨y, hy, rfl⟩ := List.mem_map.1 hm
    exact h1 y hy
  rw [this]
  simp [lastI]

set_option maxHeartbeats 2000000 in
theorem cutDepth_in (F : Fence) (n : Nat) (hF : F.fn 98) (hBk : F.fn 162) (hB1 : F.fn 205) (hro : F.round = none) (hn : 6 ≤ n) (hw : F = Fence.wide ∧ n = 6) (v : Value) (LL : List (List R)) (q : ByteArray) (w : World) (h : StkSl w v LL) (hlen : LL.length ≤ 1048576) (hok : ∀ l ∈ LL, layerOK l = true) (hq : pathB q.data.toList = true) (hqm : q.size ≤ maxLen) (hr : ∀ l ∈ LL, ∀ r ∈ l, r.p.size ≤ maxLen) :
    CallsIn F n Tryz.prog 98 #[v, .string q] w fun e w' => e = .returned (.int .i64 (cutD LL q)) ∧ Below w.heap.size w w' := by
  have h1 : 1 ≤ n := by omega
  obtain ⟨vA, vcap, hve⟩ := h.form
  have HCU : Hid (∀ (w0 : World) (x : Itm LL w0) (W : World), Below w0.heap.size w0 W → Calls Tryz.prog 150 #[x.u, .string q] W fun e w'' => e = .returned (.bool (cutsL (LL[x.i]'x.lt) q)) ∧ Below W.heap.size W w'') := fun w0 x W hW => by
    have hk := hok _ (List.getElem_mem x.lt)
    rw [← cuts_same (layer_sorted hk) (fun _ hm => layer_rec hk hm) hq]
    exact cutsOff_any x.u _ q W (x.sl.below hW) (by have := layer_len hk; omega) hqm (hr _ (List.getElem_mem x.lt))
  have hBW := backward_any v vA LL.length vcap hve
  refine callsIn_of_wp_marks Tryz.func98 rfl hF ?_ hro
  simp only [Tryz.ntmps98, List.size_toArray, List.length_cons, List.length_nil, Nat.reduceAdd, Nat.reduceSub, Array.replicate_succ, Array.replicate_zero, List.push_toArray, List.append_toArray, List.nil_append, List.cons_append]
  obtain ⟨rfl, rfl⟩ := hw
  rw [hve] at hBW ⊢
  gi_wp2
  refine (callsIn_wide.2 (hBW _)).mono ?_
  rintro e w' ⟨rfl, rfl⟩
  gi_wp2
  obtain ⟨W0, hW0⟩ : ∃ W0, ((w.alloc (.cells #[.string q] 9)).alloc (.cells #[.int .i64 0] 3)).alloc (.cells #[.slice vA LL.length vcap] 43) = W0 := ⟨_, rfl⟩
  have hb0 : Below w.heap.size w W0 := by rw [← hW0]; exact (((Below.refl _ w).alloc (Nat.le_refl _) _).alloc (by simp) _).alloc (by simp; omega) _
  have hs0 : W0.heap.size = w.heap.size + 3 := by rw [← hW0]; simp
  have hbq : Boxed W0 w.heap.size 9 (.string q) := by rw [← hW0]; exact ((Boxed.new w _ _).alloc _).alloc _
  have hbr : Boxed W0 (w.heap.size + 1) 3 (.int .i64 0) := by
    rw [← hW0]
    have := Boxed.new (w.alloc (.cells #[.string q] 9)) 3 (.int .i64 0)
    rw [World.size_alloc] at this
    exact this.alloc _
  have hbs : Boxed W0 (w.heap.size + 1 + 1) 43 (.slice vA LL.length vcap) := by
    rw [← hW0]
    have := Boxed.new ((w.alloc (.cells #[.string q] 9)).alloc (.cells #[.int .i64 0] 3)) 43 (.slice vA LL.length vcap)
    rw [World.size_alloc, World.size_alloc] at this
    exact this
  have hsl0 : StkSl W0 (.slice vA LL.length vcap) LL := hve ▸ h.below hb0
  rw [hW0]
  refine wpIn_rangeFunc_ownF hro h1 (gf := 205) (lb := #[.pointer (some ⟨w.heap.size + 1 + 1, 0, none⟩)]) rfl hB1 (enters_of Tryz.func205 (by kernel_rfl) rfl)
    (back_stops Fence.wide (6 - 1) hB1 hro (by omega) (w.heap.size + 1 + 1) (.slice vA LL.length vcap) LL W0 hsl0 hbs.cell hbs.lt hlen) belowK_t (belowK_b (Nat.le_refl _)) (Below.refl _ _) (fun _ => rfl)
    (fun pre W => (∀ y ∈ pre, cutsL (LL[y.i]'y.lt) q = false) ∧ Below W0.heap.size W0 W)
    (fun c pre W => (c = .ret ∧ cutStop q pre) ∧ Boxed W (w.heap.size + 1) 3 (.int .i64 (lastI pre)) ∧ Below w.heap.size w W)
    (OwnFrom.and (ownFrom_pure _ _) (ownFrom_below (Nat.le_refl _) (Nat.le_refl _)))
    (fun c => OwnFrom.and (ownFrom_pure _ _) (OwnFrom.and (Own.from (boxed_own (w.heap.size + 1) 3 (fun pre => .int .i64 (lastI pre))) _) (ownFrom_below (Nat.le_refl _) hb0.size)))
    ⟨(fun y hy => by cases hy), Below.refl _ _⟩
    (fun x => { tmps := #[.slice vA LL.length vcap, .string q, undef, .pointer (some ⟨w.heap.size, 0, none⟩), .pointer (some ⟨w.heap.size + 1, 0, none⟩), .int .i64 (x.i : Int), x.u, .slice vA LL.length vcap, .func (.func 205) #[] #[.pointer (some ⟨w.heap.size + 1 + 1, 0, none⟩)], .int .i64 (x.i : Int), x.u, undef, undef, undef, undef, undef], defers := [] }) ?assign ?body ?done ?stop
  case assign =>
    intro l x W K hK
    gi_wp2
    exact hK
  case body =>
    rintro l pre x W ⟨hp, hB⟩ hlt
    have hqc := (hbq.kept (W' := W) (row := none) ⟨hB.os, hB.tape, hB.output, hB.size, fun k hk _ => hB.block k hk⟩ (by simp)).cell
    have HC := HCU.out W0 x W hB
    have hxl := x.lt
    rcases Bool.eq_false_or_eq_true (cutsL (LL[x.i]'x.lt) q) with hc | hc
    · rw [hc] at HC
      have HP := Lib.hid (show cutStop q (pre ++ [x]) from ⟨pre, x, rfl, hp, hc⟩)
      have HL : Hid (lastI (pre ++ [x]) = (x.i : Int) + 1) := by show _ = _; simp [lastI]
      have hbb : Boxed W (w.heap.size + 1) 3 (.int .i64 0) := (hB.block _ hbr.lt).trans hbr
      gi_wp2
      refine ⟨trivial, (CallsIn.inRound l (callsIn_wide.2 HC)).mono ?_⟩
      rintro e W1 ⟨rfl, hb1⟩
      have hb1c : Boxed W1 (w.heap.size + 1) 3 (.int .i64 0) := (hb1.block _ hbb.lt).trans hbb
      have hcc := hb1c.cell
      have hcf := hb1c.frozen
      gi_wp2
      refine ⟨(others_of hb1).trans (KeepsOthers.setCell _ _ _), ⟨rfl, HP.out⟩, ?_, ?_⟩
      · rw [HL.out]
        exact hb1c.set _
      · exact (hb0.trans ((hB.mono hb0.size).trans (hb1.mono (by have := hB.size; omega)))).setCell (p := ⟨w.heap.size + 1, 0, none⟩) (by simp) _
    · rw [hc] at HC
      have HP : Hid (∀ y ∈ pre ++ [x], cutsL (LL[y.i]'y.lt) q = false) := fun y hy => by
        rcases List.mem_append.1 hy with hy | hy
        · exact hp y hy
        · rw [List.mem_singleton.1 hy]; exact hc
      gi_wp2
      refine ⟨trivial, (CallsIn.inRound l (callsIn_wide.2 HC)).mono ?_⟩
      rintro e W1 ⟨rfl, hb1⟩
      gi_wp2
      exact ⟨others_of hb1, hb1.mono hB.size, HP.out, hB.trans (hb1.mono hB.size)⟩
  case done =>
    rintro D xs W hD hS ⟨hp, hB⟩ hK
    have HE := Lib.hid (cut_done hS hp)
    have hbb : Boxed W (w.heap.size + 1) 3 (.int .i64 0) := (hB.block _ hbr.lt).trans hbr
    have hcc := hbb.cell
    have hcf := hbb.frozen
    clear hp
    gi_wp2
    have hK' := (KeepsOthers.setCell W ⟨w.heap.size + 1, 0, none⟩ (.int .i64 0)).same D _ hK rfl
    refine ⟨by simp, .inl ⟨_, _, rfl, run_takeDeferred hK', ?_⟩⟩
    have hc5 := cell_kept (hbb.set (.int .i64 0)).cell (grownBy_putObj' _ D (.deferred none)) (fun r e => by cases e; exact ⟨_, hK', rfl⟩)
    refine ⟨.int .i64 0, ?_, by rw [HE.out]; rfl, ?_⟩
    · simp [results, Tryz.f98, go_sem, hc5]
    · exact ((hb0.trans (hB.mono hb0.size)).setCell (p := ⟨w.heap.size + 1, 0, none⟩) (by simp) _).trans (belowK_b (w := w) (Nat.le_refl _) _ D _ _ (by omega) hK' rfl rfl)
  case stop =>
    rintro D c pre W hD hS ⟨⟨rfl, hst⟩, hbx, hB⟩ hK
    have HE := Lib.hid (cut_stopped hS hst)
    gi_wp2
    refine ⟨by simp, .inl ⟨_, _, rfl, run_takeDeferred hK, ?_⟩⟩
    have hc5 := cell_kept hbx.cell (grownBy_putObj' _ D (.deferred none)) (fun r e => by cases e; exact ⟨_, hK, rfl⟩)
    refine ⟨.int .i64 (lastI pre), ?_, by rw [HE.out], ?_⟩
    · simp [results, Tryz.f98, go_sem, hc5]
    · exact hB.trans (belowK_b (w := w) (Nat.le_refl _) _ D _ _ (by omega) hK rfl rfl)
theorem cutDepth_any (v : Value) (LL : List (List R)) (q : ByteArray) (w : World) (h : StkSl w v LL) (hlen : LL.length ≤ 1048576) (hok : ∀ l ∈ LL, layerOK l = true) (hq : pathB q.data.toList = true) (hqm : q.size ≤ maxLen) (hr : ∀ l ∈ LL, ∀ r ∈ l, r.p.size ≤ maxLen) :
    Calls Tryz.prog 98 #[v, .string q] w fun e w' => e = .returned (.int .i64 (cutD LL q)) ∧ Below w.heap.size w w' :=
  callsIn_wide.1 (cutDepth_in Fence.wide 6 trivial trivial trivial rfl (by omega) ⟨rfl, rfl⟩ v LL q w h hlen hok hq hqm hr)
end Go.Proofs.YtibekkfbpmloiabGreatDoor.Recs

/- CutDepth, of the program and of its model. Conditions (of the program's): the table of kinds, the two sentinels. -/
namespace Go.Proofs.YtibekkfbpmloiabGreatDoor.Recs
set_option maxRecDepth 100000
open Go.RowKit Paths Errs

/-- The code of a call with a stack and a path. -/
def codeST (LL : List (List R)) (q : ByteArray) : Int := if 4096 < LL.length ∨ 65536 < q.size then 2 else if stackOK LL then 0 else 1
def codeSP (LL : List (List R)) (q : ByteArray) : Int := if codeST LL q ≠ 0 then codeST LL q else if pathB q.data.toList then 0 else 10
theorem sp_bad {LL : List (List R)} {q : ByteArray} {c : Int} (h : codeST LL q = c) (hc : c ≠ 0) : codeSP LL q = c := by unfold codeSP; rw [if_pos (by rw [h]; exact hc), h]
theorem sp_name {LL : List (List R)} {q : ByteArray} (h : codeST LL q = 0) (hq : pathB q.data.toList = false) : codeSP LL q = 10 := by unfold codeSP; rw [if_neg (by simpa using h), hq]; rfl
theorem sp_fine {LL : List (List R)} {q : ByteArray} (h : codeST LL q = 0) (hq : pathB q.data.toList = true) : codeSP LL q = 0 := by unfold codeSP; rw [if_neg (by simpa using h), hq]; rfl
theorem st_long {LL : List (List R)} {q : ByteArray} (h : 4096 < LL.length ∨ 65536 < q.size) : codeST LL q = 2 := if_pos h
theorem st_bad {LL : List (List R)} {q : ByteArray} (h : ¬ (4096 < LL.length ∨ 65536 < q.size)) (ho : stackOK LL = false) : codeST LL q = 1 := by unfold codeST; rw [if_neg h, ho]; rfl
theorem st_fine {LL : List (List R)} {q : ByteArray} (h : ¬ (4096 < LL.length ∨ 65536 < q.size)) (ho : stackOK LL = true) : codeST LL q = 0 := by unfold codeST; rw [if_neg h, ho]; rfl
theorem st_ok {LL : List (List R)} {q : ByteArray} (h : codeST LL q = 0) : stackOK LL = true ∧ ¬ (4096 < LL.length ∨ 65536 < q.size) := by
  unfold codeST at h
  split at h
  · cases h
  · rename_i hn
    split at h
    · rename_i ho; exact ⟨ho, hn⟩
    · cases h
theorem sp_ok {LL : List (List R)} {q : ByteArray} (h : codeSP LL q = 0) : stackOK LL = true ∧ pathB q.data.toList = true := by
  unfold codeSP at h
  split at h
  · rename_i hn; exact absurd h hn
  · rename_i hn
    split at h
    · rename_i hq; exact ⟨(st_ok (by simpa using hn)).1, hq⟩
    · cases h
def textU (s : ByteArray) : EU := if 65536 < s.size then .long else .fine
theorem textU_val (s : ByteArray) (x y : Addr) : (textK s).val x = (textU s).val x y := by
  unfold textK textU
  split <;> rfl
theorem arg_st (LL : List (List R)) (q : ByteArray) : euFrom [(stkE LL).u, textU q] 0 = codeST LL q := by
  by_cases h1 : 4096 < LL.length <;> by_cases h2 : 65536 < q.size <;> cases h3 : stackOK LL <;> simp [stkE, textU, EN.u, codeST, euFrom, h1, h2, h3]

set_option maxHeartbeats 1600000 in
theorem checkSP_any (v : Value) (LL : List (List R)) (q : ByteArray) (x y : Addr) (w : World) (h : StkSl w v LL) (hl : LL.length ≤ 1048576) (hr : ∀ l ∈ LL, l.length ≤ 1048576 ∧ ∀ r ∈ l, r.p.size ≤ maxLen) (hqm : q.size ≤ maxLen) (hT : Three w x y) :
    Calls Tryz.prog 94 #[v, .string q] w fun e w' => e = .returned (.int .i64 (codeSP LL q)) ∧ Below w.heap.size w w' := by
  have HARG : euFrom [(stkE LL).u, textU q] 0 = codeST LL q := arg_st LL q
  have HC := stackU_any v LL x y w h hl hr hT
  have HTX := fun w1 hx => checkText_any q x w1 hx
  rw [textU_val q x y] at HTX
  obtain ⟨vA, vcap, rfl⟩ := h.form
  by_cases h0 : codeST LL q = 0
  · obtain ⟨ho, hn⟩ := st_ok h0
    have hn1 : ¬ 4096 < LL.length := fun e => hn (.inl e)
    have hn2 : ¬ 65536 < q.size := fun e => hn (.inr e)
    have hc : stkE LL = .fine := by unfold stkE; rw [if_neg hn1, if_pos ho]
    have ht : textU q = .fine := if_neg hn2
    have H0 := Lib.hid h0
    have HA := fun w2 hT2 => argU2_any .fine .fine x y w2 hT2
    rw [hc] at HC
    rw [ht] at HTX
    unfold EN.u EU.val at HC
    unfold EU.val at HTX HA
    have hcode : euFrom [.fine, .fine] 0 = 0 := rfl
    rw [hcode] at HA
    clear h0 ho hn hn1 hn2 hc ht hcode HARG
    go_enter Tryz.func94, Tryz.ntmps94
    go_wp2_with fail
    refine HC.mono ?_
    rintro e w1 ⟨rfl, hb1⟩
    have hT1 := hT.below hb1 (Nat.le_refl _)
    go_wp2_with fail
    refine (HTX w1 hT1.long).mono ?_
    rintro e w2 ⟨rfl, rfl⟩
    go_wp2_with fail
    refine (HA _ hT1).mono ?_
    rintro e w3 ⟨rfl, hb3⟩
    have c3 := hb1.trans (hb3.mono hb1.size)
    go_wp2_with fail
    refine (pathOK_impl q _ hqm).mono ?_
    rintro e w4 ⟨rfl, hb4⟩
    have c4 := c3.trans (hb4.mono c3.size)
    rcases Bool.eq_false_or_eq_true (pathB q.data.toList) with hp | hp
    · have HE := Lib.hid (sp_fine H0.out hp)
      rw [hp]
      go_wp2_with fail
      go_ret
      exact ⟨ret_int HE.out.symm, c4⟩
    · have HE := Lib.hid (sp_name H0.out hp)
      rw [hp]
      go_wp2_with fail
      go_ret
      exact ⟨ret_int HE.out.symm, c4⟩
  · have HE := Lib.hid (sp_bad (LL := LL) (q := q) rfl h0)
    have HA := fun w2 hT2 => argU2_any (stkE LL).u (textU q) x y w2 hT2
    have hne : (codeST LL q != 0) = true := by simpa using h0
    rw [HARG] at HA
    cases hc : stkE LL <;> cases ht : textU q <;> (
      rw [hc, ht] at HARG
      first
      | exact absurd (HARG.symm.trans rfl) h0
      | (unfold textU at ht; (split at ht <;> cases ht); done)
      | (rw [hc] at HC HA
         rw [ht] at HTX HA
         unfold EN.u EU.val at HC HA
         unfold EU.val at HTX
         try unfold errV at HC
         try unfold errV at HTX
         try unfold errV at HA
         clear HARG h0 hc ht
         generalize hC : codeST LL q = C at *
         have HCC := Lib.hid hC
         clear hC
         go_enter Tryz.func94, Tryz.ntmps94
         go_wp2_with fail
         refine HC.mono ?_
         rintro e w1 ⟨rfl, hb1⟩
         have hT1 := hT.below hb1 (Nat.le_refl _)
         go_wp2_with fail
         refine (HTX w1 hT1.long).mono ?_
         rintro e w2 ⟨rfl, rfl⟩
         go_wp2_with fail
         refine (HA _ hT1).mono ?_
         rintro e w3 ⟨rfl, hb3⟩
         have c3 := hb1.trans (hb3.mono hb1.size)
         go_wp2_with fail
         go_ret
         exact ⟨ret_int HE.out.symm, c3⟩))

def cdD (LL : List (List R)) (q : ByteArray) : Nat := if codeSP LL q = 0 then cutD LL q else 0
theorem cd_ok {LL : List (List R)} {q : ByteArray} (h : codeSP LL q = 0) : cdD LL q = cutD LL q := if_pos h
theorem cd_bad {LL : List (List R)} {q : ByteArray} {c : Int} (h : codeSP LL q = c) (hc : c ≠ 0) : cdD LL q = 0 := if_neg (by rw [h]; exact hc)
set_option maxHeartbeats 800000 in
theorem cutDepth_impl (v : Value) (LL : List (List R)) (q : ByteArray) (x y : Addr) (w : World) (h : StkSl w v LL) (hl : LL.length ≤ 1048576) (hr : ∀ l ∈ LL, l.length ≤ 1048576 ∧ ∀ r ∈ l, r.p.size ≤ maxLen) (hqm : q.size ≤ maxLen) (hT : Three w x y) :
    Calls Tryz.prog 42 #[v, .string q] w fun e w' => e = .returned (.tuple #[.int .i64 (cdD LL q), .int .i64 (codeSP LL q)]) ∧ Below w.heap.size w w' := by
  have HC := checkSP_any v LL q x y w h hl hr hqm hT
  by_cases h0 : codeSP LL q = 0
  · obtain ⟨ho, hq⟩ := sp_ok h0
    have hst := stack_of ho
    have HCD := fun w1 hb => cutDepth_any v LL q w1 (h.below hb) hl hst.2 hq hqm (fun l hm => (hr l hm).2)
    have HE := Lib.hid (cd_ok h0)
    have H0 := Lib.hid h0
    rw [h0] at HC
    clear h0 ho hq hst
    obtain ⟨vA, vcap, rfl⟩ := h.form
    go_enter Tryz.func42, Tryz.ntmps42
    go_wp2_with fail
    refine HC.mono ?_
    rintro e w1 ⟨rfl, hb1⟩
    go_wp2_with fail
    refine (HCD w1 hb1).mono ?_
    rintro e w2 ⟨rfl, hb2⟩
    go_wp2_with fail
    go_ret2
    exact ⟨by rw [HE.out, H0.out]; rfl, hb1.trans (hb2.mono hb1.size)⟩
  · have HE := Lib.hid (cd_bad (LL := LL) (q := q) rfl h0)
    have hne : (codeSP LL q != 0) = true := by simpa using h0
    generalize hC : codeSP LL q = C at *
    have HCC := Lib.hid hC
    clear hC h0
    obtain ⟨vA, vcap, rfl⟩ := h.form
    go_enter Tryz.func42, Tryz.ntmps42
    go_wp2_with fail
    refine HC.mono ?_
    rintro e w1 ⟨rfl, hb1⟩
    go_wp2_with fail
    go_ret2
    exact ⟨by rw [HE.out]; rfl, hb1⟩

set_option maxHeartbeats 800000 in
/-- The model's search from the highest layer down. -/
theorem l07Cut_any (v : Value) (LL : List (List R)) (q : ByteArray) (w : World) (h : StkSl w v LL) (hl : LL.length ≤ 1048576) (hll : ∀ l ∈ LL, l.length ≤ 1048576) (hq : pathB q.data.toList = true) :
    Calls Tryz.prog 99 #[v, .string q] w fun e w' => e = .returned (.int .i64 (cutD LL q)) ∧ Below w.heap.size w w' := by
  obtain ⟨A, cap, rfl, hcap, h⟩ := h
  have H := Lib.hid h
  have HLL := Lib.hid hll
  clear h hll
  go_enter Tryz.func99, Tryz.ntmps99
  go_wp2
  go_loopw [5] (fun i wr => ∃ (k : Nat) (z : Int), k ≤ LL.length ∧ i = .int .i64 z ∧ Hid (z = (k : Int) - 1) ∧ Hid (cutD LL q = cutD (LL.take k) q) ∧ Below w.heap.size w wr) (fun i _ => (intOf i + 1).toNat)
  case atStart => exact ⟨LL.length, _, Nat.le_refl _, rfl, rfl, by show _ = _; rw [List.take_length], Below.refl _ _⟩
  case round =>
    obtain ⟨k, z, hk, rfl, HZ, HK, hbw⟩ := hrel
    cases k with
    | zero =>
      have hz : z = -1 := HZ.out
      subst hz
      have HE : Hid (cutD LL q = 0) := HK.out
      go_wp2
      go_ret
      exact ⟨by rw [HE.out]; rfl, hbw⟩
    | succ m =>
      have hz : z = (m : Int) := by have := HZ.out; omega
      subst hz
      obtain ⟨b, off, rfl, hbl, hcell⟩ := H.out (by omega)
      obtain ⟨u, hu0, hur⟩ := hcell m LL[m] (by rw [List.getElem?_eq_getElem (by omega)])
      have hu : wr.cell? ⟨b, off + m, none⟩ = some u := (hbw.cell (p := ⟨b, off + m, none⟩) hbl).trans hu0
      have HCU := l06Cuts_any u LL[m] q wr (hur.below hbw) (HLL.out _ (List.getElem_mem _)) hq
      have HST := Lib.hid (cut_take (LL := LL) (k := m) (by omega) q)
      have hi1 : (m : Int) < (LL.length : Int) := by omega
      have hi0 : (0 : Int) ≤ (m : Int) := by omega
      clear hcell hu0 hur
      rcases Bool.eq_false_or_eq_true (cutsL LL[m] q) with hc | hc
      · rw [hc] at HCU
        have HE : Hid (cutD LL q = m + 1) := by show _ = _; rw [HK.out, HST.out, if_pos hc]
        clear hc
        go_wp2_with fail
        refine HCU.mono ?_
        rintro e w1 ⟨rfl, hb1⟩
        go_wp2_with fail
        go_ret
        exact ⟨by rw [HE.out]; rfl, hbw.trans (hb1.mono hbw.size)⟩
      · rw [hc] at HCU
        have HE : Hid (cutD LL q = cutD (LL.take m) q) := by show _ = _; rw [HK.out, HST.out, if_neg (by rw [hc]; decide)]
        clear hc
        go_wp2_with fail
        refine HCU.mono ?_
        rintro e w1 ⟨rfl, hb1⟩
        go_wp2_with fail
        go_roundw
        case rel => exact ⟨m, (m : Int) - 1, by omega, rfl, rfl, HE, hbw.trans (hb1.mono hbw.size)⟩
        case measure => simp [intOf]

set_option maxHeartbeats 1600000 in
theorem cutDepth_spec (v : Value) (LL : List (List R)) (q : ByteArray) (w : World) (h : StkSl w v LL) (hl : LL.length ≤ 1048576) (hll : ∀ l ∈ LL, l.length ≤ 1048576) :
    Calls Tryz.prog 43 #[v, .string q] w fun e w' => e = .returned (.tuple #[.int .i64 (cdD LL q), .int .i64 (codeSP LL q)]) ∧ Below w.heap.size w w' := by
  have HOK := l05Stack_any _ LL w h hl hll
  have HS := Lib.hid h
  obtain ⟨vA, vcap, rfl⟩ := h.form
  by_cases h1 : 4096 < LL.length
  · have hd : decide ((4096 : Int) < (LL.length : Int)) = true := decide_eq_true (by omega)
    have HE := Lib.hid (sp_bad (st_long (q := q) (.inl h1)) (by decide))
    have HD := Lib.hid (cd_bad HE.out (by decide))
    clear h1
    go_enter Tryz.func43, Tryz.ntmps43
    go_wp2_with fail
    go_ret2
    exact ⟨by rw [HE.out, HD.out]; rfl, Below.refl _ _⟩
  have hd1 : decide ((4096 : Int) < (LL.length : Int)) = false := decide_eq_false (by omega)
  by_cases h2 : 65536 < q.size
  · have hd : decide ((65536 : Int) < (q.size : Int)) = true := decide_eq_true (by omega)
    have HE := Lib.hid (sp_bad (st_long (LL := LL) (.inr h2)) (by decide))
    have HD := Lib.hid (cd_bad HE.out (by decide))
    clear h1 h2
    go_enter Tryz.func43, Tryz.ntmps43
    go_wp2_with fail
    go_ret2
    exact ⟨by rw [HE.out, HD.out]; rfl, Below.refl _ _⟩
  have hd2 : decide ((65536 : Int) < (q.size : Int)) = false := decide_eq_false (by omega)
  have hn : ¬ (4096 < LL.length ∨ 65536 < q.size) := by omega
  cases ho : stackOK LL with
  | false =>
    have HE := Lib.hid (sp_bad (st_bad hn ho) (by decide))
    have HD := Lib.hid (cd_bad HE.out (by decide))
    rw [ho] at HOK
    clear h1 h2 hn ho
    go_enter Tryz.func43, Tryz.ntmps43
    go_wp2_with fail
    refine HOK.mono ?_
    rintro e w1 ⟨rfl, hb1⟩
    go_wp2_with fail
    go_ret2
    exact ⟨by rw [HE.out, HD.out]; rfl, hb1⟩
  | true =>
    have H0 := Lib.hid (st_fine hn ho)
    rw [ho] at HOK
    clear h1 h2 hn ho
    go_enter Tryz.func43, Tryz.ntmps43
    go_wp2_with fail
    refine HOK.mono ?_
    rintro e w1 ⟨rfl, hb1⟩
    go_wp2_with fail
    refine (l01OK_any q _).mono ?_
    rintro e w2 ⟨rfl, hb2⟩
    have c2 := hb1.trans (hb2.mono hb1.size)
    rcases Bool.eq_false_or_eq_true (pathB q.data.toList) with hp | hp
    · have HE := Lib.hid (sp_fine H0.out hp)
      have HD := Lib.hid (cd_ok HE.out)
      have HU := l07Cut_any _ LL q _ (HS.out.below c2) hl hll hp
      rw [hp]
      go_wp2_with fail
      refine HU.mono ?_
      rintro e w3 ⟨rfl, hb3⟩
      go_wp2_with fail
      go_ret2
      exact ⟨by rw [HE.out, HD.out]; rfl, c2.trans (hb3.mono c2.size)⟩
    · have HE := Lib.hid (sp_name H0.out hp)
      have HD := Lib.hid (cd_bad HE.out (by decide))
      rw [hp]
      go_wp2_with fail
      go_ret2
      exact ⟨by rw [HE.out, HD.out]; rfl, c2⟩
end Go.Proofs.YtibekkfbpmloiabGreatDoor.Recs
