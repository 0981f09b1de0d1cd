/- Parts of several texts of mine in one file (each begins with its own remark). -/
import Derived.Test.YtibekkfbpmloiaaGreatDoorCA1
import Derived.Test.YtibekkfbpmloiaaGreatDoorCA11
import Derived.Test.YtibekkfbpmloiaaGreatDoorCA12
import Derived.Test.YtibekkfbpmloiaaGreatDoorCA14
import Derived.Test.YtibekkfbpmloiaaGreatDoorCA2
import Derived.Test.YtibekkfbpmloiaaGreatDoorCA20
import Derived.Test.YtibekkfbpmloiaaGreatDoorCA3
import Derived.Test.YtibekkfbpmloiaaGreatDoorCA4
import Derived.Test.YtibekkfbpmloiaaGreatDoorCA5
import Derived.Test.YtibekkfbpmloiaaGreatDoorCA6
import Derived.Test.YtibekkfbpmloiaaGreatDoorCA8
import Derived.Test.YtibekkfbpmloiaaGreatDoorCB2
import Derived.Test.YtibekkfbpmloiaaGreatDoorCB3
import Derived.Test.YtibekkfbpmloiaaGreatDoorChecked
import Derived.Test.YtibekkfbpmloiaaGreatDoorRows
import Derived.Test.YtibekkfbpmloiaaGreatDoorProg
import Derived.Test.YtibekkfbpmloiaaGreatDoorShelf
import Derived.StillTailTactics
import Derived.Deep.RegionWith
import Derived.OneCell
import Derived.Lib.SliceRun
import Derived.Laws.OwnMore
import Derived.Deep.Slices
import Derived.OpenShut
import Derived.ShutString
import Derived.ChangeArms
import Derived.WideShapes
import Derived.Lib.LaidTab
import Derived.BigQuiet
import Derived.Deep.QuietTactic
import Derived.Deep.RegionHeld3
import Derived.Deep.Draws
import Derived.Deep.LoopGhost
import Derived.WalkKit
import Derived.WalkSpells
import Derived.WalkSmall
import Derived.Lib.OthersKept
import Derived.Lib.Hide
import Derived.Lib.Strings
import Derived.Lib.Join
import Derived.Laws.BytesArg
import Derived.BigRegion
import Derived.Lib.Overlaps
import Derived.Lib.AppendZerosOnto
import Derived.Laws.NewBlocks
import Derived.Laws.IdiomCopy
import Derived.Deep.RegionLaw
import Derived.ChangeVars
import Derived.Deep.DeepHandedRow
import Derived.LaidEql
import Derived.Stop.Asserts
import Derived.Below
import Derived.Stop.LaidErr
import Derived.Stop.LaidTwo
import Derived.WalkLawsBesides
/- A tree in memory: its nodes as a list, its nodes as records (nodes, of the program; what LayerOfTree hands to each). -/
namespace Go.Proofs.YtibekkfbpmloiaaGreatDoor.Recs
set_option maxRecDepth 100000
open Go.RowKit Paths

theorem own_not {w : World} {base : Nat} {e e' : TypeId} {size : Nat} {v : Value} {m : Nat} {xs : List Value} (h : w.ownsRow base e size v m xs) (he : e ≠ e') {g : Nat} {cur : Array Value} {fz : Nat × Nat} (hg : w.heap[g]? = some (.cells cur e' fz)) : v.ownBlock ≠ some g := fun e0 => by
  rcases h.2 with ⟨rfl, _⟩ | ⟨g', cap, cur', rfl, _, hh, _⟩
  · cases e0
  · cases e0
    rw [hg] at hh
    simp only [Option.some.injEq, Obj.cells.injEq] at hh
    exact he hh.2.1.symm

end Go.Proofs.YtibekkfbpmloiaaGreatDoor.Recs

/- The laws' marks in a slice of records: written, and read again. -/
namespace Go.Proofs.YtibekkfbpmloiaaGreatDoor.Recs
set_option maxRecDepth 100000
open Go.RowKit Paths

/-- The marks of one record, from x on. -/
def mr (x : Int) : R := ⟨x, x + 1 + 1 + 1, markS (x + 1), markS (x + 1 + 1), (x + 1 + 1 + 1 + 1) % 3 == 0⟩
def markR (x : Int) (n : Nat) : List R := (List.range n).map fun i : Nat => mr (x + 5 * (i : Int))
theorem markR_len (x : Int) (n : Nat) : (markR x n).length = n := by simp [markR]
theorem markR_at {x : Int} {n j : Nat} (h : j < n) : (markR x n)[j]'(by rw [markR_len]; exact h) = mr (x + 5 * j) := by simp [markR]

set_option maxHeartbeats 3200000 in
theorem markRecordS_any (v : Value) (n base : Nat) (M : List R) (x : Int) (w : World) (hrow : RowOf w base v n M) (h0 : 0 ≤ x) (hk : x + 5 * n ≤ 1099511627776) :
    Calls Tryz.prog 38 #[v, .int .i64 x] w fun e w' => e = .returned (.int .i64 (x + 5 * n)) ∧ RowOf w' base v n (markR x n) ∧ w.grownBy w' v.ownBlock := by
  rcases hrow.2.2 with ⟨rfl, rfl⟩ | ⟨g, cap, cur, rfl, hbg, hgg, hnc, hcm, _⟩
  · go_enter Tryz.func38, Tryz.ntmps38
    go_wp2
    refine wp_loop_rounds 1 ?_
    rw [rounds_succ]
    go_wp2
    go_ret
    exact ⟨by simp, ⟨by simp [markR], World.ownsRow_nil _ _ _ _⟩, World.grownBy.refl _ _⟩
  · unfold maxLen at hcm
    clear hgg
    go_enter Tryz.func38, Tryz.ntmps38
    go_wp2
    go_loopw [1, 5] (fun m i wr => ∃ (j : Nat) (N : List R), j ≤ n ∧ i = .int .i64 j ∧ m = .int .i64 (x + 5 * j) ∧ RowOf wr base (.slice (some ⟨g, 0, none⟩) n cap) n N ∧ Hid (N.take j = (markR x n).take j) ∧ w.grownBy wr (some g)) (fun _ i _ => n - (intOf i).toNat)
    case atStart => exact ⟨0, M, by omega, rfl, by simp, hrow, rfl, World.grownBy.refl _ _⟩
    case round =>
      obtain ⟨j, N, hj, rfl, rfl, hr, HN, hgr⟩ := hrel
      by_cases hlt : j < n
      · have hi1 : (j : Int) < (n : Int) := by omega
        have hi0 : (0 : Int) ≤ (j : Int) := by omega
        have hm : j < N.length := by rw [hr.1]; exact hlt
        have HS := Lib.hid (set_take (l := markR x n) hm (by rw [markR_len]; exact hlt) HN.out)
        rw [markR_at hlt] at HS
        generalize hX : x + 5 * (j : Int) = X at *
        have hX0 : 0 ≤ X := by omega
        have hX1 : X + 5 ≤ 1099511627776 := by omega
        obtain ⟨d0, d1, d2, d3, d4⟩ := hr.cells hm
        have hf := hr.frozen
        obtain ⟨a1, b1⟩ := hr.field (i := j) (c := 0) (r := { N[j] with k := X }) (u := .int .i64 X) hm (by omega) rfl
        go_wp2_with fail
        refine (markText_any _ _ (by omega) (by omega)).mono ?_
        rintro e w1 ⟨rfl, hb1⟩
        have r1 := a1.below hb1
        have g1 := grown_trans hgr (grown_trans b1 (grown_below hb1 _))
        have l1 : j < (N.set j { N[j] with k := X }).length := by simpa using hm
        obtain ⟨e0, e1, e2, e3, e4⟩ := r1.cells l1
        have hf1 := r1.frozen
        obtain ⟨a2, b2⟩ := r1.field (i := j) (c := 1) (r := { N[j] with k := X, p := markS (X + 1) }) (u := .string (markS (X + 1))) l1 (by omega) (by simp [R.cs])
        rw [List.set_set] at a2
        clear d0 d1 d2 d3 d4 hf a1 b1
        go_wp2_with fail
        refine (markText_any _ _ (by omega) (by omega)).mono ?_
        rintro e w2 ⟨rfl, hb2⟩
        have r2 := a2.below hb2
        have g2 := grown_trans g1 (grown_trans b2 (grown_below hb2 _))
        have l2 : j < (N.set j { N[j] with k := X, p := markS (X + 1) }).length := by simpa using hm
        clear e0 e1 e2 e3 e4 hf1 a2 b2 r1
        obtain ⟨e0, e1, e2, e3, e4⟩ := r2.cells l2
        have hf2 := r2.frozen
        obtain ⟨a3, b3⟩ := r2.field (i := j) (c := 2) (r := { N[j] with k := X, p := markS (X + 1), b := markS (X + 1 + 1) }) (u := .string (markS (X + 1 + 1))) l2 (by omega) (by simp [R.cs])
        rw [List.set_set] at a3
        obtain ⟨a4, b4⟩ := a3.field (i := j) (c := 3) (r := { N[j] with k := X, p := markS (X + 1), b := markS (X + 1 + 1), m := X + 1 + 1 + 1 }) (u := .int .i64 (X + 1 + 1 + 1)) (by simpa using hm) (by omega) (by simp [R.cs])
        rw [List.set_set] at a4
        obtain ⟨a5, b5⟩ := a4.field (i := j) (c := 4) (r := mr X) (u := .bool ((X + 1 + 1 + 1 + 1) % 3 == 0)) (by simpa using hm) (by omega) (by simp [R.cs, mr])
        rw [List.set_set] at a5
        have HA := Lib.hid a5
        have HG := Lib.hid (grown_trans (grown_trans (grown_trans g2 b3) b4) b5)
        clear a3 a4 a5 b3 b4 b5
        go_wp2_with fail
        exact ⟨⟨j + 1, N.set j (mr X), by omega, by go_num, by subst hX; go_num, HA.out, HS, HG.out⟩, by simp [intOf]; omega⟩
      · obtain rfl : j = n := by omega
        go_wp2
        go_ret
        refine ⟨rfl, ?_, hgr⟩
        have := HN.out
        rw [List.take_of_length_le (by rw [hr.1]; exact Nat.le_refl _), List.take_of_length_le (by rw [markR_len]; exact Nat.le_refl _)] at this
        rw [← this]
        exact hr

end Go.Proofs.YtibekkfbpmloiaaGreatDoor.Recs

/- For laws over lists of records: the laws' own sizes with their sums; blocks between two numbers; two equal rows of strings. -/
namespace Go.Proofs.YtibekkfbpmloiaaGreatDoor.Recs
set_option maxRecDepth 100000
open Go.RowKit Paths

theorem betw_of {base top : Nat} {w w' : World} {row : Option Nat} (hg : w.grownBy w' row) (hr : ∀ k, row = some k → base ≤ k ∧ k < top) : Betw base top w w' :=
  ⟨hg.os, hg.tape, hg.output, hg.size, fun k hk hb => hg.block k hk (fun e => by have := hr k e.symm; omega)⟩
theorem eqStr_same (v1 v2 : Value) (L : List (List UInt8)) (w : World) {b1 b2 : Nat} (h1 : w.ownsRow b1 9 1 v1 L.length (L.map strV)) (h2 : w.ownsRow b2 9 1 v2 L.length (L.map strV)) (hl : L.length ≤ 1048576) :
    Calls Tryz.prog 17 #[v1, v2] w fun e w' => e = .returned (.bool true) ∧ Below w.heap.size w w' := by
  refine (eqStringS_any v1 v2 L L w (Strs.own h1) (Strs.own h2) (by unfold maxLen; omega)).mono ?_
  rintro e w1 ⟨rfl, n, rfl⟩
  exact ⟨by simp, below_drewN (Below.refl _ _) n⟩
end Go.Proofs.YtibekkfbpmloiaaGreatDoor.Recs

/- Slices in memory of their own, of any element that lies in a fixed number of cells. -/
namespace Go.Proofs.YtibekkfbpmloiaaGreatDoor.Recs
set_option maxRecDepth 100000
open Go.RowKit Paths

section
variable {α : Type} {cs : α → List Value} {k : Nat}
variable {T : TypeId} {w w' : World} {base : Nat} {v : Value} {n : Nat} {M : List α}
theorem RowG.atom (h : RowG cs k T w base v n M) (hn : 0 < n) : ∃ g cap, v = .slice (some ⟨g, 0, none⟩) n cap ∧ base ≤ g ∧ g < w.heap.size ∧ n ≤ cap ∧ cap ≤ maxLen := by
  rcases h.2.2 with ⟨_, h0⟩ | ⟨g, cap, cur, e, h1, h2, h3, h4, _⟩
  · omega
  · exact ⟨g, cap, e, h1, (Array.getElem?_eq_some_iff.1 h2).1, h3, h4⟩
/-- A part from the front. -/
theorem RowG.front (hcs : ∀ a, (cs a).length = k) {g cap : Nat} (h : RowG cs k T w base (.slice (some ⟨g, 0, none⟩) n cap) n M) {m : Nat} (hm : m ≤ n) : RowG cs k T w base (.slice (some ⟨g, 0, none⟩) m cap) m (M.take m) := by
  refine ⟨by rw [List.length_take, h.1]; omega, ?_, ?_⟩
  · rw [flatG_len hcs, List.length_take, h.1, Nat.min_eq_left hm]
  · rcases h.2.2 with ⟨e, _⟩ | ⟨g', cap', cur, e, h1, h2, h3, h4, h5, h6⟩
    · cases e
    · cases e
      refine .inr ⟨g, cap, cur, rfl, h1, h2, by omega, h4, h5, ?_⟩
      have hl : (flatG cs (M.take m)).length = m * k := by rw [flatG_len hcs, List.length_take, h.1, Nat.min_eq_left hm]
      have e0 : flatG cs M = flatG cs (M.take m) ++ flatG cs (M.drop m) := by
        unfold flatG
        rw [← List.flatMap_append, List.take_append_drop]
      have e1 : flatG cs (M.take m) = (flatG cs M).take (m * k) := by rw [e0, List.take_left' hl]
      rw [e1, ← h6, List.take_take, Nat.min_eq_left (Nat.mul_le_mul_right k hm)]
end
end Go.Proofs.YtibekkfbpmloiaaGreatDoor.Recs

/- Combining two layers, of the program. -/
namespace Go.Proofs.YtibekkfbpmloiaaGreatDoor.Recs
set_option maxRecDepth 100000
open Go.RowKit Paths Errs

/-- A slice without its first record. -/
theorem tail_more {w : World} {b off n cap : Nat} {x : R} {t : List R} (h : RecSl w (.slice (some ⟨b, off, none⟩) n cap) (x :: t)) : RecSl w (.slice (some ⟨b, off + 5, none⟩) (n - 1) (cap - 1)) t := by
  obtain ⟨A, c, e, hc, h⟩ := h
  cases e
  obtain ⟨b', off', e, hb, hcell⟩ := h (by simp)
  cases e
  refine ⟨_, _, rfl, by simp at hc; omega, fun _ => ⟨b, off + 5, rfl, hb, fun i r hi => ?_⟩⟩
  have := hcell (i + 1) r (by simpa using hi)
  have e : off + (i + 1) * 5 = off + 5 + i * 5 := by omega
  rw [e] at this
  exact this
end Go.Proofs.YtibekkfbpmloiaaGreatDoor.Recs

/- For laws over stacks: the laws' own sizes with their sums; blocks between two numbers; marks in a stack. -/
namespace Go.Proofs.YtibekkfbpmloiaaGreatDoor.Recs
set_option maxRecDepth 100000
open Go.RowKit Paths

set_option maxHeartbeats 1600000 in
theorem markRecordSS_any (v : Value) (LL : List (List R)) (base top : Nat) (x : Int) (w : World) (hrow : StkRow w base v LL) (h0 : 0 ≤ x) (hk : x + 5 * total LL ≤ 1099511627776) (hL : LL.length ≤ 1048576) (htop : ∀ (g : Nat) (us : List Value), v = .slice (some ⟨g, 0, none⟩) LL.length LL.length → us.length = LL.length → (∀ (i : Nat) (u : Value), us[i]? = some u → w.cell? ⟨g, i, none⟩ = some u) → ∀ (i : Nat) (u : Value), us[i]? = some u → ∀ c, u.ownBlock = some c → c < top) :
    Calls Tryz.prog 18 #[v, .int .i64 x] w fun e w' => e = .returned (.int .i64 (x + 5 * total LL)) ∧ Betw base top w w' := by
  obtain ⟨g, us, rfl, hn, hgl, hcs, hrs⟩ := hrow.low
  have HTOP := Lib.hid (htop g us rfl hn hcs)
  have HCS := Lib.hid hcs
  have HRS := Lib.hid hrs
  clear hcs hrs htop hrow
  go_enter Tryz.func18, Tryz.ntmps18
  go_wp2
  go_loopw [1, 5] (fun kv i wr => ∃ j : Nat, j ≤ LL.length ∧ i = .int .i64 j ∧ kv = .int .i64 (x + 5 * total (LL.take j)) ∧ Betw base top w wr ∧ Hid (∀ (i : Nat) (u : Value) (l : List R), us[i]? = some u → LL[i]? = some l → wr.cell? ⟨g, i, none⟩ = some u ∧ (j ≤ i → RowOf wr base u l.length l))) (fun _ i _ => LL.length - (intOf i).toNat)
  case atStart => exact ⟨0, by omega, rfl, by show _ = Value.int .i64 (x + 5 * ((0 : Nat) : Int)); simp, Betw.refl _ _ _, fun i u l hi hl => ⟨HCS.out i u hi, fun _ => (HRS.out i u l hi hl).1⟩⟩
  case round =>
    obtain ⟨j, hj, rfl, rfl, hbt, HJ⟩ := hrel
    by_cases hlt : j < LL.length
    · have hu : us[j]? = some (us[j]'(by omega)) := List.getElem?_eq_getElem _
      have hl : LL[j]? = some LL[j] := List.getElem?_eq_getElem hlt
      obtain ⟨c0, hr0⟩ := HJ.out j _ _ hu hl
      have hr1 := hr0 (Nat.le_refl _)
      have hts := total_snoc hlt
      have htl : total (LL.take (j + 1)) ≤ total LL := by
        unfold total
        conv => rhs; rw [← List.take_append_drop (j + 1) LL, List.map_append, List.sum_append]
        omega
      have HM := markRecordS_any _ _ _ _ (x + 5 * total (LL.take j)) wr hr1 (by omega) (by omega)
      obtain ⟨uA, uc, hue⟩ := own_form hr1.2
      generalize hU : us[j]'(by omega) = U at *
      subst hue
      have hi1 : (j : Int) < (LL.length : Int) := by omega
      have hi0 : (0 : Int) ≤ (j : Int) := by omega
      have HTS := Lib.hid hts
      have HU := Lib.hid hu
      have HLL := Lib.hid hl
      have HR1 := Lib.hid hr1
      clear hts htl hu hl hr0 hr1 hU
      go_wp2_with fail
      refine HM.mono ?_
      rintro e w2 ⟨rfl, -, hg2⟩
      have hb2 : Betw base top wr w2 := betw_of hg2 (fun k hk2 => ⟨(HR1.out.2.lt k hk2).1, HTOP.out j _ HU.out k hk2⟩)
      go_wp2_with fail
      go_roundw
      case rel =>
        refine ⟨j + 1, by omega, by go_num, ?_, hbt.trans hb2, fun i u l hi hl => ?_⟩
        · rw [HTS.out]
          congr 1
          push_cast
          omega
        · obtain ⟨d0, d1⟩ := HJ.out i u l hi hl
          obtain ⟨e1, e2, e3⟩ := HRS.out j _ _ HU.out HLL.out
          refine ⟨hg2.cell d0 (fun e => e2 e.symm), fun hji => ?_⟩
          refine ⟨rfl, (d1 (by omega)).2.kept hg2 ?_⟩
          cases hub : u.ownBlock with
          | none => exact .inl rfl
          | some c =>
            refine .inr (fun e => ?_)
            have := e3 i u hi c e.symm hub
            omega
      case measure => simp [intOf]; omega
    · obtain rfl : j = LL.length := by omega
      rw [List.take_of_length_le (Nat.le_refl _)]
      go_wp2
      go_ret
      exact ⟨rfl, hbt⟩
end Go.Proofs.YtibekkfbpmloiaaGreatDoor.Recs

/- Paths in their order: a path put in from the back (plain: for the model's list of paths). -/
namespace Go.Proofs.YtibekkfbpmloiaaGreatDoor.Recs
set_option maxRecDepth 100000
open Paths

/-- Behind the place all are above q; the one ahead of the place is not: it is q, or q goes in here. -/
theorem ins_back {P : List ByteArray} {q : ByteArray} {n : Nat} (hP : Ups P) (hn : n ≤ P.length) (h1 : ∀ j (hj : j < P.length), n ≤ j → lessQ q P[j] = true) (h2 : ∀ (hp : n - 1 < P.length), 0 < n → lessQ q P[n - 1] = false) :
    insP q P = if 0 < n ∧ P[n - 1]? = some q then P else P.take n ++ [q] ++ P.drop n := by
  have hup := insP_ups q P hP
  have hall := List.pairwise_iff_getElem.1 hP
  split
  · rename_i h
    refine ups_ext hup hP fun x => ?_
    rw [insP_mem]
    exact ⟨fun e => e.elim (fun e => e ▸ List.mem_of_getElem? h.2) id, .inr⟩
  · rename_i h
    have hlow : ∀ j (hj : j < P.length), j < n → lessQ P[j] q = true := by
      intro j hj hjn
      have hp : n - 1 < P.length := by omega
      have hne : P[n - 1] ≠ q := fun e => h ⟨by omega, by rw [List.getElem?_eq_getElem hp, e]⟩
      have hl : lessQ P[n - 1] q = true := (lessQ_total hne).resolve_right (by rw [h2 hp (by omega)]; decide)
      by_cases e : j = n - 1
      · subst e; exact hl
      · exact lessQ_trans _ _ _ (hall j (n - 1) hj hp (by omega)) hl
    have hu2 : Ups (P.take n ++ [q] ++ P.drop n) := by
      unfold Ups
      rw [List.append_assoc, List.pairwise_append]
      refine ⟨hP.sublist (List.take_sublist ..), ?_, ?_⟩
      · show (q :: P.drop n).Pairwise _
        refine List.pairwise_cons.2 ⟨fun b hb => ?_, hP.sublist (List.drop_sublist ..)⟩
        obtain ⟨j, hj, rfl⟩ := List.getElem_of_mem hb
        rw [List.getElem_drop]
        exact h1 _ _ (by omega)
      · intro a ha b hb
        obtain ⟨i, hi, rfl⟩ := List.getElem_of_mem ha
        rw [List.length_take] at hi
        rw [List.getElem_take]
        have ha' := hlow i (by omega) (by omega)
        rcases List.mem_cons.1 hb with rfl | hb
        · exact ha'
        · have hb' : b ∈ P.drop n := hb
          obtain ⟨j, hj, rfl⟩ := List.getElem_of_mem hb'
          rw [List.getElem_drop]
          exact lessQ_trans _ _ _ ha' (h1 _ _ (by omega))
    refine ups_ext hup hu2 fun x => ?_
    rw [insP_mem, List.append_assoc, List.mem_append, List.singleton_append, List.mem_cons]
    have := List.mem_append (a := x) (s := P.take n) (t := P.drop n)
    rw [List.take_append_drop] at this
    rw [this]
    exact ⟨fun e => e.elim (fun e => .inr (.inl e)) (fun e => e.elim .inl (fun e => .inr (.inr e))), fun e => e.elim (fun e => .inr (.inl e)) (fun e => e.elim .inl (fun e => .inr (.inr e)))⟩
/-- The paths of the first k lists and of the first j records of the next. -/
def pathsTo (LL : List (List R)) (k j : Nat) : List ByteArray := ((LL.take k).flatten ++ ((LL[k]?).getD []).take j).foldl (fun P r => insP r.p P) []
theorem to_next {LL : List (List R)} {k : Nat} (hk : k < LL.length) : pathsTo LL (k + 1) 0 = pathsTo LL k (LL[k].length) := by
  unfold pathsTo
  rw [List.take_zero, List.append_nil, List.take_add_one, List.getElem?_eq_getElem hk, Option.toList_some, List.flatten_append, List.flatten_singleton, Option.getD_some, List.take_length]
theorem to_end (LL : List (List R)) : pathsTo LL LL.length 0 = pathsL LL := by
  unfold pathsTo pathsL
  rw [List.take_zero, List.append_nil, List.take_length]
theorem to_step {LL : List (List R)} {k j : Nat} (hk : k < LL.length) (hj : j < LL[k].length) : pathsTo LL k (j + 1) = insP LL[k][j].p (pathsTo LL k j) := by
  unfold pathsTo
  rw [List.getElem?_eq_getElem hk, Option.getD_some, List.take_add_one, List.getElem?_eq_getElem hj, Option.toList_some, ← List.append_assoc, List.foldl_append]
  rfl
theorem to_ups (LL : List (List R)) (k j : Nat) : Ups (pathsTo LL k j) := (fold_ins _ [] List.Pairwise.nil).1
end Go.Proofs.YtibekkfbpmloiaaGreatDoor.Recs

/- Hidden, of the program and of its model. Conditions (of the program's): the table of kinds, the two sentinels. -/
namespace Go.Proofs.YtibekkfbpmloiaaGreatDoor.Recs
set_option maxRecDepth 100000
open Go.RowKit Paths Errs

theorem str_snoc {w : World} {base : Nat} {v : Value} {M : List (List UInt8)} {p : ByteArray} (h : w.ownsRow base 9 1 v (M.length + 1) (M.map strV ++ [.string p])) : w.ownsRow base 9 1 v (M ++ [p.data.toList]).length ((M ++ [p.data.toList]).map strV) := by
  rw [List.length_append, List.map_append]
  exact h
end Go.Proofs.YtibekkfbpmloiaaGreatDoor.Recs
