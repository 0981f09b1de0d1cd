/- Parts of several texts of mine in one file (each begins with its own remark). -/
import Derived.Test.YtcbmnihepeefaaaGreatDoorCA1
import Derived.Test.YtcbmnihepeefaaaGreatDoorCA10
import Derived.Test.YtcbmnihepeefaaaGreatDoorCA2
import Derived.Test.YtcbmnihepeefaaaGreatDoorCA3
import Derived.Test.YtcbmnihepeefaaaGreatDoorCA4
import Derived.Test.YtcbmnihepeefaaaGreatDoorCA5
import Derived.Test.YtcbmnihepeefaaaGreatDoorCA6
import Derived.Test.YtcbmnihepeefaaaGreatDoorCA8
import Derived.Test.YtcbmnihepeefaaaGreatDoorCA9
import Derived.Test.YtcbmnihepeefaaaGreatDoorCB1
import Derived.Test.YtcbmnihepeefaaaGreatDoorCB12
import Derived.Test.YtcbmnihepeefaaaGreatDoorCB13
import Derived.Test.YtcbmnihepeefaaaGreatDoorCB14
import Derived.Test.YtcbmnihepeefaaaGreatDoorCB15
import Derived.Test.YtcbmnihepeefaaaGreatDoorCB16
import Derived.Test.YtcbmnihepeefaaaGreatDoorCB2
import Derived.Test.YtcbmnihepeefaaaGreatDoorCB5
import Derived.Test.YtcbmnihepeefaaaGreatDoorCB6
import Derived.Test.YtcbmnihepeefaaaGreatDoorCB9
import Derived.Test.YtcbmnihepeefaaaGreatDoorCC1
import Derived.Test.YtcbmnihepeefaaaGreatDoorChecked
import Derived.Test.YtcbmnihepeefaaaGreatDoorShelf
import Derived.Test.YtcbmnihepeefaaaGreatDoorProg
import Derived.Test.YtcbmnihepeefaaaGreatDoorRows
import Derived.Test.YtcbmnihepeefaaaGreatDoorShelf2
import Derived.Deep.Slices
import Derived.OpenShut
import Derived.ShutString
import Derived.ChangeArms
import Derived.WideShapes
import Derived.Lib.LaidTab
import Derived.BigQuiet
import Derived.Deep.QuietTactic
import Derived.Deep.RegionHeld3
import Derived.StillTailTactics
import Derived.Deep.Draws
import Derived.Deep.LoopGhost
import Derived.WalkKit
import Derived.WalkSpells
import Derived.WalkSmall
import Derived.Lib.OthersKept
import Derived.Lib.Hide
import Derived.Lib.Strings
import Derived.Lib.Join
import Derived.Deep.RegionWith
import Derived.Laws.OwnMore
import Derived.BigRegion
import Derived.Laws.BytesArg
import Derived.Stop.LaidErr
import Derived.WalkLawsBesides
import Derived.LaidEql
import Derived.Stop.Asserts
import Derived.Below
import Derived.Stop.LaidTwo
import Derived.OneCell
import Derived.Lib.SliceRun
import Derived.Lib.Overlaps
import Derived.Lib.AppendZerosOnto
import Derived.Laws.NewBlocks
import Derived.Laws.IdiomCopy
import Derived.Deep.RegionLaw
import Derived.ChangeVars
import Derived.Deep.DeepHandedRow
import Derived.Deep.AppendLies
import Derived.Laws.EntriesVeiled
import Derived.Laws.IdiomRangeMap
import Derived.Maps.RangeWalk
import Derived.Maps.Ext
import Derived.Lib.SlMapFilter
import Derived.Shelf.SlSortCmp.NoneTotal
import Derived.Sort.OwnSorted
import Derived.RangeFuncNested
import Derived.RangeFuncBound
import Derived.RangeFuncCalls
import Derived.RangeFuncLeaves
import Derived.RangeFuncBox
import Derived.Shelf.Abstract
import Derived.Shelf.RegionOpen
import Derived.OwnWalkIn
import Derived.TacticsInMore
import Derived.LoopNIn
import Derived.LoopIn
import Derived.Maps.OwnIn
import Derived.Maps.AppendAt
import Derived.Sort.MapsRangeIn
import Derived.Sort.KeysCollected
import Derived.Sort.Grow
import Derived.Laws.AppendOwnNone
import Derived.RegionTactic
/- Layers as plain lists of records: when a list is a layer; the records of a canonical form; it is a layer. -/
namespace Go.Proofs.YtcbmnihepeefaaaGreatDoor.Recs
open Go.RowKit Paths

/-! ### The canonical form -/
/-- The canonical form of a layer is a layer. -/
theorem canon_layer {l : List R} (h : layerOK l = true) : layerOK (canonL l) = true := by
  refine layerOK_of ?_ ?_ (canon_sorted (layer_sorted h)) ?_
  · have h1 := layer_len h
    have h2 := List.length_filterMap_le (canonR l) l
    unfold canonL
    omega
  · intro x hx
    obtain ⟨r, hr, he⟩ := mem_canon.1 hx
    exact canonR_fault he (layer_rec h hr)
  · intro x hx hp
    obtain ⟨r, hr, he⟩ := mem_canon.1 hx
    have e1 := (canonR_path he).1
    rw [e1] at hp ⊢
    obtain ⟨q, hq, h1, h2⟩ := layer_housed h r hr hp
    obtain ⟨y, hy⟩ := canonR_dir (l := l) h2
    obtain ⟨f1, f2, _⟩ := canonR_path hy
    exact ⟨y, mem_canon.2 ⟨q, hq, hy⟩, f1.trans h1, f2.trans h2⟩
end Go.Proofs.YtcbmnihepeefaaaGreatDoor.Recs

/- Applying layers to trees, of the model: a record, a layer, a stack. -/
namespace Go.Proofs.YtcbmnihepeefaaaGreatDoor.Recs
set_option maxRecDepth 100000
open Go.RowKit Paths

theorem do_white {t : List R} {r : R} (h : r.k = 4) : doR t r = withoutL t r.p true := if_pos h
theorem do_clears {t : List R} {r : R} (h : r.k ≠ 4) (hc : clears t r = true) : doR t r = putL (withoutL t r.p false) (nodeOf r) := by
  unfold doR
  rw [if_neg h, if_pos hc]
theorem do_keeps {t : List R} {r : R} (h : r.k ≠ 4) (hc : clears t r = false) : doR t r = putL t (nodeOf r) := by
  unfold doR
  rw [if_neg h, hc]
  rfl
theorem clears_stops {t : List R} {r : R} (h : stops r = true) : clears t r = true := by unfold clears; rw [h]; rfl
theorem clears_at {t : List R} {r x : R} (h : recAt t r.p = some x) (hk : x.k ≠ 3) : clears t r = true := by unfold clears; rw [h]; simp [hk]
theorem clears_no {t : List R} {r : R} (h : stops r = false) (h2 : ∀ x, recAt t r.p = some x → x.k = 3) : clears t r = false := by
  unfold clears
  rw [h]
  cases hr : recAt t r.p with
  | none => rfl
  | some x => simp [h2 x hr]
theorem do_path {t : List R} {r : R} (ht : ∀ x ∈ t, pathB x.p.data.toList = true) (hr : pathB r.p.data.toList = true) : ∀ x ∈ doR t r, pathB x.p.data.toList = true := by
  intro x hx
  rcases mem_do.1 hx with ⟨_, rfl⟩ | ⟨h1, _⟩
  · exact hr
  · exact ht x h1
theorem path_35 {r : R} (h : pathB r.p.data.toList = true) : r.p.size ≤ 35 := by rw [Lib.size_eq]; exact pathB_len h

set_option maxHeartbeats 4000000 in
theorem l05Do_any (v : Value) (t : List R) (r : R) (base : Nat) (w : World) (h : RowN w base v t.length t) (hv : v ≠ .slice none 0 0) (hs : Sorted t) (hp : ∀ x ∈ t, pathB x.p.data.toList = true) (hr : pathB r.p.data.toList = true) (hl : t.length ≤ 1000) :
    Calls Tryz.prog 192 #[v, r.val] w fun e w' => ∃ x, e = .returned x ∧ Below w.heap.size w w' ∧ RowN w' w.heap.size x (doR t r).length (doR t r) ∧ x ≠ .slice none 0 0 := by
  have hb0 : Below w.heap.size w (w.alloc (.cells #[.int .i64 r.k, .string r.p, .string r.b, .int .i64 r.m, .bool r.o] 26)) := (Below.refl _ _).alloc (Nat.le_refl _) _
  have bc := box_cells w r 26
  have hsl := (h.below hb0).sl
  have HAT := l04At_any v t r.p (w.alloc (.cells #[.int .i64 r.k, .string r.p, .string r.b, .int .i64 r.m, .bool r.o] 26)) hsl (by omega)
  have HW := fun s => l04Without_any v t r.p s (w.alloc (.cells #[.int .i64 r.k, .string r.p, .string r.b, .int .i64 r.m, .bool r.o] 26)) hsl hl hp hr
  have HPUT : ∀ (u : Value) (L : List R) (b : Nat) (W : World), RowN W b u L.length L → u ≠ .slice none 0 0 → Sorted L → (∀ x ∈ L, pathB x.p.data.toList = true) → L.length ≤ 1000 →
      Calls Tryz.prog 100 #[u, r.nod] W fun e w' => ∃ x, e = .returned x ∧ Below W.heap.size W w' ∧ RowN w' W.heap.size x (putL L (nodeOf r)).length (putL L (nodeOf r)) ∧ x ≠ .slice none 0 0 :=
    fun u L b W h1 h2 h3 h4 h5 => l04Put_any u L (nodeOf r) b W h1 h2 h3 (fun x hx => path_35 (h4 x hx)) (path_35 hr) rfl h5
  have HNO := fun W => l04Node_any r W
  have hcl : ∀ x, (recAt t r.p = some x → x.k ≠ 3 → clears t r = true) := fun x h1 h2 => clears_at h1 h2
  have HRA := Lib.hid (atL_recAt t r.p)
  have HH := Lib.hid (h.below hb0)
  have HV := Lib.hid hv
  have HS := Lib.hid hs
  have HPP := Lib.hid hp
  have HRR := Lib.hid hr
  obtain ⟨g, cap, rfl, hcap, hcm, hgb, hgl⟩ := notnil h hv
  have HCE : Hid (∀ i (hi : i < t.length), NodCells (w.alloc (.cells #[.int .i64 r.k, .string r.p, .string r.b, .int .i64 r.m, .bool r.o] 26)) g (i * 4) t[i]) := fun i hi => (h.below hb0).cells hi
  clear h hv hs hp hr hsl hcl
  obtain ⟨rk, rm, rp, rb, ro⟩ := r
  unfold R.val
  unfold R.nod at HPUT HNO
  unfold R.val at HNO
  dsimp only at *
  generalize hW0 : w.alloc (.cells #[.int .i64 rk, .string rp, .string rb, .int .i64 rm, .bool ro] 26) = W0 at *
  have HB0 := Lib.hid hb0
  have HW0 := Lib.hid hW0
  clear hb0
  by_cases h4 : rk = 4
  · have q4 : (rk == 4) = true := by simp [h4]
    have HD : Hid (doR t ⟨rk, rm, rp, rb, ro⟩ = withoutL t rp true) := do_white h4
    have HWT := HW true
    clear HW HPUT HNO h4
    obtain ⟨d0, d1, d2, d3, d4⟩ := bc
    go_enter Tryz.func192, Tryz.ntmps192
    go_wp2_with fail
    refine HAT.mono ?_
    rintro e w' ⟨rfl, rfl⟩
    go_wp2_with fail
    refine HWT.mono ?_
    rintro e w2 ⟨x, rfl, hb2, hrow2, hx2⟩
    have HR2 := Lib.hid hrow2
    have HX2 := Lib.hid hx2
    clear hrow2 hx2
    go_wp2_with fail
    go_ret
    refine ⟨x, rfl, HB0.out.trans (hb2.mono HB0.out.size), ?_, HX2.out⟩
    rw [HD.out]
    exact ⟨HR2.out.1, own_down HR2.out.2.1 HB0.out.size, HR2.out.2.2⟩
  have q4 : (rk == 4) = false := by simp [h4]
  have HN4 := Lib.hid h4
  clear h4
  by_cases h3 : rk = 3
  · have q3 : (rk != 3) = false := by simp [h3]
    cases ro with
    | true =>
      have HD : Hid (doR t ⟨rk, rm, rp, rb, true⟩ = putL (withoutL t rp false) (nodeOf ⟨rk, rm, rp, rb, true⟩)) := do_clears HN4.out (clears_stops (by unfold stops; simp))
      have HWF := HW false
      clear HW h3
      obtain ⟨d0, d1, d2, d3, d4⟩ := bc
      go_enter Tryz.func192, Tryz.ntmps192
      go_wp2_with fail
      refine HAT.mono ?_
      rintro e w' ⟨rfl, rfl⟩
      go_wp2_with fail
      refine HWF.mono ?_
      rintro e w2 ⟨x2, rfl, hb2, hrow2, hx2⟩
      have bc2 : RecCells w2 w.heap.size 0 ⟨rk, rm, rp, rb, true⟩ := RecCells.below ⟨d0, d1, d2, d3, d4⟩ hb2 (by rw [← HW0.out]; simp)
      clear d0 d1 d2 d3 d4
      obtain ⟨d0, d1, d2, d3, d4⟩ := bc2
      obtain ⟨g2, cap2, rfl, _, _, _, _⟩ := notnil hrow2 hx2
      have HR2 := Lib.hid hrow2
      have HX2 := Lib.hid hx2
      clear hrow2 hx2
      have hall2 := HB0.out.trans (hb2.mono HB0.out.size)
      go_wp2_with fail
      refine (HNO _).mono ?_
      rintro e w3 ⟨rfl, hb3⟩
      have hall := hall2.trans (hb3.mono hall2.size)
      have HPC := HPUT _ (withoutL t rp false) W0.heap.size w3 (HR2.out.below hb3) HX2.out (without_sorted HS.out _ _) (fun x hx => HPP.out x (mem_without.1 hx).1) (Nat.le_trans (without_le _ _ _) hl)
      go_wp2_with fail
      refine HPC.mono ?_
      rintro e w9 ⟨x, rfl, hb9, hrow9, hx9⟩
      have HR9 := Lib.hid hrow9
      have HX9 := Lib.hid hx9
      clear hrow9 hx9
      go_wp2_with fail
      go_ret
      refine ⟨x, rfl, hall.trans (hb9.mono hall.size), ?_, HX9.out⟩
      rw [HD.out]
      exact ⟨HR9.out.1, own_down HR9.out.2.1 hall.size, HR9.out.2.2⟩
    | false =>
      have HST : Hid (stops ⟨rk, rm, rp, rb, false⟩ = false) := (by show stops _ = false; unfold stops; simp [h3])
      clear h3
      rcases HRA.out with ⟨ha, hn⟩ | ⟨i, hi, ha, hn⟩
      · have HD : Hid (doR t ⟨rk, rm, rp, rb, false⟩ = putL t (nodeOf ⟨rk, rm, rp, rb, false⟩)) := do_keeps HN4.out (clears_no HST.out (fun x hx => by rw [hn] at hx; cases hx))
        rw [ha] at HAT
        clear ha hn HRA HW
        obtain ⟨d0, d1, d2, d3, d4⟩ := bc
        go_enter Tryz.func192, Tryz.ntmps192
        go_wp2_with fail
        refine HAT.mono ?_
        rintro e w' ⟨rfl, rfl⟩
        go_wp2_with fail
        refine (HNO _).mono ?_
        rintro e w3 ⟨rfl, hb3⟩
        have hall := HB0.out.trans (hb3.mono HB0.out.size)
        have HPC := HPUT _ t base w3 (HH.out.below hb3) HV.out HS.out HPP.out hl
        go_wp2_with fail
        refine HPC.mono ?_
        rintro e w9 ⟨x, rfl, hb9, hrow9, hx9⟩
        have HR9 := Lib.hid hrow9
        have HX9 := Lib.hid hx9
        clear hrow9 hx9
        go_wp2_with fail
        go_ret
        refine ⟨x, rfl, hall.trans (hb9.mono hall.size), ?_, HX9.out⟩
        rw [HD.out]
        exact ⟨HR9.out.1, own_down HR9.out.2.1 hall.size, HR9.out.2.2⟩
      · rw [ha] at HAT
        obtain ⟨n0, n1, n2, n3⟩ := HCE.out i hi
        have hi0 : (0 : Int) ≤ (i : Int) := by omega
        have hd0 : decide ((0 : Int) ≤ (i : Int)) = true := by simp
        have hi1 : (i : Int) < (t.length : Int) := by omega
        clear ha HRA
        by_cases hk : t[i].k = 3
        · have HD : Hid (doR t ⟨rk, rm, rp, rb, false⟩ = putL t (nodeOf ⟨rk, rm, rp, rb, false⟩)) := do_keeps HN4.out (clears_no HST.out (fun x hx => by rw [hn] at hx; cases hx; exact hk))
          have qk : (t[i].k != 3) = false := by simp [hk]
          clear hn hk HW
          obtain ⟨d0, d1, d2, d3, d4⟩ := bc
          go_enter Tryz.func192, Tryz.ntmps192
          go_wp2_with fail
          refine HAT.mono ?_
          rintro e w' ⟨rfl, rfl⟩
          go_wp2_with fail
          refine (HNO _).mono ?_
          rintro e w3 ⟨rfl, hb3⟩
          have hall := HB0.out.trans (hb3.mono HB0.out.size)
          have HPC := HPUT _ t base w3 (HH.out.below hb3) HV.out HS.out HPP.out hl
          go_wp2_with fail
          refine HPC.mono ?_
          rintro e w9 ⟨x, rfl, hb9, hrow9, hx9⟩
          have HR9 := Lib.hid hrow9
          have HX9 := Lib.hid hx9
          clear hrow9 hx9
          go_wp2_with fail
          go_ret
          refine ⟨x, rfl, hall.trans (hb9.mono hall.size), ?_, HX9.out⟩
          rw [HD.out]
          exact ⟨HR9.out.1, own_down HR9.out.2.1 hall.size, HR9.out.2.2⟩
        · have HD : Hid (doR t ⟨rk, rm, rp, rb, false⟩ = putL (withoutL t rp false) (nodeOf ⟨rk, rm, rp, rb, false⟩)) := do_clears HN4.out (clears_at hn hk)
          have qk : (t[i].k != 3) = true := by simp [hk]
          have HWF := HW false
          clear hn hk HW
          obtain ⟨d0, d1, d2, d3, d4⟩ := bc
          go_enter Tryz.func192, Tryz.ntmps192
          go_wp2_with fail
          refine HAT.mono ?_
          rintro e w' ⟨rfl, rfl⟩
          go_wp2_with fail
          refine HWF.mono ?_
          rintro e w2 ⟨x2, rfl, hb2, hrow2, hx2⟩
          have bc2 : RecCells w2 w.heap.size 0 ⟨rk, rm, rp, rb, false⟩ := RecCells.below ⟨d0, d1, d2, d3, d4⟩ hb2 (by rw [← HW0.out]; simp)
          clear d0 d1 d2 d3 d4
          obtain ⟨d0, d1, d2, d3, d4⟩ := bc2
          obtain ⟨g2, cap2, rfl, _, _, _, _⟩ := notnil hrow2 hx2
          have HR2 := Lib.hid hrow2
          have HX2 := Lib.hid hx2
          clear hrow2 hx2
          have hall2 := HB0.out.trans (hb2.mono HB0.out.size)
          go_wp2_with fail
          refine (HNO _).mono ?_
          rintro e w3 ⟨rfl, hb3⟩
          have hall := hall2.trans (hb3.mono hall2.size)
          have HPC := HPUT _ (withoutL t rp false) W0.heap.size w3 (HR2.out.below hb3) HX2.out (without_sorted HS.out _ _) (fun x hx => HPP.out x (mem_without.1 hx).1) (Nat.le_trans (without_le _ _ _) hl)
          go_wp2_with fail
          refine HPC.mono ?_
          rintro e w9 ⟨x, rfl, hb9, hrow9, hx9⟩
          have HR9 := Lib.hid hrow9
          have HX9 := Lib.hid hx9
          clear hrow9 hx9
          go_wp2_with fail
          go_ret
          refine ⟨x, rfl, hall.trans (hb9.mono hall.size), ?_, HX9.out⟩
          rw [HD.out]
          exact ⟨HR9.out.1, own_down HR9.out.2.1 hall.size, HR9.out.2.2⟩
  · have q3 : (rk != 3) = true := by simp [h3]
    have HD : Hid (doR t ⟨rk, rm, rp, rb, ro⟩ = putL (withoutL t rp false) (nodeOf ⟨rk, rm, rp, rb, ro⟩)) := do_clears HN4.out (clears_stops (by unfold stops; simp [h3]))
    have HWF := HW false
    clear HW h3
    obtain ⟨d0, d1, d2, d3, d4⟩ := bc
    go_enter Tryz.func192, Tryz.ntmps192
    go_wp2_with fail
    refine HAT.mono ?_
    rintro e w' ⟨rfl, rfl⟩
    go_wp2_with fail
    refine HWF.mono ?_
    rintro e w2 ⟨x2, rfl, hb2, hrow2, hx2⟩
    have bc2 : RecCells w2 w.heap.size 0 ⟨rk, rm, rp, rb, ro⟩ := RecCells.below ⟨d0, d1, d2, d3, d4⟩ hb2 (by rw [← HW0.out]; simp)
    clear d0 d1 d2 d3 d4
    obtain ⟨d0, d1, d2, d3, d4⟩ := bc2
    obtain ⟨g2, cap2, rfl, _, _, _, _⟩ := notnil hrow2 hx2
    have HR2 := Lib.hid hrow2
    have HX2 := Lib.hid hx2
    clear hrow2 hx2
    have hall2 := HB0.out.trans (hb2.mono HB0.out.size)
    go_wp2_with fail
    refine (HNO _).mono ?_
    rintro e w3 ⟨rfl, hb3⟩
    have hall := hall2.trans (hb3.mono hall2.size)
    have HPC := HPUT _ (withoutL t rp false) W0.heap.size w3 (HR2.out.below hb3) HX2.out (without_sorted HS.out _ _) (fun x hx => HPP.out x (mem_without.1 hx).1) (Nat.le_trans (without_le _ _ _) hl)
    go_wp2_with fail
    refine HPC.mono ?_
    rintro e w9 ⟨x, rfl, hb9, hrow9, hx9⟩
    have HR9 := Lib.hid hrow9
    have HX9 := Lib.hid hx9
    clear hrow9 hx9
    go_wp2_with fail
    go_ret
    refine ⟨x, rfl, hall.trans (hb9.mono hall.size), ?_, HX9.out⟩
    rw [HD.out]
    exact ⟨HR9.out.1, own_down HR9.out.2.1 hall.size, HR9.out.2.2⟩
end Go.Proofs.YtcbmnihepeefaaaGreatDoor.Recs

/- Applying layers to trees, of the model: a layer, a stack. -/
namespace Go.Proofs.YtcbmnihepeefaaaGreatDoor.Recs
set_option maxRecDepth 100000
open Go.RowKit Paths

theorem apply_path : ∀ (l : List R) {t : List R}, (∀ x ∈ l, pathB x.p.data.toList = true) → (∀ x ∈ t, pathB x.p.data.toList = true) → ∀ x ∈ applyL l t, pathB x.p.data.toList = true
  | [], _, _, h => h
  | r :: l, _, hl, h => apply_path l (fun x hx => hl x (List.mem_cons_of_mem _ hx)) (do_path h (hl r List.mem_cons_self))
theorem mem_take_path {l : List R} (h : ∀ x ∈ l, pathB x.p.data.toList = true) (k : Nat) : ∀ x ∈ l.take k, pathB x.p.data.toList = true := fun x hx => h x (List.mem_of_mem_take hx)
theorem row_nil {w : World} {base : Nat} {t : List R} (h : RowN w base (.slice none 0 0) t.length t) : t = [] := by
  have h1 := h.2.1.1
  have h2 := h.2.1.2
  rcases h2 with ⟨_, hn⟩ | ⟨g, cap, cur, e, _⟩
  · exact List.eq_nil_of_length_eq_zero hn
  · cases e
theorem row_cases {w : World} {base : Nat} {v : Value} {t : List R} (h : RowN w base v t.length t) : (v = .slice none 0 0 ∧ t = []) ∨ ∃ g cap, v = .slice (some ⟨g, 0, none⟩) t.length cap ∧ t.length ≤ cap := by
  by_cases hv : v = .slice none 0 0
  · subst hv
    exact .inl ⟨rfl, row_nil h⟩
  · obtain ⟨g, cap, rfl, hc, _⟩ := notnil h hv
    exact .inr ⟨g, cap, rfl, hc⟩
set_option maxHeartbeats 4000000 in
theorem l05Apply_any (v u : Value) (l t : List R) (base : Nat) (w : World) (h : RecSl w v l) (ht : RowN w base u t.length t) (hp : ∀ x ∈ l, pathB x.p.data.toList = true) (hs : Sorted t) (htp : ∀ x ∈ t, pathB x.p.data.toList = true) (hl : t.length + l.length ≤ 1000) :
    Calls Tryz.prog 126 #[v, u] w fun e w' => ∃ x, e = .returned x ∧ Below w.heap.size w w' ∧ RowN w' w.heap.size x (applyL l t).length (applyL l t) ∧ x ≠ .slice none 0 0 := by
  obtain ⟨sA, scap, rfl, hcap, h⟩ := h
  have H := Lib.hid h
  have HS := Lib.hid hs
  have HP := Lib.hid hp
  have HTP := Lib.hid htp
  clear h hs hp htp
  obtain ⟨i0, hi, hI0, hI1, hI2⟩ := info_parts nodInfo
  have hE : (w.alloc (.cells #[] 29)).ownsRow w.heap.size 29 4 (.slice (some ⟨w.heap.size, 0, none⟩) 0 0) 0 [] := World.ownsRow_lit w #[] 0 (Nat.le_refl _) (Nat.zero_le _) rfl
  have cE : Below w.heap.size w (w.alloc (.cells #[] 29)) := (Below.refl _ _).alloc (Nat.le_refl _) _
  rcases row_cases ht with ⟨rfl, ht0⟩ | ⟨g, cap, rfl, hgc⟩
  · have HR0 : Hid (RowN (w.alloc (.cells #[] 29)) w.heap.size (.slice (some ⟨w.heap.size, 0, none⟩) 0 0) t.length t ∧ (Value.slice (some ⟨w.heap.size, 0, none⟩) 0 0) ≠ .slice none 0 0) := (by
      show _ ∧ _
      rw [ht0]
      exact ⟨⟨rfl, hE, fun x hx => by cases hx⟩, fun e => by cases e⟩)
    clear ht ht0
    have cS := cE
    go_enter Tryz.func126, Tryz.ntmps126
    go_wp2_with (first
      | (at_builtin; refine wpList_append_own_none rfl _ _ 23 rfl w.heap.size 29 i0 4 Tryz.underlying23 hi _ _ _ rfl hE rfl ?_)
      | go_in)
    go_loopw [1, 5] (fun tv i wr => ∃ k : Nat, k ≤ l.length ∧ i = .int .i64 k ∧ Below w.heap.size w wr ∧ Hid (RowN wr w.heap.size tv (applyL (l.take k) t).length (applyL (l.take k) t) ∧ tv ≠ .slice none 0 0)) (fun _ i _ => l.length - (intOf i).toNat)
    case atStart => exact ⟨0, by omega, rfl, cS, HR0.out⟩
    case round =>
      obtain ⟨k, hk, rfl, hbw, HK⟩ := hrel
      by_cases hlt : k < l.length
      · obtain ⟨b, off, rfl, hb, hcell⟩ := H.out (by omega)
        obtain ⟨c0, c1, c2, c3, c4⟩ := (hcell k l[k] (by simp [hlt])).below hbw hb
        clear hcell
        have hi1 : (k : Int) < (l.length : Int) := by omega
        have hi0 : (0 : Int) ≤ (k : Int) := by omega
        obtain ⟨g2, cap2, rfl, _, _, _, _⟩ := notnil HK.out.1 HK.out.2
        have HLE := Lib.hid (apply_le (l.take k) t)
        have hle : (applyL (l.take k) t).length ≤ 1000 := by
          have h1 := HLE.out
          rw [List.length_take] at h1
          omega
        have HDO := l05Do_any _ (applyL (l.take k) t) l[k] w.heap.size wr HK.out.1 HK.out.2 (apply_sorted _ HS.out) (apply_path _ (mem_take_path HP.out k) HTP.out) (HP.out _ (List.getElem_mem hlt)) hle
        unfold R.val at HDO
        have HSN := Lib.hid (apply_snoc l t hlt)
        go_wp2_with fail
        refine HDO.mono ?_
        rintro e w2 ⟨x, rfl, hb2, hrow2, hx2⟩
        have HR2 := Lib.hid hrow2
        have HX2 := Lib.hid hx2
        clear hrow2 hx2
        go_wp2_with fail
        go_roundw
        case rel => exact ⟨k + 1, by omega, by go_num, hbw.trans (hb2.mono hbw.size), by
          show RowN _ _ _ _ _ ∧ _
          rw [HSN.out]
          exact ⟨HR2.out.down hbw.size, HX2.out⟩⟩
        case measure => simp [intOf]; omega
      · obtain rfl : k = l.length := by omega
        have HK2 := HK.out
        rw [List.take_of_length_le (Nat.le_refl _)] at HK2
        have HK3 := Lib.hid HK2
        clear HK2
        go_wp2
        go_ret
        exact ⟨_, rfl, hbw, HK3.out.1, HK3.out.2⟩
  · have hsrc := src_cells (ht.below cE) 0 t (.inl rfl)
    have hfl := flatN_len t
    have hone := flatN_one t
    have hbz := cE.size
    have HTN := Lib.hid ht
    rw [Nat.zero_mul] at hsrc
    go_enter Tryz.func126, Tryz.ntmps126
    go_wp2_with (first
      | (at_builtin; refine wpList_append_own _ rfl _ _ 23 rfl w.heap.size 29 i0 (.agg #[.int .i64 0, .string ByteArray.empty, .string ByteArray.empty, .int .i64 0]) 4 48 Tryz.underlying23 hi hI0 hI1 hI2 rfl (by decide) _ _ _ rfl hE ⟨g, 0, none⟩ t.length cap (flatN t) rfl hfl hsrc hone (by unfold maxLen; omega) (by omega) hbz ?_; intro v' w9 hown' hgrow9 hnil9; rw [Nat.zero_add, List.nil_append] at hown'; have HR0 : Hid (RowN w9 w.heap.size v' t.length t ∧ v' ≠ .slice none 0 0) := ⟨⟨rfl, hown', HTN.out.2.2⟩, fun e => by have := (hnil9.1 e).1; cases this⟩; have cS := cE.grown hgrow9 hbz (fun j hj => (hE.lt j hj).1); clear hown' hgrow9 hnil9 hsrc hone)
      | go_in)
    go_loopw [1, 5] (fun tv i wr => ∃ k : Nat, k ≤ l.length ∧ i = .int .i64 k ∧ Below w.heap.size w wr ∧ Hid (RowN wr w.heap.size tv (applyL (l.take k) t).length (applyL (l.take k) t) ∧ tv ≠ .slice none 0 0)) (fun _ i _ => l.length - (intOf i).toNat)
    case atStart => exact ⟨0, by omega, rfl, cS, HR0.out⟩
    case round =>
      obtain ⟨k, hk, rfl, hbw, HK⟩ := hrel
      by_cases hlt : k < l.length
      · obtain ⟨b, off, rfl, hb, hcell⟩ := H.out (by omega)
        obtain ⟨c0, c1, c2, c3, c4⟩ := (hcell k l[k] (by simp [hlt])).below hbw hb
        clear hcell
        have hi1 : (k : Int) < (l.length : Int) := by omega
        have hi0 : (0 : Int) ≤ (k : Int) := by omega
        obtain ⟨g2, cap2, rfl, _, _, _, _⟩ := notnil HK.out.1 HK.out.2
        have HLE := Lib.hid (apply_le (l.take k) t)
        have hle : (applyL (l.take k) t).length ≤ 1000 := by
          have h1 := HLE.out
          rw [List.length_take] at h1
          omega
        have HDO := l05Do_any _ (applyL (l.take k) t) l[k] w.heap.size wr HK.out.1 HK.out.2 (apply_sorted _ HS.out) (apply_path _ (mem_take_path HP.out k) HTP.out) (HP.out _ (List.getElem_mem hlt)) hle
        unfold R.val at HDO
        have HSN := Lib.hid (apply_snoc l t hlt)
        go_wp2_with fail
        refine HDO.mono ?_
        rintro e w2 ⟨x, rfl, hb2, hrow2, hx2⟩
        have HR2 := Lib.hid hrow2
        have HX2 := Lib.hid hx2
        clear hrow2 hx2
        go_wp2_with fail
        go_roundw
        case rel => exact ⟨k + 1, by omega, by go_num, hbw.trans (hb2.mono hbw.size), by
          show RowN _ _ _ _ _ ∧ _
          rw [HSN.out]
          exact ⟨HR2.out.down hbw.size, HX2.out⟩⟩
        case measure => simp [intOf]; omega
      · obtain rfl : k = l.length := by omega
        have HK2 := HK.out
        rw [List.take_of_length_le (Nat.le_refl _)] at HK2
        have HK3 := Lib.hid HK2
        clear HK2
        go_wp2
        go_ret
        exact ⟨_, rfl, hbw, HK3.out.1, HK3.out.2⟩

end Go.Proofs.YtcbmnihepeefaaaGreatDoor.Recs

/- Apply, Changes of the model. -/
namespace Go.Proofs.YtcbmnihepeefaaaGreatDoor.Recs
set_option maxRecDepth 100000
open Go.RowKit Paths

theorem lim_le (T : List R) : (limL T).length ≤ 24 := by
  unfold limL
  split
  · simp
  · omega
theorem app_len (l t : List R) (_h : t.length ≤ 1048576) : (appR l t).length ≤ 1048576 := by
  unfold appR
  split
  · simp
  · have := lim_le (applyL l t); omega
end Go.Proofs.YtcbmnihepeefaaaGreatDoor.Recs

/- The model's draws: a layer drawn is one. -/
namespace Go.Proofs.YtcbmnihepeefaaaGreatDoor.Draw
set_option maxRecDepth 100000
open Go.RowKit
open Paths Recs

set_option maxHeartbeats 2000000 in
theorem layer_any (w : World) (B g m : Nat) (h : Src w B g m) (hm : m + 100 ≤ 1000000) :
    Calls Tryz.prog 120 #[.pointer (some ⟨g, 0, none⟩)] w fun e w' => ∃ v l, e = .returned v ∧ layerOK l = true ∧ Went w w' B g (m + 100) ∧ RowOf w' w.heap.size v l.length l ∧ v ≠ .slice none 0 0 := by
  have hgl := h.lt
  have hb0 : Below w.heap.size w (w.alloc (.cells #[] 26)) := (Below.refl _ _).alloc (Nat.le_refl _) _
  have HO0 : Hid (layerOK [] = true ∧ RowOf (w.alloc (.cells #[] 26)) w.heap.size (.slice (some ⟨w.heap.size, 0, none⟩) 0 0) ([] : List R).length [] ∧ (Value.slice (some ⟨w.heap.size, 0, none⟩) 0 0) ≠ .slice none 0 0) := ⟨fine_ok fine_nil (by simp), ⟨rfl, World.ownsRow_lit w #[] 0 (Nat.le_refl _) (Nat.zero_le _) rfl⟩, (fun e => by cases e)⟩
  have HW0 := Lib.hid ((Went.refl h).below hb0)
  have HRM := room_any _ B g m 6 (h.below hb0) (by omega)
  clear h
  go_enter Tryz.func120, Tryz.ntmps120
  go_wp2_with fail
  generalize w.alloc (.cells #[] 26) = W1 at *
  refine HRM.mono ?_
  rintro e w2 ⟨r, hr1, hr6, rfl, rfl⟩
  have HNX := next_small W1 B g m ((r : Int) + 3) HW0.out.1 (by omega) (by omega)
  go_wp2_with fail
  refine HNX.mono ?_
  rintro e w3 ⟨N, hN, rfl, hw3⟩
  have hN9 : N ≤ 9 := by omega
  have HI0 : Hid (Went w w3 B g (m + 1) ∧ layerOK [] = true ∧ RowOf w3 w.heap.size (.slice (some ⟨w.heap.size, 0, none⟩) 0 0) ([] : List R).length [] ∧ (Value.slice (some ⟨w.heap.size, 0, none⟩) 0 0) ≠ .slice none 0 0) := ⟨HW0.out.trans hw3, HO0.out.1, row_went HO0.out.2.1 hw3 hgl, HO0.out.2.2⟩
  clear hN hw3 HO0 HW0
  go_wp2
  go_loopw [3, 4] (fun lv iv wr => ∃ (k : Nat) (l : List R), k ≤ N ∧ iv = .int .i64 k ∧ Hid (Went w wr B g (m + 1 + 7 * (N - k)) ∧ layerOK l = true ∧ RowOf wr w.heap.size lv l.length l ∧ lv ≠ .slice none 0 0)) (fun _ i _ => (intOf i).toNat)
  case atStart => exact ⟨N, [], Nat.le_refl _, rfl, by
    have h1 := HI0.out
    show Went w w3 B g (m + 1 + 7 * (N - N)) ∧ _
    rw [Nat.sub_self]
    exact h1⟩
  case round =>
    obtain ⟨k, l, hk, rfl, HI⟩ := hrel
    obtain ⟨lA, lcap, rfl⟩ := HI.out.2.2.1.form
    have hl16 := layer_len HI.out.2.1
    by_cases h0 : 0 < k
    · have hd : decide ((0 : Int) < (k : Int)) = true := by simp; omega
      have HPT := path_any wr B g _ HI.out.1.1 (by omega)
      go_wp2_with fail
      refine HPT.mono ?_
      rintro e w4 ⟨q, hq, rfl, hw4⟩
      have HW4 := Lib.hid hw4
      have HP := Lib.hid (show pathB (⟨q.toArray⟩ : ByteArray).data.toList = true by simpa using hq)
      clear hw4 hq
      rw [strV_eq2]
      have HRC := record_any w4 B g _ ⟨q.toArray⟩ HP.out HW4.out.1 (by omega)
      go_wp2_with fail
      refine HRC.mono ?_
      rintro e w5 ⟨rk, rm, rb, ro, hf, _, rfl, hw5⟩
      have HW5 := Lib.hid (HI.out.1.trans (HW4.out.trans hw5))
      have HR5 := Lib.hid (row_went (row_went HI.out.2.2.1 HW4.out hgl) hw5 hgl)
      have HF := Lib.hid (fault_i hf)
      have HPU := l03Put_any 4 _ l ⟨rk, rm, ⟨q.toArray⟩, rb, ro⟩ w5 HR5.out.sl (layer_lays HI.out.2.1) HF.out (pathB_parts HP.out).1 (by omega)
      unfold R.val at HPU
      clear hw5 hf
      go_wp2_with fail
      refine HPU.mono ?_
      rintro e w6 ⟨x, rfl, hb6, hrow6, hx6⟩
      obtain ⟨xA, xcap, rfl⟩ := hrow6.form
      have HX6 := Lib.hid hx6
      have HR6 := Lib.hid hrow6
      have h5l : w.heap.size ≤ w5.heap.size := HW5.out.2.size
      have HW6 : Hid (Went w w6 B g (m + 1 + 7 * (N - (k - 1)))) := (HW5.out.below hb6).more (by omega) (by omega)
      clear hrow6 hx6
      have hk1 : ((k - 1 : Nat) : Int) = (k : Int) - 1 := by omega
      by_cases h16 : (lputF 4 l ⟨rk, rm, ⟨q.toArray⟩, rb, ro⟩).length ≤ 16
      · have hd2 : decide (((lputF 4 l ⟨rk, rm, ⟨q.toArray⟩, rb, ro⟩).length : Int) ≤ 16) = true := by simp; omega
        have HOK : Hid (layerOK (lputF 4 l ⟨rk, rm, ⟨q.toArray⟩, rb, ro⟩) = true) := lput_layer HI.out.2.1 HF.out h16
        clear h16
        go_wp2_with fail
        go_roundw
        case rel => exact ⟨k - 1, _, by omega, by rw [hk1], HW6.out, HOK.out, ⟨HR6.out.1, own_down HR6.out.2 h5l⟩, HX6.out⟩
        case measure => simp [intOf]; omega
      · have hd2 : decide (((lputF 4 l ⟨rk, rm, ⟨q.toArray⟩, rb, ro⟩).length : Int) ≤ 16) = false := by simp; omega
        have HRL := Lib.hid (HR5.out.below hb6)
        clear h16
        go_wp2_with fail
        go_roundw
        case rel => exact ⟨k - 1, l, by omega, by rw [hk1], HW6.out, HI.out.2.1, HRL.out, HI.out.2.2.2⟩
        case measure => simp [intOf]; omega
    · have hd : decide ((0 : Int) < (k : Int)) = false := by simp; omega
      go_wp2_with fail
      go_ret
      exact ⟨_, l, rfl, HI.out.2.1, HI.out.1.more (by omega) (by omega), HI.out.2.2.1, HI.out.2.2.2⟩

set_option maxHeartbeats 400000 in
theorem layerDrawn_any (w : World) (A : Option Addr) (n cap : Nat) (hB : Byts w w.heap.size A n) (hn : n ≤ cap) :
    Calls Tryz.prog 32 #[.slice A n cap] w fun e w' => ∃ v l, e = .returned v ∧ layerOK l = true ∧ Below w.heap.size w w' ∧ RowOf w' w.heap.size v l.length l ∧ v ≠ .slice none 0 0 := by
  have HB := Lib.hid hB
  clear hB
  go_enter Tryz.func32, Tryz.ntmps32
  go_wp2_with fail
  refine (source_any w A n cap HB.out hn).mono ?_
  rintro e w1 ⟨rfl, hs1, hb1⟩
  have HS1 := Lib.hid hs1
  clear hs1
  go_wp2_with fail
  refine (layer_any w1 w.heap.size w.heap.size 0 HS1.out (by omega)).mono ?_
  rintro e w2 ⟨v, l, rfl, hok, hw2, hrow, hv⟩
  have HL := Lib.hid hok
  have HB2 := Lib.hid (hb1.trans (hw2.belowB hb1.size))
  have HR := Lib.hid hrow
  have HV := Lib.hid hv
  have hz := hb1.size
  clear hok hw2 hrow hv
  go_wp2_with fail
  go_ret
  exact ⟨v, l, rfl, HL.out, HB2.out, ⟨HR.out.1, own_down HR.out.2 hz⟩, HV.out⟩
end Go.Proofs.YtcbmnihepeefaaaGreatDoor.Draw
