/- Parts of several texts of mine in one file (each begins with its own remark). -/
import Derived.Test.YtciflchaepchiabGreatDoorUA1
import Derived.Test.YtciflchaepchiabGreatDoorUA10
import Derived.Test.YtciflchaepchiabGreatDoorUA11
import Derived.Test.YtciflchaepchiabGreatDoorUA12
import Derived.Test.YtciflchaepchiabGreatDoorUA14
import Derived.Test.YtciflchaepchiabGreatDoorUA15
import Derived.Test.YtciflchaepchiabGreatDoorUA16
import Derived.Test.YtciflchaepchiabGreatDoorUA17
import Derived.Test.YtciflchaepchiabGreatDoorUA19
import Derived.Test.YtciflchaepchiabGreatDoorUA2
import Derived.Test.YtciflchaepchiabGreatDoorUA24
import Derived.Test.YtciflchaepchiabGreatDoorUA25
import Derived.Test.YtciflchaepchiabGreatDoorUA3
import Derived.Test.YtciflchaepchiabGreatDoorUA4
import Derived.Test.YtciflchaepchiabGreatDoorUA5
import Derived.Test.YtciflchaepchiabGreatDoorUA6
import Derived.Test.YtciflchaepchiabGreatDoorUA7
import Derived.Test.YtciflchaepchiabGreatDoorUA8
import Derived.Test.YtciflchaepchiabGreatDoorChecked
import Derived.Test.YtciflchaepchiabGreatDoorShelf
import Derived.Test.YtciflchaepchiabGreatDoorProg
import Derived.Test.YtciflchaepchiabGreatDoorRows
import Derived.Deep.RegionHeld3
import Derived.Laws.IdiomRangeMap
import Derived.StillTailTactics
import Derived.Maps.RangeWalk
import Derived.Maps.Ext
import Derived.Lib.SlMapFilter
import Derived.Laws.OwnMore
import Derived.BigQuiet
import Derived.BigRegion
import Derived.Deep.QuietTactic
import Derived.Deep.Slices
import Derived.OpenShut
import Derived.ShutString
import Derived.ChangeArms
import Derived.WideShapes
import Derived.Lib.LaidTab
import Derived.Deep.Draws
import Derived.Deep.LoopGhost
import Derived.WalkKit
import Derived.WalkSpells
import Derived.WalkSmall
import Derived.Lib.OthersKept
import Derived.Lib.Hide
import Derived.Lib.Strings
import Derived.Lib.Join
import Derived.Laws.BytesArg
import Derived.WalkLawsBesides
import Derived.Deep.RegionWith
import Derived.Stop.LaidErr
import Derived.LaidEql
import Derived.Stop.Asserts
import Derived.Below
import Derived.Stop.LaidTwo
import Derived.OneCell
import Derived.Lib.SliceRun
import Derived.Lib.Overlaps
import Derived.Lib.AppendZerosOnto
import Derived.Laws.NewBlocks
import Derived.Laws.IdiomCopy
import Derived.Deep.RegionLaw
import Derived.ChangeVars
import Derived.Deep.DeepHandedRow
import Derived.Deep.AppendLies
import Derived.Laws.EntriesVeiled
/- The program's map of paths: a layer applied to it. -/
namespace Go.Proofs.YtciflchaepchiabGreatDoor.Recs
set_option maxRecDepth 100000
open Go.RowKit Paths

theorem MapT.nocell {w : World} {b n : Nat} {t : List R} (h : MapT w b n t) (off : Nat) : w.cell? ⟨b, off, none⟩ = none := by
  obtain ⟨⟨_, ⟨es, clock, hb, _⟩, _⟩, _⟩ := h
  simp [World.cell?, hb]
theorem cell_turned {w w' : World} {b n : Nat} {t : List R} (hg : w.grownBy w' (some b)) (hm : MapT w b n t) {g off : Nat} {u : Value} (h : w.cell? ⟨g, off, none⟩ = some u) : w'.cell? ⟨g, off, none⟩ = some u :=
  hg.cell h (fun e => by cases e; rw [hm.nocell] at h; cases h)
theorem RecSl.turned {w w' : World} {v : Value} {L : List R} {b n : Nat} {t : List R} (h : RecSl w v L) (hg : w.grownBy w' (some b)) (hm : MapT w b n t) : RecSl w' v L := by
  obtain ⟨A, cap, rfl, hc, h⟩ := h
  refine ⟨A, cap, rfl, hc, fun hn => ?_⟩
  obtain ⟨g, off, rfl, hlt, hcell⟩ := h hn
  refine ⟨g, off, rfl, Nat.lt_of_lt_of_le hlt hg.size, fun i r hi => ?_⟩
  obtain ⟨h0, h1, h2, h3, h4⟩ := hcell i r hi
  exact ⟨cell_turned hg hm h0, cell_turned hg hm h1, cell_turned hg hm h2, cell_turned hg hm h3, cell_turned hg hm h4⟩
theorem box_cells (w : World) (r : R) (t : TypeId) : RecCells (w.alloc (.cells #[.int .i64 r.k, .string r.p, .string r.b, .int .i64 r.m, .bool r.o] t)) w.heap.size 0 r := by
  have h := rec_cells_new w r t
  exact ⟨h 0 _ rfl, h 1 _ rfl, h 2 _ rfl, h 3 _ rfl, h 4 _ rfl⟩
theorem RecCells.turned {w w' : World} {g off b n : Nat} {r : R} {t : List R} (h : RecCells w g off r) (hg : w.grownBy w' (some b)) (hm : MapT w b n t) : RecCells w' g off r := by
  obtain ⟨h0, h1, h2, h3, h4⟩ := h
  exact ⟨cell_turned hg hm h0, cell_turned hg hm h1, cell_turned hg hm h2, cell_turned hg hm h3, cell_turned hg hm h4⟩
theorem RecCells.grown {w w' : World} {g off b : Nat} {r : R} (h : RecCells w g off r) (hg : w.grownBy w' (some b)) (hne : g ≠ b) : RecCells w' g off r := by
  obtain ⟨h0, h1, h2, h3, h4⟩ := h
  have hn : ∀ o : Nat, some (⟨g, o, none⟩ : Addr).block ≠ some b := fun o e => hne (by cases e; rfl)
  exact ⟨hg.cell h0 (hn _), hg.cell h1 (hn _), hg.cell h2 (hn _), hg.cell h3 (hn _), hg.cell h4 (hn _)⟩
theorem step_white {t : List R} {r : R} (h : r.k = 4) : stepR t r = (t.filter fun x => !isBelowB x.p r.p).filter fun x => decide (x.p ≠ r.p) := by
  have hs : stops r = true := by unfold stops; simp [h]
  unfold stepR sweepR
  rw [if_pos h, if_pos hs]
theorem step_stops {t : List R} {r : R} (h : r.k ≠ 4) (hs : stops r = true) : stepR t r = nodeOf r :: (t.filter fun x => !isBelowB x.p r.p).filter fun x => decide (x.p ≠ r.p) := by
  unfold stepR sweepR
  rw [if_neg h, if_pos hs]
theorem step_goes {t : List R} {r : R} (h : r.k ≠ 4) (hs : stops r = false) : stepR t r = nodeOf r :: t.filter fun x => decide (x.p ≠ r.p) := by
  unfold stepR sweepR
  rw [if_neg h, if_neg (by rw [hs]; decide)]

set_option maxHeartbeats 4000000 in
theorem mapApply_any (b n : Nat) (t : List R) (v : Value) (l : List R) (w : World) (hM : MapT w b n t) (h : RecSl w v l) (hl : n + l.length ≤ 100000) (hL : IsLayer l) (hT : IsTree t) :
    Calls Tryz.prog 150 #[.map (some b), v] w fun e w' => e = .returned (.tuple #[]) ∧ w.grownBy w' (some b) ∧ MapT w' b (n + l.length) (applyL l t) := by
  obtain ⟨sA, cap, rfl, hcap, hcells⟩ := h
  have H := Lib.hid hcells
  have HL := Lib.hid hL
  have HTR := Lib.hid hT
  have HM := Lib.hid hM
  clear hcells hL hT hM
  go_enter Tryz.func150, Tryz.ntmps150
  go_wp2
  go_loopw [8] (fun i wr => ∃ k : Nat, k ≤ l.length ∧ i = .int .i64 k ∧ w.grownBy wr (some b) ∧ Hid (MapT wr b (n + k) (applyL (l.take k) t))) (fun i _ => l.length - (intOf i).toNat)
  case atStart => exact ⟨0, by omega, rfl, ⟨rfl, rfl, rfl, Nat.le_refl _, fun _ _ _ => rfl⟩, HM.out⟩
  case round =>
    obtain ⟨k, hk, rfl, hgw, HK⟩ := hrel
    by_cases hlt : k < l.length
    · obtain ⟨g, off, rfl, hb, hcell⟩ := H.out (by omega)
      obtain ⟨c0, c1, c2, c3, c4⟩ := (hcell k l[k] (by simp [hlt])).turned hgw HM.out
      clear hcell
      have hi1 : (k : Int) < (l.length : Int) := by omega
      have hi0 : (0 : Int) ≤ (k : Int) := by omega
      have hpath := HL.out.path _ (List.getElem_mem hlt)
      have hsz : l[k].p.size ≤ maxLen := by
        have h35 : l[k].p.size ≤ 35 := by rw [Lib.size_eq]; exact pathB_len hpath
        unfold maxLen
        omega
      have HIT := Lib.hid (apply_tree (layer_take HL.out k) HTR.out)
      have HST : Hid (∀ x, x ∈ applyL (l.take (k + 1)) t ↔ x ∈ stepR (applyL (l.take k) t) l[k]) := fun x => by
        rw [apply_snoc l t hlt]
        exact (mem_step HIT.out hpath).symm
      have HPA := Lib.hid hpath
      clear hpath
      have hkey := WideMaps.keyOf_string_mk (P := Tryz.prog) Tryz.underlying9 hsz
      have hval := readN_nod l[k]
      have HNO := fun W => nodeOfRecord_any l[k] W
      unfold R.val R.nod at HNO
      unfold R.nod at hval
      have bc := box_cells wr l[k] 53
      have hM1 := HK.out.below ((Below.refl wr.heap.size wr).alloc (Nat.le_refl _) (.cells #[.int .i64 l[k].k, .string l[k].p, .string l[k].b, .int .i64 l[k].m, .bool l[k].o] 53))
      have hg1 : wr.grownBy (wr.alloc (.cells #[.int .i64 l[k].k, .string l[k].p, .string l[k].b, .int .i64 l[k].m, .bool l[k].o] 53)) none := World.grownBy_alloc _ _ _
      have hgw1 := hgw.andThen hg1 (fun j hj => by cases hj)
      have HSW := removeBelow_any b (n + k) _ l[k].p _ hM1 hsz
      generalize hrk : l[k] = r at *
      generalize hTT : applyL (l.take k) t = T at *
      have HM1 := Lib.hid hM1
      clear hM1 hrk hTT hg1
      have hbl := HK.out.lt
      obtain ⟨rk, rm, rp, rb, ro⟩ := r
      dsimp only at *
      by_cases h4 : rk = 4
      · have q3 : (rk != 3) = true := by simp [h4]
        have q4 : (rk == 4) = true := by simp [h4]
        have HQ : Hid (rk = 4) := h4
        clear h4
        go_wp2_with fail
        refine HSW.mono ?_
        rintro e w2 ⟨rfl, hg2, hM2⟩
        obtain ⟨d0, d1, d2, d3, d4⟩ := bc.turned hg2 HM1.out
        have hgw2 := hgw1.andThen hg2 (fun j hj => by cases hj; exact Or.inr rfl)
        clear bc
        obtain ⟨⟨es, hown, hes⟩, hMo⟩ := hM2
        have HES := Lib.hid hes
        have HMO := Lib.hid hMo
        clear hes hMo
        go_wp2_with (first
          | (at_delete; refine wpList_delete_own _ rfl _ _ 169 9 rfl 84 keyed Tryz.underlying169 readN b (n + k) _ rfl hown _ _ rfl hkey ?_; intro w3 hown3 hturn3; go_frame)
          | go_in)
        go_roundw
        case rel => exact ⟨k + 1, by omega, by go_num, hgw2.andThen hturn3.grown (fun j hj => by cases hj; exact Or.inr rfl), by
          show MapT w3 b (n + (k + 1)) _
          refine MapT.congr ?_ HST.out
          rw [step_white (r := ⟨rk, rm, rp, rb, ro⟩) HQ.out]
          exact (MapT.del HES.out HMO.out hown3).mono (by omega)⟩
        case measure => simp [intOf]; omega
      have q4 : (rk == 4) = false := by simp [h4]
      have HQ : Hid (rk ≠ 4) := h4
      clear h4
      by_cases h3 : rk = 3
      · have q3 : (rk != 3) = false := by simp [h3]
        cases ro with
        | true =>
          have HS : Hid (stops ⟨rk, rm, rp, rb, true⟩ = true) := (by show stops _ = true; unfold stops; simp)
          clear h3
          go_wp2_with fail
          refine HSW.mono ?_
          rintro e w2 ⟨rfl, hg2, hM2⟩
          obtain ⟨d0, d1, d2, d3, d4⟩ := bc.turned hg2 HM1.out
          have hgw2 := hgw1.andThen hg2 (fun j hj => by cases hj; exact Or.inr rfl)
          clear bc
          obtain ⟨⟨es, hown, hes⟩, hMo⟩ := hM2
          have HES := Lib.hid hes
          have HMO := Lib.hid hMo
          clear hes hMo
          have hrc : RecCells w2.drew wr.heap.size 0 ⟨rk, rm, rp, rb, true⟩ := ⟨d0, d1, d2, d3, d4⟩
          have hbx : wr.heap.size < w2.heap.size := World.block_lt_of_cell? w2 ⟨wr.heap.size, 0, none⟩ d0
          have hgd : w.grownBy w2.drew (some b) := ⟨hgw2.os, hgw2.tape, hgw2.output, hgw2.size, hgw2.block⟩
          go_wp2_with fail
          go_region_held3 (fun w' => w'.cell? ⟨wr.heap.size, 0, none⟩ = some (.int .i64 rk) ∧ w'.cell? ⟨wr.heap.size, 1, none⟩ = some (.string rp) ∧ w'.cell? ⟨wr.heap.size, 2, none⟩ = some (.string rb) ∧ w'.cell? ⟨wr.heap.size, 3, none⟩ = some (.int .i64 rm) ∧ w'.cell? ⟨wr.heap.size, 4, none⟩ = some (.bool true)) (first | exact ⟨d0, d1, d2, d3, d4⟩ | exact hS5 | exact hS4 | go_keep) (first
            | (go_at_call 184; refine (HNO _).mono ?_; rintro e w4 ⟨rfl, hb4⟩; obtain ⟨w5, hrun5, hown5, hgrow5⟩ := (hown.drew.kept (below_grown hb4) (by simp)).update keyed Tryz.underlying169 (by unfold maxLen; omega) hkey hval; have hS4 : RecCells w4 wr.heap.size 0 ⟨rk, rm, rp, rb, true⟩ := RecCells.below hrc hb4 hbx; have hS5 := hS4.grown hgrow5 (by omega)))
          have hg4 := hgd.andThen (below_grown hb4) (fun j hj => by cases hj)
          go_wp2_with fail
          go_roundw
          case rel => exact ⟨k + 1, by omega, by go_num, hg4.andThen hgrow5 (fun j hj => by cases hj; exact Or.inr rfl), by
            show MapT w5 b (n + (k + 1)) _
            refine MapT.congr ?_ HST.out
            rw [step_stops (r := ⟨rk, rm, rp, rb, true⟩) HQ.out HS.out]
            exact MapT.put (nodeOf ⟨rk, rm, rp, rb, true⟩) HES.out HMO.out rfl hown5⟩
          case measure => simp [intOf]; omega
        | false =>
          have HS : Hid (stops ⟨rk, rm, rp, rb, false⟩ = false) := (by show stops _ = false; unfold stops; simp [h3])
          clear h3
          obtain ⟨d0, d1, d2, d3, d4⟩ := bc
          have hM2 := HM1.out
          clear HM1 HSW
          go_wp2_with fail
          generalize wr.alloc _ = w2 at *
          obtain ⟨⟨es, hown, hes⟩, hMo⟩ := hM2
          have HES := Lib.hid hes
          have HMO := Lib.hid hMo
          clear hes hMo
          have hrc : RecCells w2.drew wr.heap.size 0 ⟨rk, rm, rp, rb, false⟩ := ⟨d0, d1, d2, d3, d4⟩
          have hbx : wr.heap.size < w2.heap.size := World.block_lt_of_cell? w2 ⟨wr.heap.size, 0, none⟩ d0
          have hgd : w.grownBy w2.drew (some b) := ⟨hgw1.os, hgw1.tape, hgw1.output, hgw1.size, hgw1.block⟩
          go_wp2_with fail
          go_region_held3 (fun w' => w'.cell? ⟨wr.heap.size, 0, none⟩ = some (.int .i64 rk) ∧ w'.cell? ⟨wr.heap.size, 1, none⟩ = some (.string rp) ∧ w'.cell? ⟨wr.heap.size, 2, none⟩ = some (.string rb) ∧ w'.cell? ⟨wr.heap.size, 3, none⟩ = some (.int .i64 rm) ∧ w'.cell? ⟨wr.heap.size, 4, none⟩ = some (.bool false)) (first | exact ⟨d0, d1, d2, d3, d4⟩ | exact hS5 | exact hS4 | go_keep) (first
            | (go_at_call 184; refine (HNO _).mono ?_; rintro e w4 ⟨rfl, hb4⟩; obtain ⟨w5, hrun5, hown5, hgrow5⟩ := (hown.drew.kept (below_grown hb4) (by simp)).update keyed Tryz.underlying169 (by unfold maxLen; omega) hkey hval; have hS4 : RecCells w4 wr.heap.size 0 ⟨rk, rm, rp, rb, false⟩ := RecCells.below hrc hb4 hbx; have hS5 := hS4.grown hgrow5 (by omega)))
          have hg4 := hgd.andThen (below_grown hb4) (fun j hj => by cases hj)
          go_wp2_with fail
          go_roundw
          case rel => exact ⟨k + 1, by omega, by go_num, hg4.andThen hgrow5 (fun j hj => by cases hj; exact Or.inr rfl), by
            show MapT w5 b (n + (k + 1)) _
            refine MapT.congr ?_ HST.out
            rw [step_goes (r := ⟨rk, rm, rp, rb, false⟩) HQ.out HS.out]
            exact MapT.put (nodeOf ⟨rk, rm, rp, rb, false⟩) HES.out HMO.out rfl hown5⟩
          case measure => simp [intOf]; omega
      · have q3 : (rk != 3) = true := by simp [h3]
        have HS : Hid (stops ⟨rk, rm, rp, rb, ro⟩ = true) := (by show stops _ = true; unfold stops; simp [h3])
        clear h3
        go_wp2_with fail
        refine HSW.mono ?_
        rintro e w2 ⟨rfl, hg2, hM2⟩
        obtain ⟨d0, d1, d2, d3, d4⟩ := bc.turned hg2 HM1.out
        have hgw2 := hgw1.andThen hg2 (fun j hj => by cases hj; exact Or.inr rfl)
        clear bc
        obtain ⟨⟨es, hown, hes⟩, hMo⟩ := hM2
        have HES := Lib.hid hes
        have HMO := Lib.hid hMo
        clear hes hMo
        have hrc : RecCells w2.drew wr.heap.size 0 ⟨rk, rm, rp, rb, ro⟩ := ⟨d0, d1, d2, d3, d4⟩
        have hbx : wr.heap.size < w2.heap.size := World.block_lt_of_cell? w2 ⟨wr.heap.size, 0, none⟩ d0
        have hgd : w.grownBy w2.drew (some b) := ⟨hgw2.os, hgw2.tape, hgw2.output, hgw2.size, hgw2.block⟩
        go_wp2_with fail
        go_region_held3 (fun w' => w'.cell? ⟨wr.heap.size, 0, none⟩ = some (.int .i64 rk) ∧ w'.cell? ⟨wr.heap.size, 1, none⟩ = some (.string rp) ∧ w'.cell? ⟨wr.heap.size, 2, none⟩ = some (.string rb) ∧ w'.cell? ⟨wr.heap.size, 3, none⟩ = some (.int .i64 rm) ∧ w'.cell? ⟨wr.heap.size, 4, none⟩ = some (.bool ro)) (first | exact ⟨d0, d1, d2, d3, d4⟩ | exact hS5 | exact hS4 | go_keep) (first
          | (go_at_call 184; refine (HNO _).mono ?_; rintro e w4 ⟨rfl, hb4⟩; obtain ⟨w5, hrun5, hown5, hgrow5⟩ := (hown.drew.kept (below_grown hb4) (by simp)).update keyed Tryz.underlying169 (by unfold maxLen; omega) hkey hval; have hS4 : RecCells w4 wr.heap.size 0 ⟨rk, rm, rp, rb, ro⟩ := RecCells.below hrc hb4 hbx; have hS5 := hS4.grown hgrow5 (by omega)))
        have hg4 := hgd.andThen (below_grown hb4) (fun j hj => by cases hj)
        go_wp2_with fail
        go_roundw
        case rel => exact ⟨k + 1, by omega, by go_num, hg4.andThen hgrow5 (fun j hj => by cases hj; exact Or.inr rfl), by
          show MapT w5 b (n + (k + 1)) _
          refine MapT.congr ?_ HST.out
          rw [step_stops (r := ⟨rk, rm, rp, rb, ro⟩) HQ.out HS.out]
          exact MapT.put (nodeOf ⟨rk, rm, rp, rb, ro⟩) HES.out HMO.out rfl hown5⟩
        case measure => simp [intOf]; omega
    · obtain rfl : k = l.length := by omega
      have HK' := HK.out
      rw [List.take_of_length_le (Nat.le_refl _)] at HK'
      have HK2 := Lib.hid HK'
      clear HK' HK
      go_wp2
      go_end0
      exact ⟨rfl, hgw, HK2.out⟩
end Go.Proofs.YtciflchaepchiabGreatDoor.Recs

/- Applying layers to trees, of the model: a record, a layer, a stack. -/
namespace Go.Proofs.YtciflchaepchiabGreatDoor.Recs
set_option maxRecDepth 100000
open Go.RowKit Paths

theorem l04Node_any (r : R) (w : World) :
    Calls Tryz.prog 156 #[r.val] w fun e w' => e = .returned r.nod ∧ Below w.heap.size w w' := by
  unfold R.nod R.val
  go_enter Tryz.func156, Tryz.ntmps156
  go_wp2_with fail
  refine bodyPost_ret (v := .agg #[.int .i64 r.k, .string r.p, .string r.b, .int .i64 r.m]) (by simp [results, Tryz.results156, go_sem]) rfl ⟨rfl, ?_⟩
  exact ((Below.refl _ _).alloc (Nat.le_refl _) _).alloc (by simp) _

theorem do_white {t : List R} {r : R} (h : r.k = 4) : doR t r = withoutL t r.p true := if_pos h
theorem do_clears {t : List R} {r : R} (h : r.k ≠ 4) (hc : clears t r = true) : doR t r = putL (withoutL t r.p false) (nodeOf r) := by
  unfold doR
  rw [if_neg h, if_pos hc]
theorem do_keeps {t : List R} {r : R} (h : r.k ≠ 4) (hc : clears t r = false) : doR t r = putL t (nodeOf r) := by
  unfold doR
  rw [if_neg h, hc]
  rfl
theorem clears_stops {t : List R} {r : R} (h : stops r = true) : clears t r = true := by unfold clears; rw [h]; rfl
theorem clears_at {t : List R} {r x : R} (h : recAt t r.p = some x) (hk : x.k ≠ 3) : clears t r = true := by unfold clears; rw [h]; simp [hk]
theorem clears_no {t : List R} {r : R} (h : stops r = false) (h2 : ∀ x, recAt t r.p = some x → x.k = 3) : clears t r = false := by
  unfold clears
  rw [h]
  cases hr : recAt t r.p with
  | none => rfl
  | some x => simp [h2 x hr]
theorem without_le (t : List R) (q : ByteArray) (s : Bool) : (withoutL t q s).length ≤ t.length := List.length_filter_le _ _
theorem put_le (t : List R) (n : R) : (putL t n).length ≤ t.length + 1 := by
  unfold putL
  rw [List.length_append, List.length_cons]
  have h : ∀ l : List R, (l.filter fun x => lessR x n).length + (l.filter fun x => lessR n x).length ≤ l.length := by
    intro l
    induction l with
    | nil => simp
    | cons x l ih =>
      have hx : ¬ (lessR x n = true ∧ lessR n x = true) := fun ⟨h1, h2⟩ => by
        unfold lessR at h1 h2
        rw [lessP_asymm _ _ h1] at h2
        cases h2
      rw [List.filter_cons, List.filter_cons, List.length_cons]
      by_cases h1 : lessR x n = true
      · by_cases h2 : lessR n x = true
        · exact absurd ⟨h1, h2⟩ hx
        · rw [if_pos h1, if_neg h2, List.length_cons]; omega
      · by_cases h2 : lessR n x = true
        · rw [if_neg h1, if_pos h2, List.length_cons]; omega
        · rw [if_neg h1, if_neg h2]; omega
  have := h t
  omega
theorem do_le (t : List R) (r : R) : (doR t r).length ≤ t.length + 1 := by
  unfold doR
  split
  · exact Nat.le_succ_of_le (without_le _ _ _)
  · split
    · exact Nat.le_trans (put_le _ _) (Nat.succ_le_succ (without_le _ _ _))
    · exact put_le _ _
theorem do_path {t : List R} {r : R} (ht : ∀ x ∈ t, pathB x.p.data.toList = true) (hr : pathB r.p.data.toList = true) : ∀ x ∈ doR t r, pathB x.p.data.toList = true := by
  intro x hx
  rcases mem_do.1 hx with ⟨_, rfl⟩ | ⟨h1, _⟩
  · exact hr
  · exact ht x h1
theorem path_35 {r : R} (h : pathB r.p.data.toList = true) : r.p.size ≤ 35 := by rw [Lib.size_eq]; exact pathB_len h

set_option maxHeartbeats 4000000 in
theorem l05Do_any (v : Value) (t : List R) (r : R) (base : Nat) (w : World) (h : RowN w base v t.length t) (hv : v ≠ .slice none 0 0) (hs : Sorted t) (hp : ∀ x ∈ t, pathB x.p.data.toList = true) (hr : pathB r.p.data.toList = true) (hl : t.length ≤ 1000) :
    Calls Tryz.prog 119 #[v, r.val] w fun e w' => ∃ x, e = .returned x ∧ Below w.heap.size w w' ∧ RowN w' w.heap.size x (doR t r).length (doR t r) ∧ x ≠ .slice none 0 0 := by
  have hb0 : Below w.heap.size w (w.alloc (.cells #[.int .i64 r.k, .string r.p, .string r.b, .int .i64 r.m, .bool r.o] 53)) := (Below.refl _ _).alloc (Nat.le_refl _) _
  have bc := box_cells w r 53
  have hsl := (h.below hb0).sl
  have HAT := l04At_any v t r.p (w.alloc (.cells #[.int .i64 r.k, .string r.p, .string r.b, .int .i64 r.m, .bool r.o] 53)) hsl (by omega)
  have HW := fun s => l04Without_any v t r.p s (w.alloc (.cells #[.int .i64 r.k, .string r.p, .string r.b, .int .i64 r.m, .bool r.o] 53)) hsl hl hp hr
  have HPUT : ∀ (u : Value) (L : List R) (b : Nat) (W : World), RowN W b u L.length L → u ≠ .slice none 0 0 → Sorted L → (∀ x ∈ L, pathB x.p.data.toList = true) → L.length ≤ 1000 →
      Calls Tryz.prog 166 #[u, r.nod] W fun e w' => ∃ x, e = .returned x ∧ Below W.heap.size W w' ∧ RowN w' W.heap.size x (putL L (nodeOf r)).length (putL L (nodeOf r)) ∧ x ≠ .slice none 0 0 :=
    fun u L b W h1 h2 h3 h4 h5 => l04Put_any u L (nodeOf r) b W h1 h2 h3 (fun x hx => path_35 (h4 x hx)) (path_35 hr) rfl h5
  have HNO := fun W => l04Node_any r W
  have hcl : ∀ x, (recAt t r.p = some x → x.k ≠ 3 → clears t r = true) := fun x h1 h2 => clears_at h1 h2
  have HRA := Lib.hid (atL_recAt t r.p)
  have HH := Lib.hid (h.below hb0)
  have HV := Lib.hid hv
  have HS := Lib.hid hs
  have HPP := Lib.hid hp
  have HRR := Lib.hid hr
  obtain ⟨g, cap, rfl, hcap, hcm, hgb, hgl⟩ := notnil h hv
  have HCE : Hid (∀ i (hi : i < t.length), NodCells (w.alloc (.cells #[.int .i64 r.k, .string r.p, .string r.b, .int .i64 r.m, .bool r.o] 53)) g (i * 4) t[i]) := fun i hi => (h.below hb0).cells hi
  clear h hv hs hp hr hsl hcl
  obtain ⟨rk, rm, rp, rb, ro⟩ := r
  unfold R.val
  unfold R.nod at HPUT HNO
  unfold R.val at HNO
  dsimp only at *
  generalize hW0 : w.alloc (.cells #[.int .i64 rk, .string rp, .string rb, .int .i64 rm, .bool ro] 53) = W0 at *
  have HB0 := Lib.hid hb0
  have HW0 := Lib.hid hW0
  clear hb0
  by_cases h4 : rk = 4
  · have q4 : (rk == 4) = true := by simp [h4]
    have HD : Hid (doR t ⟨rk, rm, rp, rb, ro⟩ = withoutL t rp true) := do_white h4
    have HWT := HW true
    clear HW HPUT HNO h4
    obtain ⟨d0, d1, d2, d3, d4⟩ := bc
    go_enter Tryz.func119, Tryz.ntmps119
    go_wp2_with fail
    refine HAT.mono ?_
    rintro e w' ⟨rfl, rfl⟩
    go_wp2_with fail
    refine HWT.mono ?_
    rintro e w2 ⟨x, rfl, hb2, hrow2, hx2⟩
    have HR2 := Lib.hid hrow2
    have HX2 := Lib.hid hx2
    clear hrow2 hx2
    go_wp2_with fail
    go_ret
    refine ⟨x, rfl, HB0.out.trans (hb2.mono HB0.out.size), ?_, HX2.out⟩
    rw [HD.out]
    exact ⟨HR2.out.1, own_down HR2.out.2.1 HB0.out.size, HR2.out.2.2⟩
  have q4 : (rk == 4) = false := by simp [h4]
  have HN4 := Lib.hid h4
  clear h4
  by_cases h3 : rk = 3
  · have q3 : (rk != 3) = false := by simp [h3]
    cases ro with
    | true =>
      have HD : Hid (doR t ⟨rk, rm, rp, rb, true⟩ = putL (withoutL t rp false) (nodeOf ⟨rk, rm, rp, rb, true⟩)) := do_clears HN4.out (clears_stops (by unfold stops; simp))
      have HWF := HW false
      clear HW h3
      obtain ⟨d0, d1, d2, d3, d4⟩ := bc
      go_enter Tryz.func119, Tryz.ntmps119
      go_wp2_with fail
      refine HAT.mono ?_
      rintro e w' ⟨rfl, rfl⟩
      go_wp2_with fail
      refine HWF.mono ?_
      rintro e w2 ⟨x2, rfl, hb2, hrow2, hx2⟩
      have bc2 : RecCells w2 w.heap.size 0 ⟨rk, rm, rp, rb, true⟩ := RecCells.below ⟨d0, d1, d2, d3, d4⟩ hb2 (by rw [← HW0.out]; simp)
      clear d0 d1 d2 d3 d4
      obtain ⟨d0, d1, d2, d3, d4⟩ := bc2
      obtain ⟨g2, cap2, rfl, _, _, _, _⟩ := notnil hrow2 hx2
      have HR2 := Lib.hid hrow2
      have HX2 := Lib.hid hx2
      clear hrow2 hx2
      have hall2 := HB0.out.trans (hb2.mono HB0.out.size)
      go_wp2_with fail
      refine (HNO _).mono ?_
      rintro e w3 ⟨rfl, hb3⟩
      have hall := hall2.trans (hb3.mono hall2.size)
      have HPC := HPUT _ (withoutL t rp false) W0.heap.size w3 (HR2.out.below hb3) HX2.out (without_sorted HS.out _ _) (fun x hx => HPP.out x (mem_without.1 hx).1) (Nat.le_trans (without_le _ _ _) hl)
      go_wp2_with fail
      refine HPC.mono ?_
      rintro e w9 ⟨x, rfl, hb9, hrow9, hx9⟩
      have HR9 := Lib.hid hrow9
      have HX9 := Lib.hid hx9
      clear hrow9 hx9
      go_wp2_with fail
      go_ret
      refine ⟨x, rfl, hall.trans (hb9.mono hall.size), ?_, HX9.out⟩
      rw [HD.out]
      exact ⟨HR9.out.1, own_down HR9.out.2.1 hall.size, HR9.out.2.2⟩
    | false =>
      have HST : Hid (stops ⟨rk, rm, rp, rb, false⟩ = false) := (by show stops _ = false; unfold stops; simp [h3])
      clear h3
      rcases HRA.out with ⟨ha, hn⟩ | ⟨i, hi, ha, hn⟩
      · have HD : Hid (doR t ⟨rk, rm, rp, rb, false⟩ = putL t (nodeOf ⟨rk, rm, rp, rb, false⟩)) := do_keeps HN4.out (clears_no HST.out (fun x hx => by rw [hn] at hx; cases hx))
        rw [ha] at HAT
        clear ha hn HRA HW
        obtain ⟨d0, d1, d2, d3, d4⟩ := bc
        go_enter Tryz.func119, Tryz.ntmps119
        go_wp2_with fail
        refine HAT.mono ?_
        rintro e w' ⟨rfl, rfl⟩
        go_wp2_with fail
        refine (HNO _).mono ?_
        rintro e w3 ⟨rfl, hb3⟩
        have hall := HB0.out.trans (hb3.mono HB0.out.size)
        have HPC := HPUT _ t base w3 (HH.out.below hb3) HV.out HS.out HPP.out hl
        go_wp2_with fail
        refine HPC.mono ?_
        rintro e w9 ⟨x, rfl, hb9, hrow9, hx9⟩
        have HR9 := Lib.hid hrow9
        have HX9 := Lib.hid hx9
        clear hrow9 hx9
        go_wp2_with fail
        go_ret
        refine ⟨x, rfl, hall.trans (hb9.mono hall.size), ?_, HX9.out⟩
        rw [HD.out]
        exact ⟨HR9.out.1, own_down HR9.out.2.1 hall.size, HR9.out.2.2⟩
      · rw [ha] at HAT
        obtain ⟨n0, n1, n2, n3⟩ := HCE.out i hi
        have hi0 : (0 : Int) ≤ (i : Int) := by omega
        have hd0 : decide ((0 : Int) ≤ (i : Int)) = true := by simp
        have hi1 : (i : Int) < (t.length : Int) := by omega
        clear ha HRA
        by_cases hk : t[i].k = 3
        · have HD : Hid (doR t ⟨rk, rm, rp, rb, false⟩ = putL t (nodeOf ⟨rk, rm, rp, rb, false⟩)) := do_keeps HN4.out (clears_no HST.out (fun x hx => by rw [hn] at hx; cases hx; exact hk))
          have qk : (t[i].k != 3) = false := by simp [hk]
          clear hn hk HW
          obtain ⟨d0, d1, d2, d3, d4⟩ := bc
          go_enter Tryz.func119, Tryz.ntmps119
          go_wp2_with fail
          refine HAT.mono ?_
          rintro e w' ⟨rfl, rfl⟩
          go_wp2_with fail
          refine (HNO _).mono ?_
          rintro e w3 ⟨rfl, hb3⟩
          have hall := HB0.out.trans (hb3.mono HB0.out.size)
          have HPC := HPUT _ t base w3 (HH.out.below hb3) HV.out HS.out HPP.out hl
          go_wp2_with fail
          refine HPC.mono ?_
          rintro e w9 ⟨x, rfl, hb9, hrow9, hx9⟩
          have HR9 := Lib.hid hrow9
          have HX9 := Lib.hid hx9
          clear hrow9 hx9
          go_wp2_with fail
          go_ret
          refine ⟨x, rfl, hall.trans (hb9.mono hall.size), ?_, HX9.out⟩
          rw [HD.out]
          exact ⟨HR9.out.1, own_down HR9.out.2.1 hall.size, HR9.out.2.2⟩
        · have HD : Hid (doR t ⟨rk, rm, rp, rb, false⟩ = putL (withoutL t rp false) (nodeOf ⟨rk, rm, rp, rb, false⟩)) := do_clears HN4.out (clears_at hn hk)
          have qk : (t[i].k != 3) = true := by simp [hk]
          have HWF := HW false
          clear hn hk HW
          obtain ⟨d0, d1, d2, d3, d4⟩ := bc
          go_enter Tryz.func119, Tryz.ntmps119
          go_wp2_with fail
          refine HAT.mono ?_
          rintro e w' ⟨rfl, rfl⟩
          go_wp2_with fail
          refine HWF.mono ?_
          rintro e w2 ⟨x2, rfl, hb2, hrow2, hx2⟩
          have bc2 : RecCells w2 w.heap.size 0 ⟨rk, rm, rp, rb, false⟩ := RecCells.below ⟨d0, d1, d2, d3, d4⟩ hb2 (by rw [← HW0.out]; simp)
          clear d0 d1 d2 d3 d4
          obtain ⟨d0, d1, d2, d3, d4⟩ := bc2
          obtain ⟨g2, cap2, rfl, _, _, _, _⟩ := notnil hrow2 hx2
          have HR2 := Lib.hid hrow2
          have HX2 := Lib.hid hx2
          clear hrow2 hx2
          have hall2 := HB0.out.trans (hb2.mono HB0.out.size)
          go_wp2_with fail
          refine (HNO _).mono ?_
          rintro e w3 ⟨rfl, hb3⟩
          have hall := hall2.trans (hb3.mono hall2.size)
          have HPC := HPUT _ (withoutL t rp false) W0.heap.size w3 (HR2.out.below hb3) HX2.out (without_sorted HS.out _ _) (fun x hx => HPP.out x (mem_without.1 hx).1) (Nat.le_trans (without_le _ _ _) hl)
          go_wp2_with fail
          refine HPC.mono ?_
          rintro e w9 ⟨x, rfl, hb9, hrow9, hx9⟩
          have HR9 := Lib.hid hrow9
          have HX9 := Lib.hid hx9
          clear hrow9 hx9
          go_wp2_with fail
          go_ret
          refine ⟨x, rfl, hall.trans (hb9.mono hall.size), ?_, HX9.out⟩
          rw [HD.out]
          exact ⟨HR9.out.1, own_down HR9.out.2.1 hall.size, HR9.out.2.2⟩
  · have q3 : (rk != 3) = true := by simp [h3]
    have HD : Hid (doR t ⟨rk, rm, rp, rb, ro⟩ = putL (withoutL t rp false) (nodeOf ⟨rk, rm, rp, rb, ro⟩)) := do_clears HN4.out (clears_stops (by unfold stops; simp [h3]))
    have HWF := HW false
    clear HW h3
    obtain ⟨d0, d1, d2, d3, d4⟩ := bc
    go_enter Tryz.func119, Tryz.ntmps119
    go_wp2_with fail
    refine HAT.mono ?_
    rintro e w' ⟨rfl, rfl⟩
    go_wp2_with fail
    refine HWF.mono ?_
    rintro e w2 ⟨x2, rfl, hb2, hrow2, hx2⟩
    have bc2 : RecCells w2 w.heap.size 0 ⟨rk, rm, rp, rb, ro⟩ := RecCells.below ⟨d0, d1, d2, d3, d4⟩ hb2 (by rw [← HW0.out]; simp)
    clear d0 d1 d2 d3 d4
    obtain ⟨d0, d1, d2, d3, d4⟩ := bc2
    obtain ⟨g2, cap2, rfl, _, _, _, _⟩ := notnil hrow2 hx2
    have HR2 := Lib.hid hrow2
    have HX2 := Lib.hid hx2
    clear hrow2 hx2
    have hall2 := HB0.out.trans (hb2.mono HB0.out.size)
    go_wp2_with fail
    refine (HNO _).mono ?_
    rintro e w3 ⟨rfl, hb3⟩
    have hall := hall2.trans (hb3.mono hall2.size)
    have HPC := HPUT _ (withoutL t rp false) W0.heap.size w3 (HR2.out.below hb3) HX2.out (without_sorted HS.out _ _) (fun x hx => HPP.out x (mem_without.1 hx).1) (Nat.le_trans (without_le _ _ _) hl)
    go_wp2_with fail
    refine HPC.mono ?_
    rintro e w9 ⟨x, rfl, hb9, hrow9, hx9⟩
    have HR9 := Lib.hid hrow9
    have HX9 := Lib.hid hx9
    clear hrow9 hx9
    go_wp2_with fail
    go_ret
    refine ⟨x, rfl, hall.trans (hb9.mono hall.size), ?_, HX9.out⟩
    rw [HD.out]
    exact ⟨HR9.out.1, own_down HR9.out.2.1 hall.size, HR9.out.2.2⟩
end Go.Proofs.YtciflchaepchiabGreatDoor.Recs

/- The model's draws: a record put into a layer. -/
namespace Go.Proofs.YtciflchaepchiabGreatDoor.Recs
set_option maxRecDepth 100000
open Go.RowKit Paths

theorem homed_root {l : List R} {q : ByteArray} (h : parentL q.data.toList = []) : homed l q = true := by unfold homed; rw [decide_eq_true h]; rfl
theorem homed_at {l : List R} {q : ByteArray} {x : R} (h : recAt l (parO q) = some x) (hk : x.k = 3) : homed l q = true := by unfold homed; rw [h]; simp [hk]
theorem homed_none {l : List R} {q : ByteArray} (hp : parentL q.data.toList ≠ []) (h : recAt l (parO q) = none) : homed l q = false := by unfold homed; rw [h, decide_eq_false hp]; rfl
theorem homed_no {l : List R} {q : ByteArray} {x : R} (hp : parentL q.data.toList ≠ []) (h : recAt l (parO q) = some x) (hk : x.k ≠ 3) : homed l q = false := by unfold homed; rw [h, decide_eq_false hp]; simp [hk]

end Go.Proofs.YtciflchaepchiabGreatDoor.Recs
