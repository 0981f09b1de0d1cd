/- Parts of several texts of mine in one file (each begins with its own remark). -/
import Derived.Test.YtibekkfbpmloiabGreatDoorGA10
import Derived.Test.YtibekkfbpmloiabGreatDoorGA11
import Derived.Test.YtibekkfbpmloiabGreatDoorGA12
import Derived.Test.YtibekkfbpmloiabGreatDoorGA14
import Derived.Test.YtibekkfbpmloiabGreatDoorGA15
import Derived.Test.YtibekkfbpmloiabGreatDoorGA16
import Derived.Test.YtibekkfbpmloiabGreatDoorGA18
import Derived.Test.YtibekkfbpmloiabGreatDoorGA19
import Derived.Test.YtibekkfbpmloiabGreatDoorGA2
import Derived.Test.YtibekkfbpmloiabGreatDoorGA20
import Derived.Test.YtibekkfbpmloiabGreatDoorGA22
import Derived.Test.YtibekkfbpmloiabGreatDoorGA23
import Derived.Test.YtibekkfbpmloiabGreatDoorGA24
import Derived.Test.YtibekkfbpmloiabGreatDoorGA25
import Derived.Test.YtibekkfbpmloiabGreatDoorGA26
import Derived.Test.YtibekkfbpmloiabGreatDoorGA3
import Derived.Test.YtibekkfbpmloiabGreatDoorGA4
import Derived.Test.YtibekkfbpmloiabGreatDoorGA7
import Derived.Test.YtibekkfbpmloiabGreatDoorGA8
import Derived.Test.YtibekkfbpmloiabGreatDoorGA9
import Derived.Test.YtibekkfbpmloiabGreatDoorChecked
import Derived.Test.YtibekkfbpmloiabGreatDoorShelf
import Derived.Test.YtibekkfbpmloiabGreatDoorProg
import Derived.Test.YtibekkfbpmloiabGreatDoorRows
import Derived.Deep.AppendLies
import Derived.Laws.IdiomCopy
import Derived.BigRegion
import Derived.StillTailTactics
import Derived.Deep.Slices
import Derived.OpenShut
import Derived.ShutString
import Derived.ChangeArms
import Derived.WideShapes
import Derived.Lib.LaidTab
import Derived.BigQuiet
import Derived.Deep.QuietTactic
import Derived.Deep.RegionHeld3
import Derived.Deep.Draws
import Derived.Deep.LoopGhost
import Derived.WalkKit
import Derived.WalkSpells
import Derived.WalkSmall
import Derived.Lib.OthersKept
import Derived.Lib.Hide
import Derived.Lib.Strings
import Derived.Lib.Join
import Derived.Laws.OwnMore
import Derived.Laws.BytesArg
import Derived.Stop.LaidErr
import Derived.WalkLawsBesides
import Derived.LaidEql
import Derived.Stop.Asserts
import Derived.Below
import Derived.Stop.LaidTwo
import Derived.ChangeVars
import Derived.Deep.DeepHandedRow
import Derived.Deep.RegionWith
import Derived.OneCell
import Derived.Lib.SliceRun
import Derived.Lib.Overlaps
import Derived.Lib.AppendZerosOnto
import Derived.Laws.NewBlocks
import Derived.Deep.RegionLaw
import Derived.RangeFuncNested
import Derived.RangeFuncBound
import Derived.RangeFuncCalls
import Derived.RangeFuncLeaves
import Derived.RangeFuncBox
import Derived.Shelf.Abstract
import Derived.Shelf.RegionOpen
import Derived.OwnWalkIn
import Derived.TacticsInMore
import Derived.LoopNIn
import Derived.LoopIn
/- The winners of all paths, of the program. Conditions: none but a valid stack. -/
namespace Go.Proofs.YtibekkfbpmloiabGreatDoor.Recs
set_option maxRecDepth 100000
open Go.RowKit Paths Errs

def winsOf (LL : List (List R)) (P : List ByteArray) : List (R × Nat) := (P.map (winC LL)).filter fun p => decide (0 < p.2)
theorem wins_of (LL : List (List R)) : wins LL = winsOf LL (pathsL LL) := rfl
theorem wins_step {LL : List (List R)} {P : List ByteArray} {k : Nat} (hk : k < P.length) : winsOf LL (P.take (k + 1)) = if 0 < (winC LL P[k]).2 then winsOf LL (P.take k) ++ [winC LL P[k]] else winsOf LL (P.take k) := by
  unfold winsOf
  rw [List.take_add_one, List.getElem?_eq_getElem hk, Option.toList_some, List.map_append, List.filter_append]
  split
  · rename_i h
    rw [List.map_singleton, List.filter_cons_of_pos (by simpa using h)]
    rfl
  · rename_i h
    rw [List.map_singleton, List.filter_cons_of_neg (by simpa using h)]
    simp
theorem winsOf_len (LL : List (List R)) (P : List ByteArray) : (winsOf LL P).length ≤ P.length := by
  unfold winsOf
  have := List.length_filter_le (fun p : R × Nat => decide (0 < p.2)) (P.map (winC LL))
  rw [List.length_map] at this
  exact this

set_option maxHeartbeats 3200000 in
theorem winnersOf_any (v : Value) (LL : List (List R)) (w : World) (h : StkSl w v LL) (hl : LL.length ≤ 5) (hok : ∀ l ∈ LL, layerOK l = true) :
    Calls Tryz.prog 88 #[v] w fun e w' => ∃ x, e = .returned x ∧ Below w.heap.size w w' ∧ RowP w' w.heap.size x (wins LL).length (wins LL) := by
  obtain ⟨i0, hi, hI0, hI1, hI2⟩ := info_parts placedInfo
  have hfine : ∀ l ∈ LL, Fine l := fun l hm => fine_layer (hok l hm)
  have hP80 := pathsL_len (LL := LL) (fun l hm => layer_len (hok l hm)) hl
  have HGH : Hid (∀ q ∈ pathsL LL, ∃ a t, grp LL q = a :: t ∧ a.1.p = q) := fun q hq => grp_head hok hq
  have HGO := groupsOf_any v LL w h hl hok
  have HCD : Hid (∀ q ∈ pathsL LL, ∀ W, Below w.heap.size w W → Calls Tryz.prog 98 #[v, .string q] W fun e w'' => e = .returned (.int .i64 (cutD LL q)) ∧ Below W.heap.size W w'') := fun q hq W hW => by
    have hp := path_of_path hfine hq
    exact cutDepth_any v LL q W (h.below hW) (by omega) hok hp (path_max hp) (fun l hm r hr => path_max (fault_path (layer_rec (hok l hm) hr)).1)
  have HWN : Hid (∀ q u W, PSl W u (grp LL q) → Calls Tryz.prog 147 #[u, .int .i64 (cutD LL q : Int)] W fun e w'' => e = .returned (pv (winC LL q)) ∧ Below W.heap.size W w'') := fun q u W hu => by
    rw [← overP_win]
    exact winnerOf_any u (grp LL q) (cutD LL q) W hu (by have := grp_len LL q; omega)
  obtain ⟨vA, vcap, rfl⟩ := h.form
  clear hfine
  go_enter Tryz.func88, Tryz.ntmps88
  go_wp2_with fail
  refine HGO.mono ?_
  rintro e w2 ⟨gv, us, rfl, hb2, hg2⟩
  obtain ⟨gA, gcap, rfl⟩ := own_form hg2.own
  have hgl : Hid (((pathsL LL).map (grp LL)).length = (pathsL LL).length) := List.length_map _
  have hul : us.length = (pathsL LL).length := hg2.len.trans hgl.out
  have HG2 := Lib.hid hg2
  clear HGO hg2
  rw [hgl.out]
  go_wp2_with fail
  go_loopw [3, 10] (fun f i wr => ∃ (k : Nat) (M : List (R × Nat)), k ≤ (pathsL LL).length ∧ i = .int .i64 k ∧ Hid (M = winsOf LL ((pathsL LL).take k)) ∧ RowP wr w2.heap.size f M.length M ∧ Below w2.heap.size w2 wr) (fun _ i _ => (pathsL LL).length - (intOf i).toNat)
  case atStart => exact ⟨0, [], by omega, rfl, rfl, RowG.nil, Below.refl _ _⟩
  case round =>
    obtain ⟨k, M, hk, rfl, HM, hrow, hbw⟩ := hrel
    obtain ⟨fA, fcap, rfl⟩ := hrow.form
    have hbv := hb2.trans (hbw.mono hb2.size)
    by_cases hlt : k < (pathsL LL).length
    · have hq := List.getElem_mem hlt
      obtain ⟨a, t, hg, hap⟩ := HGH.out _ hq
      have hgk : ((pathsL LL).map (grp LL))[k]? = some (a :: t) := by rw [List.getElem?_map, List.getElem?_eq_getElem hlt, Option.map_some, hg]
      have huk : us[k]? = some (us[k]'(by omega)) := List.getElem?_eq_getElem _
      have HG := HG2.out.below hbw
      have hru := HG.rows k _ (a :: t) huk hgk
      have HPS : Hid (PSl wr (us[k]'(by omega)) (grp LL (pathsL LL)[k])) := by show PSl _ _ _; rw [hg]; exact RowP.sl hru
      obtain ⟨gu, c, hue, _, hgu, _, _⟩ := RowG.atom hru (by simp)
      have hown0 := HG.own
      rw [hgl.out] at hown0
      obtain ⟨go, cap, hve, hgo⟩ : ∃ go cap, (Value.slice gA (pathsL LL).length gcap) = .slice (some ⟨go, 0, none⟩) (pathsL LL).length cap ∧ go < wr.heap.size := by
        rcases hown0.2 with ⟨_, h0⟩ | ⟨g, cap, cur, e, _, h2, _⟩
        · omega
        · exact ⟨g, cap, e, (Array.getElem?_eq_some_iff.1 h2).1⟩
      have hcu : wr.cell? ⟨go, k, none⟩ = some (us[k]'(by omega)) := by
        rw [hve] at hown0
        have := hown0.cellAt k (by omega)
        rw [huk] at this
        exact this
      rw [hue] at hru hcu HPS
      have hca := RowG.cell csP_len hru (i := 0) (c := 1) (by simp) (by omega)
      simp only [csP, List.getElem?_cons_zero, List.getElem?_cons_succ, List.getElem_cons_zero, Nat.zero_mul, Nat.zero_add] at hca
      rw [hap] at hca
      cases hve
      have hi1 : (k : Int) < ((pathsL LL).length : Int) := by omega
      have hi0 : (0 : Int) ≤ (k : Int) := by omega
      have HCDk := HCD.out _ hq wr hbv
      have HST := Lib.hid (wins_step (LL := LL) hlt)
      have HW := HWN.out (pathsL LL)[k]
      have hMl : M.length ≤ 80 := by
        rw [HM.out]
        have := winsOf_len LL ((pathsL LL).take k)
        rw [List.length_take] at this
        omega
      unfold pv at HW
      generalize hQ : (pathsL LL)[k] = q at *
      generalize hP : winC LL q = P at *
      have HPQ := Lib.hid hP
      clear hru hown0 huk hgk hg hap hQ hP hq
      go_wp2_with fail
      refine HCDk.mono ?_
      rintro e w3 ⟨rfl, hb3⟩
      have c3 := hbw.trans (hb3.mono hbw.size)
      go_wp2_with fail
      refine (HW _ _ (HPS.out.below hb3)).mono ?_
      rintro e w4 ⟨rfl, hb4⟩
      have c4 := c3.trans (hb4.mono c3.size)
      have hr4 := (RowG.below (hrow.below hb3) hb4)
      have cA := c4.alloc c4.size (.cells #[.int .i64 P.1.k, .string P.1.p, .string P.1.b, .int .i64 P.1.m, .bool P.1.o, .int .i64 (P.2 : Int)] 103)
      have hrA := hr4.2.alloc (.cells #[.int .i64 P.1.k, .string P.1.p, .string P.1.b, .int .i64 P.1.m, .bool P.1.o, .int .i64 (P.2 : Int)] 103)
      by_cases hpos : 0 < P.2
      · have HN : Hid (M ++ [P] = winsOf LL ((pathsL LL).take (k + 1))) := by show _ = _; rw [HST.out, if_pos hpos, ← HM.out]
        have hd : decide ((0 : Int) < (P.2 : Int)) = true := decide_eq_true (by omega)
        have hd' : decide (0 < P.2) = true := decide_eq_true hpos
        have HNW : Hid (∀ j u, (csP P)[j]? = some u → ((w4.alloc (.cells #[.int .i64 P.1.k, .string P.1.p, .string P.1.b, .int .i64 P.1.m, .bool P.1.o, .int .i64 (P.2 : Int)] 103)).alloc (.cells #[.int .i64 P.1.k, .string P.1.p, .string P.1.b, .int .i64 P.1.m, .bool P.1.o, .int .i64 (P.2 : Int)] 103)).cell? ((⟨w4.heap.size + 1, 0, none⟩ : Addr).add j) = some u) := by
          have h := csP_new (w4.alloc (.cells #[.int .i64 P.1.k, .string P.1.p, .string P.1.b, .int .i64 P.1.m, .bool P.1.o, .int .i64 (P.2 : Int)] 103)) P 103
          rw [World.size_alloc] at h
          exact h
        have HZ : Hid (w2.heap.size ≤ (w4.alloc (.cells #[.int .i64 P.1.k, .string P.1.p, .string P.1.b, .int .i64 P.1.m, .bool P.1.o, .int .i64 (P.2 : Int)] 103)).heap.size) := cA.size
        have HBX : Hid (Pbox (w4.alloc (.cells #[.int .i64 P.1.k, .string P.1.p, .string P.1.b, .int .i64 P.1.m, .bool P.1.o, .int .i64 (P.2 : Int)] 103)) w4.heap.size P) := alloc_here _ _
        clear HST HCDk HW
        go_wp2_with (first
          | (at_builtin; refine wpList_append_own _ rfl _ _ 100 rfl w2.heap.size 103 i0 (.agg #[.int .i64 0, .string ByteArray.empty, .string ByteArray.empty, .int .i64 0, .bool false, .int .i64 0]) 6 64 Tryz.underlying100 hi hI0 hI1 hI2 rfl (by decide) _ _ _ rfl (hrA.alloc _) ⟨w4.heap.size + 1, 0, none⟩ 1 1 (csP P) rfl rfl HNW.out (csP_one _) (by unfold maxLen; omega) (by omega) (by have := c4.size; simp; omega) ?_; intro v' w9 hown' hgrow9 hnil9))
        exact ⟨⟨k + 1, _, by omega, by go_num, HN, rowP_snoc hown', (cA.alloc cA.size _).grown hgrow9 (cA.alloc cA.size _).size (fun j hj => (hrA.lt j hj).1)⟩, by simp [intOf]; omega⟩
      · have HN : Hid (M = winsOf LL ((pathsL LL).take (k + 1))) := by show _ = _; rw [HST.out, if_neg hpos, ← HM.out]
        have hd : decide ((0 : Int) < (P.2 : Int)) = false := decide_eq_false (by omega)
        have hd' : decide (0 < P.2) = false := decide_eq_false hpos
        clear HST HCDk HW
        go_wp2_with fail
        exact ⟨⟨k + 1, M, by omega, by go_num, HN, ⟨rfl, hrA⟩, cA⟩, by simp [intOf]; omega⟩
    · have HF : Hid (M = wins LL) := by show _ = _; rw [wins_of, HM.out, List.take_of_length_le (by omega)]
      go_wp2
      go_ret
      exact ⟨_, rfl, hbv, by rw [← HF.out]; exact hrow.down hb2.size⟩
end Go.Proofs.YtibekkfbpmloiabGreatDoor.Recs
