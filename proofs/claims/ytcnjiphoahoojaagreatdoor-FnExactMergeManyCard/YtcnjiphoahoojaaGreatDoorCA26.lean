/- Parts of several texts of mine in one file (each begins with its own remark). -/
import Derived.Test.YtcnjiphoahoojaaGreatDoorCA10
import Derived.Test.YtcnjiphoahoojaaGreatDoorCA11
import Derived.Test.YtcnjiphoahoojaaGreatDoorCA12
import Derived.Test.YtcnjiphoahoojaaGreatDoorCA13
import Derived.Test.YtcnjiphoahoojaaGreatDoorCA14
import Derived.Test.YtcnjiphoahoojaaGreatDoorCA15
import Derived.Test.YtcnjiphoahoojaaGreatDoorCA16
import Derived.Test.YtcnjiphoahoojaaGreatDoorCA18
import Derived.Test.YtcnjiphoahoojaaGreatDoorCA19
import Derived.Test.YtcnjiphoahoojaaGreatDoorCA2
import Derived.Test.YtcnjiphoahoojaaGreatDoorCA21
import Derived.Test.YtcnjiphoahoojaaGreatDoorCA22
import Derived.Test.YtcnjiphoahoojaaGreatDoorCA23
import Derived.Test.YtcnjiphoahoojaaGreatDoorCA24
import Derived.Test.YtcnjiphoahoojaaGreatDoorCA25
import Derived.Test.YtcnjiphoahoojaaGreatDoorCA3
import Derived.Test.YtcnjiphoahoojaaGreatDoorCA4
import Derived.Test.YtcnjiphoahoojaaGreatDoorCA5
import Derived.Test.YtcnjiphoahoojaaGreatDoorCA6
import Derived.Test.YtcnjiphoahoojaaGreatDoorCA7
import Derived.Test.YtcnjiphoahoojaaGreatDoorCA8
import Derived.Test.YtcnjiphoahoojaaGreatDoorCA9
import Derived.Test.YtcnjiphoahoojaaGreatDoorChecked
import Derived.Test.YtcnjiphoahoojaaGreatDoorShelf
import Derived.Test.YtcnjiphoahoojaaGreatDoorProg
import Derived.Test.YtcnjiphoahoojaaGreatDoorRows
import Derived.Deep.AppendLies
import Derived.Laws.IdiomCopy
import Derived.BigRegion
import Derived.StillTailTactics
import Derived.Deep.Slices
import Derived.OpenShut
import Derived.ShutString
import Derived.ChangeArms
import Derived.WideShapes
import Derived.Lib.LaidTab
import Derived.BigQuiet
import Derived.Deep.QuietTactic
import Derived.Deep.RegionHeld3
import Derived.Deep.Draws
import Derived.Deep.LoopGhost
import Derived.WalkKit
import Derived.WalkSpells
import Derived.WalkSmall
import Derived.Lib.OthersKept
import Derived.Lib.Hide
import Derived.Lib.Strings
import Derived.Lib.Join
import Derived.Laws.OwnMore
import Derived.Laws.BytesArg
import Derived.Stop.LaidErr
import Derived.WalkLawsBesides
import Derived.LaidEql
import Derived.Stop.Asserts
import Derived.Below
import Derived.Stop.LaidTwo
import Derived.ChangeVars
import Derived.Deep.DeepHandedRow
import Derived.Deep.RegionWith
import Derived.OneCell
import Derived.Lib.SliceRun
import Derived.Lib.Overlaps
import Derived.Lib.AppendZerosOnto
import Derived.Laws.NewBlocks
import Derived.Deep.RegionLaw
import Derived.RangeFuncNested
import Derived.RangeFuncBound
import Derived.RangeFuncCalls
import Derived.RangeFuncLeaves
import Derived.RangeFuncBox
import Derived.Shelf.Abstract
import Derived.Shelf.RegionOpen
import Derived.OwnWalkIn
import Derived.TacticsInMore
import Derived.LoopNIn
import Derived.LoopIn
/- MergeTrace, MergeMany of the model. -/
namespace Go.Proofs.YtcnjiphoahoojaaGreatDoor.Recs
set_option maxRecDepth 100000
open Go.RowKit Paths Errs

set_option maxHeartbeats 3200000 in
theorem l07Merge_any (v : Value) (LL : List (List R)) (w : World) (h : StkSl w v LL) (hl : LL.length ≤ 5) (hok : ∀ l ∈ LL, layerOK l = true) :
    Calls Tryz.prog 28 #[v] w fun e w' => ∃ x z, e = .returned (.tuple #[x, z]) ∧ Below w.heap.size w w' ∧ RowOf w' w.heap.size x (mmL LL).length (mmL LL) ∧ RowK w' w.heap.size z (picksL (wins LL)).length (picksL (wins LL)) := by
  obtain ⟨i0, hi, hI0, hI1, hI2⟩ := info_parts recInfo
  obtain ⟨j0, hj, hJ0, hJ1, hJ2⟩ := info_parts pickInfo
  have hfine : ∀ l ∈ LL, Fine l := fun l hm => fine_layer (hok l hm)
  have hP80 := pathsL_len (LL := LL) (fun l hm => layer_len (hok l hm)) hl
  have HWS := Lib.hid (winL_sorted LL)
  have HWF := Lib.hid (winL_fault hfine)
  have HPA := l07Paths_any v LL w h hl hok
  have HWI : Hid (∀ q ∈ pathsL LL, ∀ W, Below w.heap.size w W → Calls Tryz.prog 48 #[v, .string q] W fun e w'' => e = .returned (.tuple #[(winC LL q).1.val, .int .i64 ((winC LL q).2 : Int)]) ∧ Below W.heap.size W w'') := fun q hq W hW => l07Winner_any v LL q W (h.below hW) hl hok (path_of_path hfine hq)
  have HPN : Hid (∀ q ∈ pathsL LL, 0 < (winC LL q).2 → (winC LL q).1.p = q) := fun q _ hp => (win_rec hp).1
  obtain ⟨vA, vcap, rfl⟩ := h.form
  clear hfine h
  go_enter Tryz.func28, Tryz.ntmps28
  go_wp2_with fail
  refine HPA.mono ?_
  rintro e w1 ⟨pv0, rfl, hb1, hp1⟩
  obtain ⟨hpo, g, pcap, rfl, _, hg1, hpc, hpm⟩ := hp1
  have HPO := Lib.hid hpo
  have ho0 : (w1.alloc (.cells #[] 60)).ownsRow w1.heap.size 60 5 (.slice (some ⟨w1.heap.size, 0, none⟩) 0 0) 0 [] := World.ownsRow_lit w1 #[] 0 (Nat.le_refl _) (Nat.zero_le _) rfl
  have bA : Below w1.heap.size w1 (w1.alloc (.cells #[] 60)) := (Below.refl _ _).alloc (Nat.le_refl _) _
  have hk0 : ((w1.alloc (.cells #[] 60)).alloc (.cells #[] 64)).ownsRow w1.heap.size 64 2 (.slice (some ⟨w1.heap.size + 1, 0, none⟩) 0 0) 0 [] := by
    have := World.ownsRow_lit (e := 64) (size := 2) (base := w1.heap.size) (w1.alloc (.cells #[] 60)) #[] 0 (by simp) (Nat.zero_le _) rfl
    rw [World.size_alloc] at this
    exact this
  have HO0 := Lib.hid (ho0.alloc (.cells #[] 64))
  have HK0 := Lib.hid hk0
  have BB : Hid (Below w1.heap.size w1 ((w1.alloc (.cells #[] 60)).alloc (.cells #[] 64))) := bA.alloc bA.size _
  clear hpo ho0 hk0 bA HPA
  go_wp2_with fail
  go_loopw [5, 6, 7] (fun f z i wr => ∃ (k : Nat) (M : List (R × Nat)), k ≤ (pathsL LL).length ∧ i = .int .i64 k ∧ Hid (M = winsOf LL ((pathsL LL).take k)) ∧ Hid (M.length ≤ 80) ∧ Hid (RowOf wr w1.heap.size f M.length (M.map Prod.fst)) ∧ Hid (RowK wr w1.heap.size z M.length (picksL M)) ∧ Below w1.heap.size w1 wr) (fun _ _ i _ => (pathsL LL).length - (intOf i).toNat)
  case atStart => exact ⟨0, [], by omega, rfl, rfl, by show _ ≤ _; simp, ⟨rfl, HO0.out⟩, ⟨rfl, HK0.out⟩, BB.out⟩
  case round =>
    obtain ⟨k, M, hk, rfl, HM, HML, HRO, HRK, hbw⟩ := hrel
    have hbv := hb1.trans (hbw.mono hb1.size)
    obtain ⟨fA, fcap, rfl⟩ := HRO.out.form
    obtain ⟨zA, zcap, rfl⟩ := HRK.out.form
    by_cases hlt : k < (pathsL LL).length
    · have hq := List.getElem_mem hlt
      have hcu : wr.cell? ⟨g, k, none⟩ = some (.string (pathsL LL)[k]) := by
        have h1 := (own_below HPO.out hbw).cellAt k (by omega)
        rw [show (vS (pathsL LL))[k]? = some (.string (pathsL LL)[k]) by unfold vS; rw [List.getElem?_map, List.getElem?_eq_getElem hlt]; rfl] at h1
        simpa using h1
      have hi1 : (k : Int) < ((pathsL LL).length : Int) := by omega
      have hi0 : (0 : Int) ≤ (k : Int) := by omega
      have hW := HWI.out _ hq wr hbv
      have HST := Lib.hid (wins_step (LL := LL) hlt)
      have HPq := Lib.hid (HPN.out _ hq)
      have hMl := HML.out
      generalize hQ : (pathsL LL)[k] = q at *
      generalize hP : winC LL q = P at *
      have hPL : k + 1 ≤ (pathsL LL).length := hlt
      unfold R.val at hW
      clear hQ hP hq
      go_wp2_with fail
      refine hW.mono ?_
      rintro e w3 ⟨rfl, hb3⟩
      have c3 := hbw.trans (hb3.mono hbw.size)
      have hr3 := (RowOf.below HRO.out hb3).2
      have hk3 := (RowG.below HRK.out hb3).2
      have cA := c3.alloc c3.size (.cells #[.int .i64 P.1.k, .string P.1.p, .string P.1.b, .int .i64 P.1.m, .bool P.1.o] 60)
      have hrA := hr3.alloc (.cells #[.int .i64 P.1.k, .string P.1.p, .string P.1.b, .int .i64 P.1.m, .bool P.1.o] 60)
      have hkA := hk3.alloc (.cells #[.int .i64 P.1.k, .string P.1.p, .string P.1.b, .int .i64 P.1.m, .bool P.1.o] 60)
      clear hW
      by_cases hpos : 0 < P.2
      · have HN : Hid (M ++ [P] = winsOf LL ((pathsL LL).take (k + 1))) := by show _ = _; rw [HST.out, if_pos hpos, ← HM.out]
        have hNl : (M ++ [P]).length ≤ 80 := by
          rw [HN.out]
          have := winsOf_len LL ((pathsL LL).take (k + 1))
          rw [List.length_take] at this
          omega
        have HNL := Lib.hid hNl
        have hpq := HPq.out hpos
        have HPQ := Lib.hid hpq
        have hd : decide ((0 : Int) < (P.2 : Int)) = true := decide_eq_true (by omega)
        have hd' : decide (0 < P.2) = true := decide_eq_true hpos
        have HNW : Hid (∀ j u, (R.cs P.1)[j]? = some u → ((w3.alloc (.cells #[.int .i64 P.1.k, .string P.1.p, .string P.1.b, .int .i64 P.1.m, .bool P.1.o] 60)).alloc (.cells #[.int .i64 P.1.k, .string P.1.p, .string P.1.b, .int .i64 P.1.m, .bool P.1.o] 60)).cell? ((⟨w3.heap.size + 1, 0, none⟩ : Addr).add j) = some u) := by
          have h := rec_cells_new (w3.alloc (.cells #[.int .i64 P.1.k, .string P.1.p, .string P.1.b, .int .i64 P.1.m, .bool P.1.o] 60)) P.1 60
          rw [World.size_alloc] at h
          exact h
        have hone := rec_one P.1
        have HZ : Hid (w1.heap.size ≤ (w3.alloc (.cells #[.int .i64 P.1.k, .string P.1.p, .string P.1.b, .int .i64 P.1.m, .bool P.1.o] 60)).heap.size) := cA.size
        have hcu3 : (w3.alloc (.cells #[.int .i64 P.1.k, .string P.1.p, .string P.1.b, .int .i64 P.1.m, .bool P.1.o] 60)).cell? ⟨g, k, none⟩ = some (.string q) := ((hb3.alloc hb3.size _).cell (p := ⟨g, k, none⟩) (Nat.lt_of_lt_of_le hg1 hbw.size)).trans hcu
        have HCU3 := Lib.hid hcu3
        clear HST hNl hpq hcu hcu3
        have HCA := Lib.hid cA
        have HHR := Lib.hid hrA
        have HHK := Lib.hid hkA
        have HPOg : Hid (∀ w9, Below w1.heap.size w1 w9 → w9.cell? ⟨g, k, none⟩ = some (.string q)) := fun w9 c9 => by
          have h1 := (own_below HPO.out c9).cellAt k (by omega)
          have h4 := (own_below HPO.out HCA.out).cellAt k (by omega)
          rw [h1, ← h4]
          exact HCU3.out
        go_wp2_with (first
          | (at_builtin; refine wpList_append_own _ rfl _ _ 34 rfl w1.heap.size 60 i0 (.agg #[.int .i64 0, .string ByteArray.empty, .string ByteArray.empty, .int .i64 0, .bool false]) 5 56 Tryz.underlying34 hi hI0 hI1 hI2 rfl (by decide) _ _ _ rfl (HHR.out.alloc _) ⟨w3.heap.size + 1, 0, none⟩ 1 1 (R.cs P.1) rfl rfl HNW.out hone (by unfold maxLen; omega) (by omega) (by have := c3.size; simp; omega) ?_; intro v' w9 hown' hgrow9 hnil9; have hkB := HHK.out.alloc (.cells #[.int .i64 P.1.k, .string P.1.p, .string P.1.b, .int .i64 P.1.m, .bool P.1.o] 60); have hk9 := Lib.hid (hkB.kept hgrow9 (row_apart (by decide) hkB (HHR.out.alloc (.cells #[.int .i64 P.1.k, .string P.1.p, .string P.1.b, .int .i64 P.1.m, .bool P.1.o] 60)))); have c9 := (HCA.out.alloc HCA.out.size (.cells #[.int .i64 P.1.k, .string P.1.p, .string P.1.b, .int .i64 P.1.m, .bool P.1.o] 60)).grown hgrow9 (HCA.out.alloc HCA.out.size (.cells #[.int .i64 P.1.k, .string P.1.p, .string P.1.b, .int .i64 P.1.m, .bool P.1.o] 60)).size (fun j hj => (HHR.out.lt j hj).1); have HO9 := Lib.hid hown'; have hcu9 := HPOg.out _ c9; have hsz9 := c9.size; clear hkB hgrow9 hown' hnil9)
          | (at_builtin; refine wpList_append_own _ rfl _ _ 24 rfl w1.heap.size 64 j0 (.agg #[.string ByteArray.empty, .int .i64 0]) 2 24 Tryz.underlying24 hj hJ0 hJ1 hJ2 rfl (by decide) _ _ _ rfl (hk9.out.alloc _) ⟨w9.heap.size, 0, none⟩ 1 1 (csK (q, (P.2 : Int))) rfl rfl (csK_new _ _ _) (csK_one _) (by unfold maxLen; omega) (by omega) (by simp; omega) ?_; intro v2 w10 hown2 hgrow10 hnil10))
        have hrB := HO9.out.alloc (.cells #[.string q, .int .i64 (P.2 : Int)] 64)
        have hr10 := hrB.kept hgrow10 (row_apart (by decide) hrB (hk9.out.alloc (.cells #[.string q, .int .i64 (P.2 : Int)] 64)))
        have e1 : (M ++ [P]).map Prod.fst = M.map Prod.fst ++ [P.1] := by simp
        have e2 : picksL (M ++ [P]) = picksL M ++ [(q, (P.2 : Int))] := by unfold picksL; rw [List.map_append, ← HPQ.out]; rfl
        exact ⟨⟨k + 1, M ++ [P], by omega, by go_num, HN, HNL.out, by
            show RowOf _ _ _ _ _
            rw [e1, List.length_append, List.length_singleton]
            refine ⟨by rw [List.length_append, List.length_map, List.length_singleton], ?_⟩
            rw [flat_snoc]
            exact hr10, by
            show RowK _ _ _ _ _
            rw [e2, List.length_append, List.length_singleton]
            refine ⟨by unfold picksL; rw [List.length_append, List.length_map, List.length_singleton], ?_⟩
            rw [flatG_snoc]
            exact hown2, (c9.alloc c9.size _).grown hgrow10 (c9.alloc c9.size _).size (fun j hj => (hk9.out.lt j hj).1)⟩, by simp [intOf]; omega⟩
      · have HN : Hid (M = winsOf LL ((pathsL LL).take (k + 1))) := by show _ = _; rw [HST.out, if_neg hpos, ← HM.out]
        have hd : decide ((0 : Int) < (P.2 : Int)) = false := decide_eq_false (by omega)
        have hd' : decide (0 < P.2) = false := decide_eq_false hpos
        clear HST
        go_wp2_with fail
        exact ⟨⟨k + 1, M, by omega, by go_num, HN, HML, ⟨HRO.out.1, hrA⟩, ⟨HRK.out.1, hkA⟩, cA⟩, by simp [intOf]; omega⟩
    · have HF : Hid (M = wins LL) := by show _ = _; rw [wins_of, HM.out, List.take_of_length_le (by omega)]
      have hMl := HML.out
      have HMW : Hid (M.map Prod.fst = winL LL) := by show _ = _; rw [HF.out]; rfl
      have hMS : Sorted (M.map Prod.fst) := by rw [HMW.out]; exact HWS.out
      have hMF : ∀ r ∈ M.map Prod.fst, r.fault = 0 := by rw [HMW.out]; exact HWF.out
      have hrl : RowOf wr w1.heap.size (.slice fA M.length fcap) (M.map Prod.fst).length (M.map Prod.fst) := by rw [List.length_map]; exact HRO.out
      have HC4 := l03Canon_gen _ (M.map Prod.fst) wr hrl.sl hMS hMF (by rw [List.length_map]; omega)
      have HML2 : Hid (mmL LL = canonL (M.map Prod.fst)) := by show _ = _; unfold mmL; rw [HMW.out]
      clear hMS hMF hrl
      go_wp2_with fail
      refine HC4.mono ?_
      rintro e w5 ⟨f, rfl, hb5, hf⟩
      go_wp2_with fail
      go_ret2
      exact ⟨_, _, rfl, hbv.trans (hb5.mono hbv.size), by rw [HML2.out]; exact ⟨hf.1, own_le hf.2 hbv.size⟩, by
        have e : (picksL (wins LL)).length = M.length := by rw [← HF.out]; unfold picksL; exact List.length_map _
        rw [e, ← HF.out]
        exact (RowG.below HRK.out hb5).down hb1.size⟩

end Go.Proofs.YtcnjiphoahoojaaGreatDoor.Recs

/- For laws over stacks: the laws' own sizes with their sums; blocks between two numbers; marks in a stack. -/
namespace Go.Proofs.YtcnjiphoahoojaaGreatDoor.Recs
set_option maxRecDepth 100000
open Go.RowKit Paths

def total (LL : List (List R)) : Nat := (LL.map List.length).sum
theorem total_snoc {LL : List (List R)} {k : Nat} (hk : k < LL.length) : total (LL.take (k + 1)) = total (LL.take k) + LL[k].length := by
  unfold total
  rw [List.take_succ_eq_append_getElem hk, List.map_append, List.sum_append]
  simp
theorem total_le : ∀ {LL : List (List R)} {l : List R}, l ∈ LL → l.length ≤ total LL
  | x :: LL, l, h => by
    unfold total
    rw [List.map_cons, List.sum_cons]
    rcases List.mem_cons.1 h with rfl | h
    · omega
    · have := total_le h
      unfold total at this
      omega
set_option maxHeartbeats 800000 in
theorem szRecordSS_sum (v : Value) (LL : List (List R)) (n : Nat) (w : World) (h : StkSl w v LL) (hlm : LL.length ≤ maxLen) (hs : ∀ l ∈ LL, l.length ≤ maxLen ∧ ∀ r ∈ l, r.p.size ≤ maxLen ∧ r.b.size ≤ maxLen) (hn : n ≤ 1048576) :
    Calls Tryz.prog 6 #[v, .int .i64 n] w fun e w' => (∃ z : Int, z < 0 ∧ e = .returned (.int .i64 z) ∧ Below w.heap.size w w') ∨ ∃ z : Nat, z + LL.length + total LL ≤ n ∧ e = .returned (.int .i64 z) ∧ Below w.heap.size w w' := by
  unfold maxLen at hlm
  obtain ⟨A, cap, rfl, hcap, h⟩ := h
  have H := Lib.hid h
  clear h
  by_cases h1 : n < LL.length
  · have hd : decide ((n : Int) - (LL.length : Int) < 0) = true := by simp; omega
    go_enter Tryz.func6, Tryz.ntmps6
    go_wp2_with fail
    go_ret
    exact .inl ⟨_, by omega, rfl, Below.refl _ _⟩
  have hd : decide ((n : Int) - (LL.length : Int) < 0) = false := by simp; omega
  go_enter Tryz.func6, Tryz.ntmps6
  go_wp2
  go_loopw [1, 5] (fun m i wr => ∃ (j z : Nat), j ≤ LL.length ∧ i = .int .i64 j ∧ m = .int .i64 z ∧ z + LL.length + total (LL.take j) ≤ n ∧ Below w.heap.size w wr) (fun _ i _ => LL.length - (intOf i).toNat)
  case atStart => exact ⟨0, n - LL.length, by omega, rfl, by go_num, by show _ + _ + 0 ≤ _; omega, Below.refl _ _⟩
  case round =>
    obtain ⟨j, z, hj, rfl, rfl, hz, hbw⟩ := hrel
    by_cases hlt : j < LL.length
    · obtain ⟨b, off, rfl, hb, hcell⟩ := H.out (by omega)
      obtain ⟨u, c0, hu⟩ := hcell j LL[j] (by simp [hlt])
      have c0' := (hbw.cell (p := ⟨b, off + j, none⟩) hb).trans c0
      have hu' := hu.below hbw
      obtain ⟨s1, s2⟩ := hs LL[j] (List.getElem_mem hlt)
      clear hcell c0 hu
      obtain ⟨uA, ucap, rfl, hucap, hur⟩ := hu'
      have HU := szRecordS_sum _ LL[j] z wr ⟨uA, ucap, rfl, hucap, hur⟩ s1 s2 (by omega)
      clear hur
      have hi1 : (j : Int) < (LL.length : Int) := by omega
      have hi0 : (0 : Int) ≤ (j : Int) := by omega
      go_wp2_with fail
      refine HU.mono ?_
      rintro e w1 (⟨z1, hz1, rfl, hb1⟩ | ⟨z1, hz1, rfl, hb1⟩)
      · have hd1 : decide (z1 < 0) = true := by simpa using hz1
        go_wp2_with fail
        go_ret
        exact .inl ⟨_, by omega, rfl, hbw.trans (hb1.mono hbw.size)⟩
      · have hd1 : decide ((z1 : Int) < 0) = false := by simp
        go_wp2_with fail
        go_roundw
        case rel => exact ⟨j + 1, z1, by omega, by go_num, rfl, by rw [total_snoc hlt]; omega, hbw.trans (hb1.mono hbw.size)⟩
        case measure => simp [intOf]; omega
    · obtain rfl : j = LL.length := by omega
      rw [List.take_of_length_le (Nat.le_refl _)] at hz
      go_wp2
      go_ret
      exact .inr ⟨z, hz, rfl, hbw⟩

/-- The rows of a stack lie from base on, below top. -/
theorem StkRow.low {w : World} {base : Nat} {v : Value} {LL : List (List R)} (h : StkRow w base v LL) : ∃ (g : Nat) (us : List Value), v = .slice (some ⟨g, 0, none⟩) LL.length LL.length ∧ us.length = LL.length ∧ g < w.heap.size ∧ (∀ (i : Nat) (u : Value), us[i]? = some u → w.cell? ⟨g, i, none⟩ = some u) ∧
    ∀ (i : Nat) (u : Value) (l : List R), us[i]? = some u → LL[i]? = some l → RowOf w base u l.length l ∧ u.ownBlock ≠ some g ∧ ∀ (j : Nat) (u' : Value), us[j]? = some u' → ∀ c, u.ownBlock = some c → u'.ownBlock = some c → i = j := by
  obtain ⟨g, us, rfl, hn, ho, h1, h2⟩ := h
  refine ⟨g, us, rfl, hn, (ho.lt g rfl).2, fun i u hi => ?_, fun i u l hi hl => ?_⟩
  · have hlt : i < us.length := (List.getElem?_eq_some_iff.1 hi).1
    have := ho.cellAt i (by omega)
    rw [hi] at this
    exact this
  · have hlt : i < LL.length := (List.getElem?_eq_some_iff.1 hl).1
    refine ⟨(h1 i u l hlt hi hl).1, (h1 i u l hlt hi hl).2, fun j u' hj c hc hc' => ?_⟩
    have hjl : j < us.length := (List.getElem?_eq_some_iff.1 hj).1
    exact h2 i j u u' c hlt (by omega) hi hj hc hc'

theorem StkRow.top {w w' : World} {base : Nat} {v : Value} {LL : List (List R)} (h : StkRow w base v LL) (hb : Below w.heap.size w w') : ∀ (g : Nat) (us : List Value), v = .slice (some ⟨g, 0, none⟩) LL.length LL.length → us.length = LL.length → (∀ (i : Nat) (u : Value), us[i]? = some u → w'.cell? ⟨g, i, none⟩ = some u) → ∀ (i : Nat) (u : Value), us[i]? = some u → ∀ c, u.ownBlock = some c → c < w.heap.size := by
  obtain ⟨g, us, rfl, hn, hgl, hcs, hrs⟩ := h.low
  intro g' us' e hn' hc' i u hi c hc
  cases e
  have hlt : i < us'.length := (List.getElem?_eq_some_iff.1 hi).1
  have h1 := hcs i (us[i]'(by omega)) (List.getElem?_eq_getElem _)
  have h2 := (hb.cell (p := ⟨g, i, none⟩) hgl).symm.trans (hc' i u hi)
  rw [h1] at h2
  cases h2
  exact ((hrs i _ _ (List.getElem?_eq_getElem (by omega)) (List.getElem?_eq_getElem (by omega))).1.2.lt c hc).2

set_option maxHeartbeats 1600000 in
theorem markRecordSS_any (v : Value) (LL : List (List R)) (base top : Nat) (x : Int) (w : World) (hrow : StkRow w base v LL) (h0 : 0 ≤ x) (hk : x + 5 * total LL ≤ 1099511627776) (hL : LL.length ≤ 1048576) (htop : ∀ (g : Nat) (us : List Value), v = .slice (some ⟨g, 0, none⟩) LL.length LL.length → us.length = LL.length → (∀ (i : Nat) (u : Value), us[i]? = some u → w.cell? ⟨g, i, none⟩ = some u) → ∀ (i : Nat) (u : Value), us[i]? = some u → ∀ c, u.ownBlock = some c → c < top) :
    Calls Tryz.prog 12 #[v, .int .i64 x] w fun e w' => e = .returned (.int .i64 (x + 5 * total LL)) ∧ Betw base top w w' := by
  obtain ⟨g, us, rfl, hn, hgl, hcs, hrs⟩ := hrow.low
  have HTOP := Lib.hid (htop g us rfl hn hcs)
  have HCS := Lib.hid hcs
  have HRS := Lib.hid hrs
  clear hcs hrs htop hrow
  go_enter Tryz.func12, Tryz.ntmps12
  go_wp2
  go_loopw [1, 5] (fun kv i wr => ∃ j : Nat, j ≤ LL.length ∧ i = .int .i64 j ∧ kv = .int .i64 (x + 5 * total (LL.take j)) ∧ Betw base top w wr ∧ Hid (∀ (i : Nat) (u : Value) (l : List R), us[i]? = some u → LL[i]? = some l → wr.cell? ⟨g, i, none⟩ = some u ∧ (j ≤ i → RowOf wr base u l.length l))) (fun _ i _ => LL.length - (intOf i).toNat)
  case atStart => exact ⟨0, by omega, rfl, by show _ = Value.int .i64 (x + 5 * ((0 : Nat) : Int)); simp, Betw.refl _ _ _, fun i u l hi hl => ⟨HCS.out i u hi, fun _ => (HRS.out i u l hi hl).1⟩⟩
  case round =>
    obtain ⟨j, hj, rfl, rfl, hbt, HJ⟩ := hrel
    by_cases hlt : j < LL.length
    · have hu : us[j]? = some (us[j]'(by omega)) := List.getElem?_eq_getElem _
      have hl : LL[j]? = some LL[j] := List.getElem?_eq_getElem hlt
      obtain ⟨c0, hr0⟩ := HJ.out j _ _ hu hl
      have hr1 := hr0 (Nat.le_refl _)
      have hts := total_snoc hlt
      have htl : total (LL.take (j + 1)) ≤ total LL := by
        unfold total
        conv => rhs; rw [← List.take_append_drop (j + 1) LL, List.map_append, List.sum_append]
        omega
      have HM := markRecordS_any _ _ _ _ (x + 5 * total (LL.take j)) wr hr1 (by omega) (by omega)
      obtain ⟨uA, uc, hue⟩ := own_form hr1.2
      generalize hU : us[j]'(by omega) = U at *
      subst hue
      have hi1 : (j : Int) < (LL.length : Int) := by omega
      have hi0 : (0 : Int) ≤ (j : Int) := by omega
      have HTS := Lib.hid hts
      have HU := Lib.hid hu
      have HLL := Lib.hid hl
      have HR1 := Lib.hid hr1
      clear hts htl hu hl hr0 hr1 hU
      go_wp2_with fail
      refine HM.mono ?_
      rintro e w2 ⟨rfl, -, hg2⟩
      have hb2 : Betw base top wr w2 := betw_of hg2 (fun k hk2 => ⟨(HR1.out.2.lt k hk2).1, HTOP.out j _ HU.out k hk2⟩)
      go_wp2_with fail
      go_roundw
      case rel =>
        refine ⟨j + 1, by omega, by go_num, ?_, hbt.trans hb2, fun i u l hi hl => ?_⟩
        · rw [HTS.out]
          congr 1
          push_cast
          omega
        · obtain ⟨d0, d1⟩ := HJ.out i u l hi hl
          obtain ⟨e1, e2, e3⟩ := HRS.out j _ _ HU.out HLL.out
          refine ⟨hg2.cell d0 (fun e => e2 e.symm), fun hji => ?_⟩
          refine ⟨rfl, (d1 (by omega)).2.kept hg2 ?_⟩
          cases hub : u.ownBlock with
          | none => exact .inl rfl
          | some c =>
            refine .inr (fun e => ?_)
            have := e3 i u hi c e.symm hub
            omega
      case measure => simp [intOf]; omega
    · obtain rfl : j = LL.length := by omega
      rw [List.take_of_length_le (Nat.le_refl _)]
      go_wp2
      go_ret
      exact ⟨rfl, hbt⟩
end Go.Proofs.YtcnjiphoahoojaaGreatDoor.Recs
