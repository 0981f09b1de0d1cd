/- Parts of several texts of mine in one file (each begins with its own remark). -/
import Derived.Test.YtibekkfbpmloiabGreatDoorGA10
import Derived.Test.YtibekkfbpmloiabGreatDoorGA11
import Derived.Test.YtibekkfbpmloiabGreatDoorGA12
import Derived.Test.YtibekkfbpmloiabGreatDoorGA14
import Derived.Test.YtibekkfbpmloiabGreatDoorGA15
import Derived.Test.YtibekkfbpmloiabGreatDoorGA16
import Derived.Test.YtibekkfbpmloiabGreatDoorGA19
import Derived.Test.YtibekkfbpmloiabGreatDoorGA2
import Derived.Test.YtibekkfbpmloiabGreatDoorGA20
import Derived.Test.YtibekkfbpmloiabGreatDoorGA22
import Derived.Test.YtibekkfbpmloiabGreatDoorGA23
import Derived.Test.YtibekkfbpmloiabGreatDoorGA25
import Derived.Test.YtibekkfbpmloiabGreatDoorGA26
import Derived.Test.YtibekkfbpmloiabGreatDoorGA27
import Derived.Test.YtibekkfbpmloiabGreatDoorGA3
import Derived.Test.YtibekkfbpmloiabGreatDoorGA30
import Derived.Test.YtibekkfbpmloiabGreatDoorGA31
import Derived.Test.YtibekkfbpmloiabGreatDoorGA32
import Derived.Test.YtibekkfbpmloiabGreatDoorGA4
import Derived.Test.YtibekkfbpmloiabGreatDoorGA5
import Derived.Test.YtibekkfbpmloiabGreatDoorGA7
import Derived.Test.YtibekkfbpmloiabGreatDoorGA8
import Derived.Test.YtibekkfbpmloiabGreatDoorGA9
import Derived.Test.YtibekkfbpmloiabGreatDoorChecked
import Derived.Test.YtibekkfbpmloiabGreatDoorShelf
import Derived.Test.YtibekkfbpmloiabGreatDoorProg
import Derived.Test.YtibekkfbpmloiabGreatDoorRows
import Derived.Deep.AppendLies
import Derived.Laws.IdiomCopy
import Derived.BigRegion
import Derived.StillTailTactics
import Derived.Deep.Slices
import Derived.OpenShut
import Derived.ShutString
import Derived.ChangeArms
import Derived.WideShapes
import Derived.Lib.LaidTab
import Derived.BigQuiet
import Derived.Deep.QuietTactic
import Derived.Deep.RegionHeld3
import Derived.Deep.Draws
import Derived.Deep.LoopGhost
import Derived.WalkKit
import Derived.WalkSpells
import Derived.WalkSmall
import Derived.Lib.OthersKept
import Derived.Lib.Hide
import Derived.Lib.Strings
import Derived.Lib.Join
import Derived.Laws.OwnMore
import Derived.Laws.BytesArg
import Derived.Stop.LaidErr
import Derived.WalkLawsBesides
import Derived.LaidEql
import Derived.Stop.Asserts
import Derived.Below
import Derived.Stop.LaidTwo
import Derived.ChangeVars
import Derived.Deep.DeepHandedRow
import Derived.Deep.RegionWith
import Derived.OneCell
import Derived.Lib.SliceRun
import Derived.Lib.Overlaps
import Derived.Lib.AppendZerosOnto
import Derived.Laws.NewBlocks
import Derived.Deep.RegionLaw
import Derived.RangeFuncNested
import Derived.RangeFuncBound
import Derived.RangeFuncCalls
import Derived.RangeFuncLeaves
import Derived.RangeFuncBox
import Derived.Shelf.Abstract
import Derived.Shelf.RegionOpen
import Derived.OwnWalkIn
import Derived.TacticsInMore
import Derived.LoopNIn
import Derived.LoopIn
import Derived.Deep.Cut
import Derived.Deep.CutRange
import Derived.Deep.CutBlock
import Derived.Laws.AppendOwnNone
import Derived.Maps.RangeWalk
import Derived.Maps.Ext
import Derived.Lib.SlMapFilter
/- MergeTrace, MergeMany of the model. -/
namespace Go.Proofs.YtibekkfbpmloiabGreatDoor.Recs
set_option maxRecDepth 100000
open Go.RowKit Paths Errs

set_option maxHeartbeats 3200000 in
theorem l07Merge_any (v : Value) (LL : List (List R)) (w : World) (h : StkSl w v LL) (hl : LL.length ≤ 5) (hok : ∀ l ∈ LL, layerOK l = true) :
    Calls Tryz.prog 90 #[v] w fun e w' => ∃ x z, e = .returned (.tuple #[x, z]) ∧ Below w.heap.size w w' ∧ RowOf w' w.heap.size x (mmL LL).length (mmL LL) ∧ RowK w' w.heap.size z (picksL (wins LL)).length (picksL (wins LL)) := by
  obtain ⟨i0, hi, hI0, hI1, hI2⟩ := info_parts recInfo
  obtain ⟨j0, hj, hJ0, hJ1, hJ2⟩ := info_parts pickInfo
  have hfine : ∀ l ∈ LL, Fine l := fun l hm => fine_layer (hok l hm)
  have hP80 := pathsL_len (LL := LL) (fun l hm => layer_len (hok l hm)) hl
  have HWS := Lib.hid (winL_sorted LL)
  have HWF := Lib.hid (winL_fault hfine)
  have HPA := l07Paths_any v LL w h hl hok
  have HWI : Hid (∀ q ∈ pathsL LL, ∀ W, Below w.heap.size w W → Calls Tryz.prog 97 #[v, .string q] W fun e w'' => e = .returned (.tuple #[(winC LL q).1.val, .int .i64 ((winC LL q).2 : Int)]) ∧ Below W.heap.size W w'') := fun q hq W hW => l07Winner_any v LL q W (h.below hW) hl hok (path_of_path hfine hq)
  have HPN : Hid (∀ q ∈ pathsL LL, 0 < (winC LL q).2 → (winC LL q).1.p = q) := fun q _ hp => (win_rec hp).1
  obtain ⟨vA, vcap, rfl⟩ := h.form
  clear hfine h
  go_enter Tryz.func90, Tryz.ntmps90
  go_wp2_with fail
  refine HPA.mono ?_
  rintro e w1 ⟨pv0, rfl, hb1, hp1⟩
  obtain ⟨hpo, g, pcap, rfl, _, hg1, hpc, hpm⟩ := hp1
  have HPO := Lib.hid hpo
  have ho0 : (w1.alloc (.cells #[] 53)).ownsRow w1.heap.size 53 5 (.slice (some ⟨w1.heap.size, 0, none⟩) 0 0) 0 [] := World.ownsRow_lit w1 #[] 0 (Nat.le_refl _) (Nat.zero_le _) rfl
  have bA : Below w1.heap.size w1 (w1.alloc (.cells #[] 53)) := (Below.refl _ _).alloc (Nat.le_refl _) _
  have hk0 : ((w1.alloc (.cells #[] 53)).alloc (.cells #[] 59)).ownsRow w1.heap.size 59 2 (.slice (some ⟨w1.heap.size + 1, 0, none⟩) 0 0) 0 [] := by
    have := World.ownsRow_lit (e := 59) (size := 2) (base := w1.heap.size) (w1.alloc (.cells #[] 53)) #[] 0 (by simp) (Nat.zero_le _) rfl
    rw [World.size_alloc] at this
    exact this
  have HO0 := Lib.hid (ho0.alloc (.cells #[] 59))
  have HK0 := Lib.hid hk0
  have BB : Hid (Below w1.heap.size w1 ((w1.alloc (.cells #[] 53)).alloc (.cells #[] 59))) := bA.alloc bA.size _
  clear hpo ho0 hk0 bA HPA
  go_wp2_with fail
  go_loopw [5, 6, 7] (fun f z i wr => ∃ (k : Nat) (M : List (R × Nat)), k ≤ (pathsL LL).length ∧ i = .int .i64 k ∧ Hid (M = winsOf LL ((pathsL LL).take k)) ∧ Hid (M.length ≤ 80) ∧ Hid (RowOf wr w1.heap.size f M.length (M.map Prod.fst)) ∧ Hid (RowK wr w1.heap.size z M.length (picksL M)) ∧ Below w1.heap.size w1 wr) (fun _ _ i _ => (pathsL LL).length - (intOf i).toNat)
  case atStart => exact ⟨0, [], by omega, rfl, rfl, by show _ ≤ _; simp, ⟨rfl, HO0.out⟩, ⟨rfl, HK0.out⟩, BB.out⟩
  case round =>
    obtain ⟨k, M, hk, rfl, HM, HML, HRO, HRK, hbw⟩ := hrel
    have hbv := hb1.trans (hbw.mono hb1.size)
    obtain ⟨fA, fcap, rfl⟩ := HRO.out.form
    obtain ⟨zA, zcap, rfl⟩ := HRK.out.form
    by_cases hlt : k < (pathsL LL).length
    · have hq := List.getElem_mem hlt
      have hcu : wr.cell? ⟨g, k, none⟩ = some (.string (pathsL LL)[k]) := by
        have h1 := (own_below HPO.out hbw).cellAt k (by omega)
        rw [show (vS (pathsL LL))[k]? = some (.string (pathsL LL)[k]) by unfold vS; rw [List.getElem?_map, List.getElem?_eq_getElem hlt]; rfl] at h1
        simpa using h1
      have hi1 : (k : Int) < ((pathsL LL).length : Int) := by omega
      have hi0 : (0 : Int) ≤ (k : Int) := by omega
      have hW := HWI.out _ hq wr hbv
      have HST := Lib.hid (wins_step (LL := LL) hlt)
      have HPq := Lib.hid (HPN.out _ hq)
      have hMl := HML.out
      generalize hQ : (pathsL LL)[k] = q at *
      generalize hP : winC LL q = P at *
      have hPL : k + 1 ≤ (pathsL LL).length := hlt
      unfold R.val at hW
      clear hQ hP hq
      go_wp2_with fail
      refine hW.mono ?_
      rintro e w3 ⟨rfl, hb3⟩
      have c3 := hbw.trans (hb3.mono hbw.size)
      have hr3 := (RowOf.below HRO.out hb3).2
      have hk3 := (RowG.below HRK.out hb3).2
      have cA := c3.alloc c3.size (.cells #[.int .i64 P.1.k, .string P.1.p, .string P.1.b, .int .i64 P.1.m, .bool P.1.o] 53)
      have hrA := hr3.alloc (.cells #[.int .i64 P.1.k, .string P.1.p, .string P.1.b, .int .i64 P.1.m, .bool P.1.o] 53)
      have hkA := hk3.alloc (.cells #[.int .i64 P.1.k, .string P.1.p, .string P.1.b, .int .i64 P.1.m, .bool P.1.o] 53)
      clear hW
      by_cases hpos : 0 < P.2
      · have HN : Hid (M ++ [P] = winsOf LL ((pathsL LL).take (k + 1))) := by show _ = _; rw [HST.out, if_pos hpos, ← HM.out]
        have hNl : (M ++ [P]).length ≤ 80 := by
          rw [HN.out]
          have := winsOf_len LL ((pathsL LL).take (k + 1))
          rw [List.length_take] at this
          omega
        have HNL := Lib.hid hNl
        have hpq := HPq.out hpos
        have HPQ := Lib.hid hpq
        have hd : decide ((0 : Int) < (P.2 : Int)) = true := decide_eq_true (by omega)
        have hd' : decide (0 < P.2) = true := decide_eq_true hpos
        have HNW : Hid (∀ j u, (R.cs P.1)[j]? = some u → ((w3.alloc (.cells #[.int .i64 P.1.k, .string P.1.p, .string P.1.b, .int .i64 P.1.m, .bool P.1.o] 53)).alloc (.cells #[.int .i64 P.1.k, .string P.1.p, .string P.1.b, .int .i64 P.1.m, .bool P.1.o] 53)).cell? ((⟨w3.heap.size + 1, 0, none⟩ : Addr).add j) = some u) := by
          have h := rec_cells_new (w3.alloc (.cells #[.int .i64 P.1.k, .string P.1.p, .string P.1.b, .int .i64 P.1.m, .bool P.1.o] 53)) P.1 53
          rw [World.size_alloc] at h
          exact h
        have hone := rec_one P.1
        have HZ : Hid (w1.heap.size ≤ (w3.alloc (.cells #[.int .i64 P.1.k, .string P.1.p, .string P.1.b, .int .i64 P.1.m, .bool P.1.o] 53)).heap.size) := cA.size
        have hcu3 : (w3.alloc (.cells #[.int .i64 P.1.k, .string P.1.p, .string P.1.b, .int .i64 P.1.m, .bool P.1.o] 53)).cell? ⟨g, k, none⟩ = some (.string q) := ((hb3.alloc hb3.size _).cell (p := ⟨g, k, none⟩) (Nat.lt_of_lt_of_le hg1 hbw.size)).trans hcu
        have HCU3 := Lib.hid hcu3
        clear HST hNl hpq hcu hcu3
        have HCA := Lib.hid cA
        have HHR := Lib.hid hrA
        have HHK := Lib.hid hkA
        have HPOg : Hid (∀ w9, Below w1.heap.size w1 w9 → w9.cell? ⟨g, k, none⟩ = some (.string q)) := fun w9 c9 => by
          have h1 := (own_below HPO.out c9).cellAt k (by omega)
          have h4 := (own_below HPO.out HCA.out).cellAt k (by omega)
          rw [h1, ← h4]
          exact HCU3.out
        go_wp2_with (first
          | (at_builtin; refine wpList_append_own _ rfl _ _ 27 rfl w1.heap.size 53 i0 (.agg #[.int .i64 0, .string ByteArray.empty, .string ByteArray.empty, .int .i64 0, .bool false]) 5 56 Tryz.underlying27 hi hI0 hI1 hI2 rfl (by decide) _ _ _ rfl (HHR.out.alloc _) ⟨w3.heap.size + 1, 0, none⟩ 1 1 (R.cs P.1) rfl rfl HNW.out hone (by unfold maxLen; omega) (by omega) (by have := c3.size; simp; omega) ?_; intro v' w9 hown' hgrow9 hnil9; have hkB := HHK.out.alloc (.cells #[.int .i64 P.1.k, .string P.1.p, .string P.1.b, .int .i64 P.1.m, .bool P.1.o] 53); have hk9 := Lib.hid (hkB.kept hgrow9 (row_apart (by decide) hkB (HHR.out.alloc (.cells #[.int .i64 P.1.k, .string P.1.p, .string P.1.b, .int .i64 P.1.m, .bool P.1.o] 53)))); have c9 := (HCA.out.alloc HCA.out.size (.cells #[.int .i64 P.1.k, .string P.1.p, .string P.1.b, .int .i64 P.1.m, .bool P.1.o] 53)).grown hgrow9 (HCA.out.alloc HCA.out.size (.cells #[.int .i64 P.1.k, .string P.1.p, .string P.1.b, .int .i64 P.1.m, .bool P.1.o] 53)).size (fun j hj => (HHR.out.lt j hj).1); have HO9 := Lib.hid hown'; have hcu9 := HPOg.out _ c9; have hsz9 := c9.size; clear hkB hgrow9 hown' hnil9)
          | (at_builtin; refine wpList_append_own _ rfl _ _ 49 rfl w1.heap.size 59 j0 (.agg #[.string ByteArray.empty, .int .i64 0]) 2 24 Tryz.underlying49 hj hJ0 hJ1 hJ2 rfl (by decide) _ _ _ rfl (hk9.out.alloc _) ⟨w9.heap.size, 0, none⟩ 1 1 (csK (q, (P.2 : Int))) rfl rfl (csK_new _ _ _) (csK_one _) (by unfold maxLen; omega) (by omega) (by simp; omega) ?_; intro v2 w10 hown2 hgrow10 hnil10))
        have hrB := HO9.out.alloc (.cells #[.string q, .int .i64 (P.2 : Int)] 59)
        have hr10 := hrB.kept hgrow10 (row_apart (by decide) hrB (hk9.out.alloc (.cells #[.string q, .int .i64 (P.2 : Int)] 59)))
        have e1 : (M ++ [P]).map Prod.fst = M.map Prod.fst ++ [P.1] := by simp
        have e2 : picksL (M ++ [P]) = picksL M ++ [(q, (P.2 : Int))] := by unfold picksL; rw [List.map_append, ← HPQ.out]; rfl
        exact ⟨⟨k + 1, M ++ [P], by omega, by go_num, HN, HNL.out, by
            show RowOf _ _ _ _ _
            rw [e1, List.length_append, List.length_singleton]
            refine ⟨by rw [List.length_append, List.length_map, List.length_singleton], ?_⟩
            rw [flat_snoc]
            exact hr10, by
            show RowK _ _ _ _ _
            rw [e2, List.length_append, List.length_singleton]
            refine ⟨by unfold picksL; rw [List.length_append, List.length_map, List.length_singleton], ?_⟩
            rw [flatG_snoc]
            exact hown2, (c9.alloc c9.size _).grown hgrow10 (c9.alloc c9.size _).size (fun j hj => (hk9.out.lt j hj).1)⟩, by simp [intOf]; omega⟩
      · have HN : Hid (M = winsOf LL ((pathsL LL).take (k + 1))) := by show _ = _; rw [HST.out, if_neg hpos, ← HM.out]
        have hd : decide ((0 : Int) < (P.2 : Int)) = false := decide_eq_false (by omega)
        have hd' : decide (0 < P.2) = false := decide_eq_false hpos
        clear HST
        go_wp2_with fail
        exact ⟨⟨k + 1, M, by omega, by go_num, HN, HML, ⟨HRO.out.1, hrA⟩, ⟨HRK.out.1, hkA⟩, cA⟩, by simp [intOf]; omega⟩
    · have HF : Hid (M = wins LL) := by show _ = _; rw [wins_of, HM.out, List.take_of_length_le (by omega)]
      have hMl := HML.out
      have HMW : Hid (M.map Prod.fst = winL LL) := by show _ = _; rw [HF.out]; rfl
      have hMS : Sorted (M.map Prod.fst) := by rw [HMW.out]; exact HWS.out
      have hMF : ∀ r ∈ M.map Prod.fst, r.fault = 0 := by rw [HMW.out]; exact HWF.out
      have hrl : RowOf wr w1.heap.size (.slice fA M.length fcap) (M.map Prod.fst).length (M.map Prod.fst) := by rw [List.length_map]; exact HRO.out
      have HC4 := l03Canon_gen _ (M.map Prod.fst) wr hrl.sl hMS hMF (by rw [List.length_map]; omega)
      have HML2 : Hid (mmL LL = canonL (M.map Prod.fst)) := by show _ = _; unfold mmL; rw [HMW.out]
      clear hMS hMF hrl
      go_wp2_with fail
      refine HC4.mono ?_
      rintro e w5 ⟨f, rfl, hb5, hf⟩
      go_wp2_with fail
      go_ret2
      exact ⟨_, _, rfl, hbv.trans (hb5.mono hbv.size), by rw [HML2.out]; exact ⟨hf.1, own_le hf.2 hbv.size⟩, by
        have e : (picksL (wins LL)).length = M.length := by rw [← HF.out]; unfold picksL; exact List.length_map _
        rw [e, ← HF.out]
        exact (RowG.below HRK.out hb5).down hb1.size⟩

set_option maxHeartbeats 1600000 in
theorem mergeMany_spec (v : Value) (LL : List (List R)) (w : World) (h : StkSl w v LL) (hl : LL.length ≤ 1048576) (hll : ∀ l ∈ LL, l.length ≤ 1048576) :
    Calls Tryz.prog 33 #[v] w fun e w' => ∃ z, e = .returned (.tuple #[z, .int .i64 (mmC LL)]) ∧ Below w.heap.size w w' ∧ RowOf w' w.heap.size z (mmR LL).length (mmR LL) := by
  have HS := Lib.hid h
  obtain ⟨vA, vcap, rfl⟩ := h.form
  have HOK := l05Stack_any _ LL w h hl hll
  have E0 : Hid (∀ W, Below w.heap.size w W → (W.alloc (.cells #[] 53)).ownsRow w.heap.size 53 5 (.slice (some ⟨W.heap.size, 0, none⟩) 0 0) 0 []) := fun W hW => World.ownsRow_lit W #[] 0 hW.size (Nat.zero_le _) rfl
  by_cases h1 : 4096 < LL.length
  · have hd : decide ((4096 : Int) < (LL.length : Int)) = true := by simp; omega
    have HQ := Lib.hid (mm_bad (s_long h1) (by decide))
    clear h1
    go_enter Tryz.func33, Tryz.ntmps33
    go_wp2_with fail
    go_ret2
    exact ⟨_, by rw [HQ.out.1]; rfl, (Below.refl _ _).alloc (Nat.le_refl _) _, by rw [HQ.out.2]; exact ⟨rfl, E0.out _ (Below.refl _ _)⟩⟩
  have hd1 : decide ((4096 : Int) < (LL.length : Int)) = false := by simp; omega
  cases ho : stackOK LL with
  | false =>
    have HQ := Lib.hid (mm_bad (s_bad h1 ho) (by decide))
    rw [ho] at HOK
    clear h1 ho
    go_enter Tryz.func33, Tryz.ntmps33
    go_wp2_with fail
    refine HOK.mono ?_
    rintro e w1 ⟨rfl, c0⟩
    go_wp2_with fail
    go_ret2
    exact ⟨_, by rw [HQ.out.1]; rfl, c0.alloc c0.size _, by rw [HQ.out.2]; exact ⟨rfl, E0.out _ c0⟩⟩
  | true =>
    have H0 := Lib.hid (s_ok h1 ho)
    have hst := stack_of ho
    have HAL := fun w' hb => l07Merge_any (.slice vA LL.length vcap) LL w' (HS.out.below hb) hst.1 hst.2
    rw [ho] at HOK
    clear h1 ho hst
    go_enter Tryz.func33, Tryz.ntmps33
    go_wp2_with fail
    refine HOK.mono ?_
    rintro e w1 ⟨rfl, c0⟩
    go_wp2_with fail
    refine (HAL _ c0).mono ?_
    rintro e w4 ⟨f, z, rfl, hb4, hf, hz⟩
    have c4 := c0.trans (hb4.mono c0.size)
    obtain ⟨fA, fcap, rfl⟩ := hf.form
    have HF := Lib.hid hf
    clear hf hz
    by_cases h16 : 16 < (mmL LL).length
    · have HQ := Lib.hid (mm_full H0.out h16)
      have hd : decide ((16 : Int) < ((mmL LL).length : Int)) = true := by simp; omega
      clear h16
      go_wp2_with fail
      go_ret2
      exact ⟨_, by rw [HQ.out.1]; rfl, c4.alloc c4.size _, by rw [HQ.out.2]; exact ⟨rfl, E0.out _ c4⟩⟩
    · have HQ := Lib.hid (mm_fine H0.out h16)
      have hd : decide ((16 : Int) < ((mmL LL).length : Int)) = false := by simp; omega
      clear h16
      go_wp2_with fail
      go_ret2
      exact ⟨_, by rw [HQ.out.1]; rfl, c4, by rw [HQ.out.2]; exact ⟨HF.out.1, own_le HF.out.2 c0.size⟩⟩
end Go.Proofs.YtibekkfbpmloiabGreatDoor.Recs

/- For laws over stacks: the laws' own sizes with their sums; blocks between two numbers; marks in a stack. -/
namespace Go.Proofs.YtibekkfbpmloiabGreatDoor.Recs
set_option maxRecDepth 100000
open Go.RowKit Paths

/-- The rows of a stack lie from base on, below top. -/
theorem StkRow.low {w : World} {base : Nat} {v : Value} {LL : List (List R)} (h : StkRow w base v LL) : ∃ (g : Nat) (us : List Value), v = .slice (some ⟨g, 0, none⟩) LL.length LL.length ∧ us.length = LL.length ∧ g < w.heap.size ∧ (∀ (i : Nat) (u : Value), us[i]? = some u → w.cell? ⟨g, i, none⟩ = some u) ∧
    ∀ (i : Nat) (u : Value) (l : List R), us[i]? = some u → LL[i]? = some l → RowOf w base u l.length l ∧ u.ownBlock ≠ some g ∧ ∀ (j : Nat) (u' : Value), us[j]? = some u' → ∀ c, u.ownBlock = some c → u'.ownBlock = some c → i = j := by
  obtain ⟨g, us, rfl, hn, ho, h1, h2⟩ := h
  refine ⟨g, us, rfl, hn, (ho.lt g rfl).2, fun i u hi => ?_, fun i u l hi hl => ?_⟩
  · have hlt : i < us.length := (List.getElem?_eq_some_iff.1 hi).1
    have := ho.cellAt i (by omega)
    rw [hi] at this
    exact this
  · have hlt : i < LL.length := (List.getElem?_eq_some_iff.1 hl).1
    refine ⟨(h1 i u l hlt hi hl).1, (h1 i u l hlt hi hl).2, fun j u' hj c hc hc' => ?_⟩
    have hjl : j < us.length := (List.getElem?_eq_some_iff.1 hj).1
    exact h2 i j u u' c hlt (by omega) hi hj hc hc'

theorem StkRow.top {w w' : World} {base : Nat} {v : Value} {LL : List (List R)} (h : StkRow w base v LL) (hb : Below w.heap.size w w') : ∀ (g : Nat) (us : List Value), v = .slice (some ⟨g, 0, none⟩) LL.length LL.length → us.length = LL.length → (∀ (i : Nat) (u : Value), us[i]? = some u → w'.cell? ⟨g, i, none⟩ = some u) → ∀ (i : Nat) (u : Value), us[i]? = some u → ∀ c, u.ownBlock = some c → c < w.heap.size := by
  obtain ⟨g, us, rfl, hn, hgl, hcs, hrs⟩ := h.low
  intro g' us' e hn' hc' i u hi c hc
  cases e
  have hlt : i < us'.length := (List.getElem?_eq_some_iff.1 hi).1
  have h1 := hcs i (us[i]'(by omega)) (List.getElem?_eq_getElem _)
  have h2 := (hb.cell (p := ⟨g, i, none⟩) hgl).symm.trans (hc' i u hi)
  rw [h1] at h2
  cases h2
  exact ((hrs i _ _ (List.getElem?_eq_getElem (by omega)) (List.getElem?_eq_getElem (by omega))).1.2.lt c hc).2

end Go.Proofs.YtibekkfbpmloiabGreatDoor.Recs

/- Stacks in memory of their own, of any capacity: what an append leaves; marks in them, and whether the marks are held. -/
namespace Go.Proofs.YtibekkfbpmloiabGreatDoor.Recs
set_option maxRecDepth 100000
open Go.RowKit Paths

/-- A slice of slices of whatever capacity, all in memory of their own: the row of slices from hb on, the rows in it from base on. -/
def StkOwn (w : World) (hb base : Nat) (v : Value) (LL : List (List R)) : Prop :=
  ∃ us : List Value, us.length = LL.length ∧ w.ownsRow hb 27 1 v LL.length us ∧
    (∀ (i : Nat) (u : Value) (l : List R), us[i]? = some u → LL[i]? = some l → RowOf w base u l.length l) ∧
    ∀ (i k : Nat) (u u' : Value) (c : Nat), us[i]? = some u → us[k]? = some u' → u.ownBlock = some c → u'.ownBlock = some c → i = k
theorem rows_apart {w : World} {b b' : Nat} {u v : Value} {n m : Nat} {xs ys : List Value} (h : w.ownsRow b 53 5 u n xs) (k : w.ownsRow b' 27 1 v m ys) : u.ownBlock = none ∨ u.ownBlock ≠ v.ownBlock := by
  rcases k.2 with ⟨rfl, _⟩ | ⟨g, cap, cur, rfl, _, hg, _⟩
  · cases hu : u.ownBlock with
    | none => exact .inl rfl
    | some c => exact .inr (fun e => by cases e)
  · exact .inr (own_not h (by decide) hg)
theorem StkOwn.nil (w : World) (hb base : Nat) : StkOwn w hb base (.slice none 0 0) [] := ⟨[], rfl, World.ownsRow_nil _ _ _ _, fun i u l h => by simp at h, fun i k u u' c h => by simp at h⟩
theorem StkOwn.sl {w : World} {hb base : Nat} {v : Value} {LL : List (List R)} (h : StkOwn w hb base v LL) : StkSl w v LL := by
  obtain ⟨us, hn, ho, h1, _⟩ := h
  have ho2 := ho
  rcases ho.2 with ⟨rfl, h0⟩ | ⟨g, cap, cur, rfl, _, hg, hc, _⟩
  · exact ⟨none, 0, by rw [h0], by omega, fun h => by omega⟩
  · refine ⟨_, cap, rfl, hc, fun _ => ⟨g, 0, rfl, (Array.getElem?_eq_some_iff.1 hg).1, fun i l hi => ?_⟩⟩
    have hlt : i < LL.length := (List.getElem?_eq_some_iff.1 hi).1
    refine ⟨us[i]'(by omega), ?_, (h1 i _ l (List.getElem?_eq_getElem (by omega)) hi).sl⟩
    have := ho2.cellAt i (by omega)
    rw [List.getElem?_eq_getElem (by omega)] at this
    rw [Nat.zero_add]
    exact this
theorem StkOwn.below {w w' : World} {hb base : Nat} {v : Value} {LL : List (List R)} (h : StkOwn w hb base v LL) (hw : Below w.heap.size w w') : StkOwn w' hb base v LL := by
  obtain ⟨us, hn, ho, h1, h2⟩ := h
  exact ⟨us, hn, own_below ho hw, fun i u l hi hl => (h1 i u l hi hl).below hw, h2⟩
/-- One more behind it. -/
theorem stk_snoc {w w9 : World} {hb base : Nat} {v v' x : Value} {LL : List (List R)} {l : List R} {us : List Value} (hn : us.length = LL.length) (ho : w.ownsRow hb 27 1 v LL.length us)
    (h1 : ∀ (i : Nat) (u : Value) (l : List R), us[i]? = some u → LL[i]? = some l → RowOf w base u l.length l)
    (h2 : ∀ (i k : Nat) (u u' : Value) (c : Nat), us[i]? = some u → us[k]? = some u' → u.ownBlock = some c → u'.ownBlock = some c → i = k)
    (hx : RowOf w base x l.length l) (hxa : ∀ (i : Nat) (u : Value) (c : Nat), us[i]? = some u → u.ownBlock = some c → x.ownBlock ≠ some c)
    (hown : w9.ownsRow hb 27 1 v' (LL.length + 1) (us ++ [x])) (hg : w.grownBy w9 v.ownBlock) : StkOwn w9 hb base v' (LL ++ [l]) := by
  refine ⟨us ++ [x], by simp [hn], by rw [List.length_append]; exact hown, fun i u q hi hq => ?_, fun i k u u' c hi hk hc hc' => ?_⟩
  · rcases Nat.lt_or_ge i us.length with hlt | hge
    · rw [List.getElem?_append_left hlt] at hi
      rw [List.getElem?_append_left (by omega)] at hq
      have := h1 i u q hi hq
      exact ⟨rfl, this.2.kept hg (rows_apart this.2 ho)⟩
    · rw [List.getElem?_append_right hge] at hi
      rw [List.getElem?_append_right (by omega)] at hq
      have e : i - us.length = 0 := by
        have := (List.getElem?_eq_some_iff.1 hi).1
        simp at this
        omega
      have e' : i - LL.length = 0 := by omega
      rw [e] at hi
      rw [e'] at hq
      cases hi
      cases hq
      exact ⟨rfl, hx.2.kept hg (rows_apart hx.2 ho)⟩
  · have key : ∀ (j : Nat) (y : Value), (us ++ [x])[j]? = some y → (j < us.length ∧ us[j]? = some y) ∨ (j = us.length ∧ y = x) := by
      intro j y hj
      rcases Nat.lt_or_ge j us.length with hlt | hge
      · rw [List.getElem?_append_left hlt] at hj
        exact .inl ⟨hlt, hj⟩
      · rw [List.getElem?_append_right hge] at hj
        have e : j - us.length = 0 := by
          have := (List.getElem?_eq_some_iff.1 hj).1
          simp at this
          omega
        rw [e] at hj
        cases hj
        exact .inr ⟨by omega, rfl⟩
    rcases key i u hi with ⟨_, h3⟩ | ⟨h3, rfl⟩
    · rcases key k u' hk with ⟨_, h4⟩ | ⟨_, rfl⟩
      · exact h2 i k u u' c h3 h4 hc hc'
      · exact absurd hc' (hxa i u c h3 hc)
    · rcases key k u' hk with ⟨_, h4⟩ | ⟨h4, _⟩
      · exact absurd hc (hxa k u' c h4 hc')
      · omega
end Go.Proofs.YtibekkfbpmloiabGreatDoor.Recs

/- Stacks that are read: parts of them; copies of their layers, of the program. -/
namespace Go.Proofs.YtibekkfbpmloiabGreatDoor.Recs
set_option maxRecDepth 100000
open Go.RowKit Paths

/-- A slice that append can read: nil, or one with an address. -/
def Plain (u : Value) : Prop := u = .slice none 0 0 ∨ ∃ a m c, u = .slice (some a) m c
/-- A slice of such slices that reads as the lists LL. -/
def StkGood (w : World) (v : Value) (LL : List (List R)) : Prop :=
  ∃ A cap, v = .slice A LL.length cap ∧ LL.length ≤ cap ∧ (0 < cap → ∃ b off, A = some ⟨b, off, none⟩ ∧ b < w.heap.size ∧ ∀ (i : Nat) (l : List R), LL[i]? = some l → ∃ u, w.cell? ⟨b, off + i, none⟩ = some u ∧ RecSl w u l ∧ Plain u)
theorem StkGood.sl {w : World} {v : Value} {LL : List (List R)} (h : StkGood w v LL) : StkSl w v LL := by
  obtain ⟨A, cap, rfl, hc, h⟩ := h
  refine ⟨A, cap, rfl, hc, fun hn => ?_⟩
  obtain ⟨b, off, e, hb, hcell⟩ := h (by omega)
  exact ⟨b, off, e, hb, fun i l hi => by obtain ⟨u, h1, h2, _⟩ := hcell i l hi; exact ⟨u, h1, h2⟩⟩
theorem StkGood.below {w w' : World} {v : Value} {LL : List (List R)} (h : StkGood w v LL) (hb : Below w.heap.size w w') : StkGood w' v LL := by
  obtain ⟨A, cap, rfl, hc, h⟩ := h
  refine ⟨A, cap, rfl, hc, fun hn => ?_⟩
  obtain ⟨b, off, e, hlt, hcell⟩ := h hn
  refine ⟨b, off, e, Nat.lt_of_lt_of_le hlt hb.size, fun i l hi => ?_⟩
  obtain ⟨u, h1, h2, h3⟩ := hcell i l hi
  exact ⟨u, (hb.cell (p := ⟨b, off + i, none⟩) hlt).trans h1, h2.below hb, h3⟩
theorem row_plain {w : World} {base : Nat} {v : Value} {n : Nat} {M : List R} (h : RowOf w base v n M) : Plain v := by
  rcases h.2.2 with ⟨e, _⟩ | ⟨g, cap, cur, e, _⟩
  · exact .inl e
  · exact .inr ⟨_, _, _, e⟩
theorem StkRow.good {w : World} {base : Nat} {v : Value} {LL : List (List R)} (h : StkRow w base v LL) : StkGood w v LL := by
  obtain ⟨g, us, rfl, hn, ho, h1, _⟩ := h
  refine ⟨_, _, rfl, Nat.le_refl _, fun hp => ⟨g, 0, rfl, (ho.lt g rfl).2, fun i l hi => ?_⟩⟩
  have hlt : i < LL.length := (List.getElem?_eq_some_iff.1 hi).1
  have hr := (h1 i (us[i]'(by omega)) l hlt (List.getElem?_eq_getElem (by omega)) hi).1
  refine ⟨us[i]'(by omega), ?_, hr.sl, row_plain hr⟩
  have := ho.cellAt i (by omega)
  rw [List.getElem?_eq_getElem (by omega)] at this
  rw [Nat.zero_add]
  exact this
theorem StkGood.take {w : World} {A : Option Addr} {n cap : Nat} {LL : List (List R)} (h : StkGood w (.slice A n cap) LL) {k : Nat} (hk : k ≤ LL.length) : StkGood w (.slice A k cap) (LL.take k) := by
  obtain ⟨A', c, e, hc, h⟩ := h
  cases e
  have hl : (LL.take k).length = k := by rw [List.length_take]; omega
  refine ⟨A, cap, by rw [hl], by rw [hl]; omega, fun h0 => ?_⟩
  obtain ⟨b, off, e, hb, hcell⟩ := h h0
  refine ⟨b, off, e, hb, fun i l hi => hcell i l ?_⟩
  have hik : i < k := by have := (List.getElem?_eq_some_iff.1 hi).1; omega
  rw [List.getElem?_take_of_lt hik] at hi
  exact hi
theorem StkGood.drop {w : World} {b off n cap : Nat} {LL : List (List R)} (h : StkGood w (.slice (some ⟨b, off, none⟩) n cap) LL) {k : Nat} (hk : k ≤ LL.length) (hkc : k < cap) : StkGood w (.slice (some ⟨b, off + k, none⟩) (n - k) (cap - k)) (LL.drop k) := by
  obtain ⟨A', c, e, hc, h⟩ := h
  cases e
  have hl : (LL.drop k).length = LL.length - k := List.length_drop
  refine ⟨_, _, by rw [hl], by rw [hl]; omega, fun h0 => ?_⟩
  obtain ⟨b', off', e, hb, hcell⟩ := h (by omega)
  cases e
  refine ⟨b, off + k, rfl, hb, fun i l hi => ?_⟩
  rw [List.getElem?_drop] at hi
  have := hcell (k + i) l hi
  rw [Nat.add_assoc]
  exact this
end Go.Proofs.YtibekkfbpmloiabGreatDoor.Recs

/- Two stacks of their own memory in one. -/
namespace Go.Proofs.YtibekkfbpmloiabGreatDoor.Recs
set_option maxRecDepth 100000
open Go.RowKit Paths

theorem StkOwn.down {w : World} {hb hb' base base' : Nat} {v : Value} {LL : List (List R)} (h : StkOwn w hb base v LL) (h0 : hb' ≤ hb) (hd : base' ≤ base) : StkOwn w hb' base' v LL := by
  obtain ⟨us, hn, ho, h1, h2⟩ := h
  exact ⟨us, hn, own_down ho h0, fun i u l hi hl => ⟨(h1 i u l hi hl).1, own_down (h1 i u l hi hl).2 hd⟩, h2⟩
end Go.Proofs.YtibekkfbpmloiabGreatDoor.Recs

/- Replaced, plain; of the model. -/
namespace Go.Proofs.YtibekkfbpmloiabGreatDoor.Recs
set_option maxRecDepth 100000
open Go.RowKit Paths

/-- A part of a stack that is read: its address as the machine lays it. -/
theorem StkGood.part {w : World} {A : Option Addr} {n cap : Nat} {LL : List (List R)} (h : StkGood w (.slice A n cap) LL) {f t : Nat} (hf : f ≤ t) (ht : t ≤ LL.length) :
    (cap = f → StkGood w (.slice A (t - f) (cap - f)) ((LL.take t).drop f)) ∧ (cap ≠ f → ∃ b off, A = some ⟨b, off, none⟩ ∧ StkGood w (.slice (some ⟨b, off + f, none⟩) (t - f) (cap - f)) ((LL.take t).drop f)) := by
  have hg := h
  obtain ⟨A', c, e, hc, h⟩ := h
  cases e
  have htl : (LL.take t).length = t := by rw [List.length_take]; omega
  have hl : ((LL.take t).drop f).length = t - f := by rw [List.length_drop, htl]
  refine ⟨fun hcf => ⟨_, _, by rw [hl], by rw [hl]; omega, fun h0 => by omega⟩, fun hcf => ?_⟩
  obtain ⟨b, off, rfl, hb, hcell⟩ := h (by omega)
  refine ⟨b, off, rfl, ?_⟩
  have h1 := (hg.take (k := t) ht).drop (k := f) (by rw [htl]; exact hf) (by omega)
  exact h1
end Go.Proofs.YtibekkfbpmloiabGreatDoor.Recs

/- A tree as a map of paths: what the map in memory holds, and what a store, a deletion and a sweep make of it. -/
namespace Go.Proofs.YtibekkfbpmloiabGreatDoor.Recs
set_option maxRecDepth 100000
open Go.RowKit Paths Go.ChangeMaps

theorem bytes_eq {a b : ByteArray} (h : a.data.toList = b.data.toList) : a = b := by
  cases a; cases b
  simp only [Array.toList_inj] at h
  rw [h]

/-- How a node reads as an element of a map. -/
def nodD (r : R) : DataW Unit := .agg [.lit (.int .i64 r.k), .lit (.string r.p.data.toList), .lit (.string r.b.data.toList), .lit (.int .i64 r.m)]
def readN : Value → Option (DataW Unit × List MemPlace)
  | .agg cs => match cs.toList with
    | [.int .i64 k, .string p, .string b, .int .i64 m] => some (nodD ⟨k, m, p, b, false⟩, [])
    | _ => none
  | _ => none
def kd (r : R) : Lit × DataW Unit := (.string r.p.data.toList, nodD r)
/-- Block b is a map whose elements are the nodes t, each under its path. -/
def MapT (w : World) (b n : Nat) (t : List R) : Prop :=
  (∃ es, w.ownsMap Tryz.prog 9 readN b n (.map es) ∧ ∀ p, p ∈ es ↔ ∃ x ∈ t, p = kd x) ∧ ∀ x ∈ t, x.o = false
theorem MapT.made (w : World) : MapT (w.alloc (.map #[] 0)) w.heap.size 0 [] :=
  ⟨⟨[], World.ownsMap_made w _ _ _, fun p => by simp⟩, fun x hx => by cases hx⟩
theorem MapT.congr {w : World} {b n : Nat} {t t' : List R} (h : MapT w b n t) (he : ∀ x, x ∈ t' ↔ x ∈ t) : MapT w b n t' := by
  obtain ⟨⟨es, h1, h2⟩, h3⟩ := h
  exact ⟨⟨es, h1, fun p => (h2 p).trans ⟨fun ⟨x, hx, e⟩ => ⟨x, (he x).2 hx, e⟩, fun ⟨x, hx, e⟩ => ⟨x, (he x).1 hx, e⟩⟩⟩, fun x hx => h3 x ((he x).1 hx)⟩
theorem MapT.kept {w w' : World} {b n : Nat} {t : List R} {row : Option Nat} (h : MapT w b n t) (hg : w.grownBy w' row) (hne : some b ≠ row) : MapT w' b n t := by
  obtain ⟨⟨es, h1, h2⟩, h3⟩ := h
  exact ⟨⟨es, h1.kept hg hne, h2⟩, h3⟩
theorem MapT.mono {w : World} {b n n' : Nat} {t : List R} (h : MapT w b n t) (hn : n ≤ n') : MapT w b n' t := by
  obtain ⟨⟨es, h1, h2⟩, h3⟩ := h
  exact ⟨⟨es, h1.mono hn, h2⟩, h3⟩
theorem MapT.lt {w : World} {b n : Nat} {t : List R} (h : MapT w b n t) : b < w.heap.size := by
  obtain ⟨⟨es, h1, h2⟩, h3⟩ := h
  exact h1.lt
theorem below_grown {w w' : World} (h : Below w.heap.size w w') : w.grownBy w' none := ⟨h.os, h.tape, h.output, h.size, fun k hk _ => h.block k hk⟩
theorem MapT.below {w w' : World} {b n : Nat} {t : List R} (h : MapT w b n t) (hb : Below w.heap.size w w') : MapT w' b n t := h.kept (below_grown hb) (by simp)

theorem same_str {l m : List UInt8} : (Lit.string l).sameKey (.string m) = true ↔ l = m :=
  ⟨fun h => by have := WideAt.sameKey_eq h; cases this; rfl, fun h => by rw [h]; exact WideAt.sameKey_self trivial⟩
theorem kd_key {x : R} {q : ByteArray} : (kd x).1.sameKey (.string q.data.toList) = decide (x.p = q) := by
  rw [Bool.eq_iff_iff, kd, same_str, decide_eq_true_iff]
  exact ⟨bytes_eq, fun e => by rw [e]⟩
theorem MapT.put {w' : World} {b n : Nat} {es : List (Lit × DataW Unit)} {t : List R} (r : R) (hes : ∀ p, p ∈ es ↔ ∃ x ∈ t, p = kd x) (ht : ∀ x ∈ t, x.o = false) (hr : r.o = false)
    (ho : w'.ownsMap Tryz.prog 9 readN b n ((DataW.map es).put (.string r.p.data.toList) (nodD r))) : MapT w' b n (r :: t.filter fun x => decide (x.p ≠ r.p)) := by
  refine ⟨⟨_, ho, fun p => ?_⟩, fun x hx => ?_⟩
  · show p ∈ putKey _ _ es ↔ _
    unfold putKey
    rw [mem_insert_iff, List.mem_filter, hes]
    constructor
    · rintro (rfl | ⟨⟨x, hx, rfl⟩, hn⟩)
      · exact ⟨r, List.mem_cons_self, rfl⟩
      · refine ⟨x, List.mem_cons_of_mem _ (List.mem_filter.2 ⟨hx, ?_⟩), rfl⟩
        rw [notKey, kd_key] at hn
        simpa using hn
    · rintro ⟨x, hx, rfl⟩
      rcases List.mem_cons.1 hx with rfl | hx
      · exact .inl rfl
      · obtain ⟨h1, h2⟩ := List.mem_filter.1 hx
        refine .inr ⟨⟨x, h1, rfl⟩, ?_⟩
        rw [notKey, kd_key]
        simpa using h2
  · rcases List.mem_cons.1 hx with rfl | hx
    · exact hr
    · exact ht x (List.mem_filter.1 hx).1
end Go.Proofs.YtibekkfbpmloiabGreatDoor.Recs
