/- Parts of several texts of mine in one file (each begins with its own remark). -/
import Derived.Test.YtibekkfbpmloiabGreatDoorHA1
import Derived.Test.YtibekkfbpmloiabGreatDoorHA10
import Derived.Test.YtibekkfbpmloiabGreatDoorHA12
import Derived.Test.YtibekkfbpmloiabGreatDoorHA14
import Derived.Test.YtibekkfbpmloiabGreatDoorHA15
import Derived.Test.YtibekkfbpmloiabGreatDoorHA16
import Derived.Test.YtibekkfbpmloiabGreatDoorHA17
import Derived.Test.YtibekkfbpmloiabGreatDoorHA19
import Derived.Test.YtibekkfbpmloiabGreatDoorHA2
import Derived.Test.YtibekkfbpmloiabGreatDoorHA20
import Derived.Test.YtibekkfbpmloiabGreatDoorHA21
import Derived.Test.YtibekkfbpmloiabGreatDoorHA22
import Derived.Test.YtibekkfbpmloiabGreatDoorHA23
import Derived.Test.YtibekkfbpmloiabGreatDoorHA24
import Derived.Test.YtibekkfbpmloiabGreatDoorHA25
import Derived.Test.YtibekkfbpmloiabGreatDoorHA27
import Derived.Test.YtibekkfbpmloiabGreatDoorHA28
import Derived.Test.YtibekkfbpmloiabGreatDoorHA3
import Derived.Test.YtibekkfbpmloiabGreatDoorHA4
import Derived.Test.YtibekkfbpmloiabGreatDoorHA5
import Derived.Test.YtibekkfbpmloiabGreatDoorHA6
import Derived.Test.YtibekkfbpmloiabGreatDoorHA7
import Derived.Test.YtibekkfbpmloiabGreatDoorHA8
import Derived.Test.YtibekkfbpmloiabGreatDoorHA9
import Derived.Test.YtibekkfbpmloiabGreatDoorChecked
import Derived.Test.YtibekkfbpmloiabGreatDoorShelf
import Derived.Test.YtibekkfbpmloiabGreatDoorProg
import Derived.Test.YtibekkfbpmloiabGreatDoorRows
import Derived.BigRegion
import Derived.RangeFuncNested
import Derived.RangeFuncBound
import Derived.RangeFuncCalls
import Derived.RangeFuncLeaves
import Derived.RangeFuncBox
import Derived.Shelf.Abstract
import Derived.Shelf.RegionOpen
import Derived.OwnWalkIn
import Derived.TacticsInMore
import Derived.LoopNIn
import Derived.LoopIn
import Derived.Deep.Slices
import Derived.OpenShut
import Derived.ShutString
import Derived.ChangeArms
import Derived.WideShapes
import Derived.Lib.LaidTab
import Derived.BigQuiet
import Derived.Deep.QuietTactic
import Derived.Deep.RegionHeld3
import Derived.StillTailTactics
import Derived.Deep.Draws
import Derived.Deep.LoopGhost
import Derived.WalkKit
import Derived.WalkSpells
import Derived.WalkSmall
import Derived.Lib.OthersKept
import Derived.Lib.Hide
import Derived.Lib.Strings
import Derived.Lib.Join
import Derived.Laws.OwnMore
import Derived.Laws.BytesArg
import Derived.Stop.LaidErr
import Derived.WalkLawsBesides
import Derived.LaidEql
import Derived.Stop.Asserts
import Derived.Below
import Derived.Stop.LaidTwo
import Derived.ChangeVars
import Derived.Deep.DeepHandedRow
import Derived.Deep.RegionWith
import Derived.OneCell
import Derived.Lib.SliceRun
import Derived.Lib.Overlaps
import Derived.Lib.AppendZerosOnto
import Derived.Laws.NewBlocks
import Derived.Laws.IdiomCopy
import Derived.Deep.RegionLaw
import Derived.Deep.AppendLies
import Derived.Deep.Cut
import Derived.Deep.CutRange
import Derived.Deep.CutBlock
/- WinnerAt, of the model. -/
namespace Go.Proofs.YtibekkfbpmloiabGreatDoor.Recs
set_option maxRecDepth 100000
open Go.RowKit Paths

set_option maxHeartbeats 3200000 in
theorem winnerAt_spec (v : Value) (LL : List (List R)) (q : ByteArray) (w : World) (h : StkSl w v LL) (hl : LL.length ≤ 1048576) (hll : ∀ l ∈ LL, l.length ≤ 1048576) :
    Calls Tryz.prog 41 #[v, .string q] w fun e w' => e = .returned (winV LL q) ∧ Below w.heap.size w w' := by
  have hb0 : Below w.heap.size w (w.alloc (.cells #[.int .i64 0, .string ByteArray.empty, .string ByteArray.empty, .int .i64 0, .bool false] 53)) := (Below.refl _ _).alloc (Nat.le_refl _) _
  have hR0 : Rbox (w.alloc (.cells #[.int .i64 0, .string ByteArray.empty, .string ByteArray.empty, .int .i64 0, .bool false] 53)) w.heap.size zR := alloc_here _ _
  have hsz0 : w.heap.size < (w.alloc (.cells #[.int .i64 0, .string ByteArray.empty, .string ByteArray.empty, .int .i64 0, .bool false] 53)).heap.size := by simp
  have HOK := l05Stack_any _ LL _ (h.below hb0) hl hll
  have HS := Lib.hid h
  obtain ⟨vA, vcap, rfl⟩ := h.form
  by_cases h1 : 4096 < LL.length
  · have hd : decide ((4096 : Int) < (LL.length : Int)) = true := decide_eq_true (by omega)
    have HE := Lib.hid (win_bad (sp_bad (st_long (q := q) (.inl h1)) (by decide)) (by decide))
    clear h1
    go_enter Tryz.func41, Tryz.ntmps41
    go_wp2_with fail
    exact bodyPost_ret (v := .tuple #[zR.val, .int .i64 0, .int .i64 2]) (by simp [results, Tryz.results41, go_sem, R.val]; exact ⟨rfl, rfl, rfl, rfl, rfl⟩) rfl ⟨by rw [HE.out], by
      repeat (refine Below.setCell ?_ (by simp) _)
      exact hb0⟩
  have hd1 : decide ((4096 : Int) < (LL.length : Int)) = false := decide_eq_false (by omega)
  by_cases h2 : 65536 < q.size
  · have hd : decide ((65536 : Int) < (q.size : Int)) = true := decide_eq_true (by omega)
    have HE := Lib.hid (win_bad (sp_bad (st_long (LL := LL) (.inr h2)) (by decide)) (by decide))
    clear h1 h2
    go_enter Tryz.func41, Tryz.ntmps41
    go_wp2_with fail
    exact bodyPost_ret (v := .tuple #[zR.val, .int .i64 0, .int .i64 2]) (by simp [results, Tryz.results41, go_sem, R.val]; exact ⟨rfl, rfl, rfl, rfl, rfl⟩) rfl ⟨by rw [HE.out], by
      repeat (refine Below.setCell ?_ (by simp) _)
      exact hb0⟩
  have hd2 : decide ((65536 : Int) < (q.size : Int)) = false := decide_eq_false (by omega)
  have hn : ¬ (4096 < LL.length ∨ 65536 < q.size) := by omega
  cases ho : stackOK LL with
  | false =>
    have HE := Lib.hid (win_bad (sp_bad (st_bad hn ho) (by decide)) (by decide))
    rw [ho] at HOK
    clear h1 h2 hn ho
    go_enter Tryz.func41, Tryz.ntmps41
    go_wp2_with fail
    refine HOK.mono ?_
    rintro e w1 ⟨rfl, hb1⟩
    have c1 := hb0.trans (hb1.mono hb0.size)
    have HR1 := hR0.below hb1 hsz0
    obtain ⟨⟨x0, x1, x2, x3, x4⟩, f0, f1, f2, f3, f4⟩ := HR1.facts
    have hF : Rbox (((((w1.setCell ⟨w.heap.size, 0, none⟩ (.int .i64 0)).setCell ⟨w.heap.size, 1, none⟩ (.string ⟨#[]⟩)).setCell ⟨w.heap.size, 2, none⟩ (.string ⟨#[]⟩)).setCell ⟨w.heap.size, 3, none⟩ (.int .i64 0)).setCell ⟨w.heap.size, 4, none⟩ (.bool false)) w.heap.size zR := Rbox.set (p := zR) HR1 zR
    have hB : Below w.heap.size w (((((w1.setCell ⟨w.heap.size, 0, none⟩ (.int .i64 0)).setCell ⟨w.heap.size, 1, none⟩ (.string ⟨#[]⟩)).setCell ⟨w.heap.size, 2, none⟩ (.string ⟨#[]⟩)).setCell ⟨w.heap.size, 3, none⟩ (.int .i64 0)).setCell ⟨w.heap.size, 4, none⟩ (.bool false)) := by
      repeat (refine Below.setCell ?_ (by simp) _)
      exact c1
    go_wp2_with fail
    generalize (((((w1.setCell ⟨w.heap.size, 0, none⟩ (.int .i64 0)).setCell ⟨w.heap.size, 1, none⟩ (.string ⟨#[]⟩)).setCell ⟨w.heap.size, 2, none⟩ (.string ⟨#[]⟩)).setCell ⟨w.heap.size, 3, none⟩ (.int .i64 0)).setCell ⟨w.heap.size, 4, none⟩ (.bool false)) = WF at *
    obtain ⟨⟨q0, q1, q2, q3, q4⟩, -⟩ := hF.facts
    exact bodyPost_ret (v := .tuple #[zR.val, .int .i64 0, .int .i64 1]) (by simp [results, Tryz.results41, go_sem, R.val, q0, q1, q2, q3, q4]) rfl ⟨by rw [HE.out], hB⟩
  | true =>
    have H0 := Lib.hid (st_fine hn ho)
    have hst := stack_of ho
    have HWI := fun w1 hb => l07Winner_any _ LL q w1 (HS.out.below hb) hst.1 hst.2
    rw [ho] at HOK
    clear h1 h2 hn ho hst
    go_enter Tryz.func41, Tryz.ntmps41
    go_wp2_with fail
    refine HOK.mono ?_
    rintro e w1 ⟨rfl, hb1⟩
    have c1 := hb0.trans (hb1.mono hb0.size)
    have HR1 := hR0.below hb1 hsz0
    go_wp2_with fail
    refine (l01OK_any q _).mono ?_
    rintro e w2 ⟨rfl, hb2⟩
    have c2 := c1.trans (hb2.mono c1.size)
    have s1 : w.heap.size < w1.heap.size := Nat.lt_of_lt_of_le hsz0 hb1.size
    have HR2 := HR1.below hb2 s1
    have s2 : w.heap.size < w2.heap.size := Nat.lt_of_lt_of_le s1 hb2.size
    rcases Bool.eq_false_or_eq_true (pathB q.data.toList) with hp | hp
    · have H00 := Lib.hid (sp_fine H0.out hp)
      have HW := HWI w2 c2 hp
      rw [hp]
      go_wp2_with fail
      refine HW.mono ?_
      rintro e w3 ⟨rfl, hb3⟩
      have c3 := c2.trans (hb3.mono c2.size)
      have HR3 := HR2.below hb3 s2
      have s3 : w.heap.size < w3.heap.size := Nat.lt_of_lt_of_le s2 hb3.size
      unfold R.val
      obtain ⟨⟨x0, x1, x2, x3, x4⟩, f0, f1, f2, f3, f4⟩ := HR3.facts
      by_cases hz : (winC LL q).2 = 0
      · have HE := Lib.hid (win_none H00.out hz)
        have hzi : ((winC LL q).2 : Int) = 0 := by omega
        rw [hzi]
        generalize winC LL q = W at *
        obtain ⟨r, n⟩ := W
        dsimp only at HE hz hzi ⊢
        have hF : Rbox (((((w3.setCell ⟨w.heap.size, 0, none⟩ (.int .i64 0)).setCell ⟨w.heap.size, 1, none⟩ (.string ⟨#[]⟩)).setCell ⟨w.heap.size, 2, none⟩ (.string ⟨#[]⟩)).setCell ⟨w.heap.size, 3, none⟩ (.int .i64 0)).setCell ⟨w.heap.size, 4, none⟩ (.bool false)) w.heap.size zR := Rbox.set (p := zR) HR3 zR
        have hB : Below w.heap.size w (((((w3.setCell ⟨w.heap.size, 0, none⟩ (.int .i64 0)).setCell ⟨w.heap.size, 1, none⟩ (.string ⟨#[]⟩)).setCell ⟨w.heap.size, 2, none⟩ (.string ⟨#[]⟩)).setCell ⟨w.heap.size, 3, none⟩ (.int .i64 0)).setCell ⟨w.heap.size, 4, none⟩ (.bool false)) := by
          repeat (refine Below.setCell ?_ (by simp) _)
          exact c3
        go_wp2_with fail
        generalize (((((w3.setCell ⟨w.heap.size, 0, none⟩ (.int .i64 0)).setCell ⟨w.heap.size, 1, none⟩ (.string ⟨#[]⟩)).setCell ⟨w.heap.size, 2, none⟩ (.string ⟨#[]⟩)).setCell ⟨w.heap.size, 3, none⟩ (.int .i64 0)).setCell ⟨w.heap.size, 4, none⟩ (.bool false)) = WF at *
        have hF2 : Rbox (WF.alloc (.cells #[.int .i64 r.k, .string r.p, .string r.b, .int .i64 r.m, .bool r.o] 53)) w.heap.size zR := (Below.heap_alloc _ _ _ hF.lt).trans hF
        obtain ⟨⟨q0, q1, q2, q3, q4⟩, -⟩ := hF2.facts
        exact bodyPost_ret (v := .tuple #[zR.val, .int .i64 0, .int .i64 5]) (by simp [results, Tryz.results41, go_sem, R.val, q0, q1, q2, q3, q4]) rfl ⟨by rw [HE.out], hB.alloc hB.size _⟩
      · have HE := Lib.hid (win_some H00.out hz)
        have hd : (((winC LL q).2 : Int) == 0) = false := by simp; omega
        have hd' : ((winC LL q).2 == 0) = false := by simpa using hz
        generalize winC LL q = W at *
        obtain ⟨r, n⟩ := W
        dsimp only at hd hd' HE hz ⊢
        have hF : Rbox (((((w3.setCell ⟨w.heap.size, 0, none⟩ (.int .i64 r.k)).setCell ⟨w.heap.size, 1, none⟩ (.string r.p)).setCell ⟨w.heap.size, 2, none⟩ (.string r.b)).setCell ⟨w.heap.size, 3, none⟩ (.int .i64 r.m)).setCell ⟨w.heap.size, 4, none⟩ (.bool r.o)) w.heap.size r := Rbox.set (p := zR) HR3 r
        have hB : Below w.heap.size w (((((w3.setCell ⟨w.heap.size, 0, none⟩ (.int .i64 r.k)).setCell ⟨w.heap.size, 1, none⟩ (.string r.p)).setCell ⟨w.heap.size, 2, none⟩ (.string r.b)).setCell ⟨w.heap.size, 3, none⟩ (.int .i64 r.m)).setCell ⟨w.heap.size, 4, none⟩ (.bool r.o)) := by
          repeat (refine Below.setCell ?_ (by simp) _)
          exact c3
        go_wp2_with fail
        generalize (((((w3.setCell ⟨w.heap.size, 0, none⟩ (.int .i64 r.k)).setCell ⟨w.heap.size, 1, none⟩ (.string r.p)).setCell ⟨w.heap.size, 2, none⟩ (.string r.b)).setCell ⟨w.heap.size, 3, none⟩ (.int .i64 r.m)).setCell ⟨w.heap.size, 4, none⟩ (.bool r.o)) = WF at *
        have hF2 : Rbox (WF.alloc (.cells #[.int .i64 r.k, .string r.p, .string r.b, .int .i64 r.m, .bool r.o] 53)) w.heap.size r := (Below.heap_alloc _ _ _ hF.lt).trans hF
        obtain ⟨⟨q0, q1, q2, q3, q4⟩, -⟩ := hF2.facts
        exact bodyPost_ret (v := .tuple #[r.val, .int .i64 (n : Int), .int .i64 0]) (by simp [results, Tryz.results41, go_sem, R.val, q0, q1, q2, q3, q4]) rfl ⟨by rw [HE.out], hB.alloc hB.size _⟩
    · have HE := Lib.hid (win_bad (sp_name H0.out hp) (by decide))
      rw [hp]
      obtain ⟨⟨x0, x1, x2, x3, x4⟩, f0, f1, f2, f3, f4⟩ := HR2.facts
      have hF : Rbox (((((w2.setCell ⟨w.heap.size, 0, none⟩ (.int .i64 0)).setCell ⟨w.heap.size, 1, none⟩ (.string ⟨#[]⟩)).setCell ⟨w.heap.size, 2, none⟩ (.string ⟨#[]⟩)).setCell ⟨w.heap.size, 3, none⟩ (.int .i64 0)).setCell ⟨w.heap.size, 4, none⟩ (.bool false)) w.heap.size zR := Rbox.set (p := zR) HR2 zR
      have hB : Below w.heap.size w (((((w2.setCell ⟨w.heap.size, 0, none⟩ (.int .i64 0)).setCell ⟨w.heap.size, 1, none⟩ (.string ⟨#[]⟩)).setCell ⟨w.heap.size, 2, none⟩ (.string ⟨#[]⟩)).setCell ⟨w.heap.size, 3, none⟩ (.int .i64 0)).setCell ⟨w.heap.size, 4, none⟩ (.bool false)) := by
        repeat (refine Below.setCell ?_ (by simp) _)
        exact c2
      go_wp2_with fail
      generalize (((((w2.setCell ⟨w.heap.size, 0, none⟩ (.int .i64 0)).setCell ⟨w.heap.size, 1, none⟩ (.string ⟨#[]⟩)).setCell ⟨w.heap.size, 2, none⟩ (.string ⟨#[]⟩)).setCell ⟨w.heap.size, 3, none⟩ (.int .i64 0)).setCell ⟨w.heap.size, 4, none⟩ (.bool false)) = WF at *
      obtain ⟨⟨q0, q1, q2, q3, q4⟩, -⟩ := hF.facts
      exact bodyPost_ret (v := .tuple #[zR.val, .int .i64 0, .int .i64 10]) (by simp [results, Tryz.results41, go_sem, R.val, q0, q1, q2, q3, q4]) rfl ⟨by rw [HE.out], hB⟩
end Go.Proofs.YtibekkfbpmloiabGreatDoor.Recs

/- MergeTrace, MergeMany of the model. -/
namespace Go.Proofs.YtibekkfbpmloiabGreatDoor.Recs
set_option maxRecDepth 100000
open Go.RowKit Paths Errs

set_option maxHeartbeats 3200000 in
theorem l07Merge_any (v : Value) (LL : List (List R)) (w : World) (h : StkSl w v LL) (hl : LL.length ≤ 5) (hok : ∀ l ∈ LL, layerOK l = true) :
    Calls Tryz.prog 90 #[v] w fun e w' => ∃ x z, e = .returned (.tuple #[x, z]) ∧ Below w.heap.size w w' ∧ RowOf w' w.heap.size x (mmL LL).length (mmL LL) ∧ RowK w' w.heap.size z (picksL (wins LL)).length (picksL (wins LL)) := by
  obtain ⟨i0, hi, hI0, hI1, hI2⟩ := info_parts recInfo
  obtain ⟨j0, hj, hJ0, hJ1, hJ2⟩ := info_parts pickInfo
  have hfine : ∀ l ∈ LL, Fine l := fun l hm => fine_layer (hok l hm)
  have hP80 := pathsL_len (LL := LL) (fun l hm => layer_len (hok l hm)) hl
  have HWS := Lib.hid (winL_sorted LL)
  have HWF := Lib.hid (winL_fault hfine)
  have HPA := l07Paths_any v LL w h hl hok
  have HWI : Hid (∀ q ∈ pathsL LL, ∀ W, Below w.heap.size w W → Calls Tryz.prog 97 #[v, .string q] W fun e w'' => e = .returned (.tuple #[(winC LL q).1.val, .int .i64 ((winC LL q).2 : Int)]) ∧ Below W.heap.size W w'') := fun q hq W hW => l07Winner_any v LL q W (h.below hW) hl hok (path_of_path hfine hq)
  have HPN : Hid (∀ q ∈ pathsL LL, 0 < (winC LL q).2 → (winC LL q).1.p = q) := fun q _ hp => (win_rec hp).1
  obtain ⟨vA, vcap, rfl⟩ := h.form
  clear hfine h
  go_enter Tryz.func90, Tryz.ntmps90
  go_wp2_with fail
  refine HPA.mono ?_
  rintro e w1 ⟨pv0, rfl, hb1, hp1⟩
  obtain ⟨hpo, g, pcap, rfl, _, hg1, hpc, hpm⟩ := hp1
  have HPO := Lib.hid hpo
  have ho0 : (w1.alloc (.cells #[] 53)).ownsRow w1.heap.size 53 5 (.slice (some ⟨w1.heap.size, 0, none⟩) 0 0) 0 [] := World.ownsRow_lit w1 #[] 0 (Nat.le_refl _) (Nat.zero_le _) rfl
  have bA : Below w1.heap.size w1 (w1.alloc (.cells #[] 53)) := (Below.refl _ _).alloc (Nat.le_refl _) _
  have hk0 : ((w1.alloc (.cells #[] 53)).alloc (.cells #[] 59)).ownsRow w1.heap.size 59 2 (.slice (some ⟨w1.heap.size + 1, 0, none⟩) 0 0) 0 [] := by
    have := World.ownsRow_lit (e := 59) (size := 2) (base := w1.heap.size) (w1.alloc (.cells #[] 53)) #[] 0 (by simp) (Nat.zero_le _) rfl
    rw [World.size_alloc] at this
    exact this
  have HO0 := Lib.hid (ho0.alloc (.cells #[] 59))
  have HK0 := Lib.hid hk0
  have BB : Hid (Below w1.heap.size w1 ((w1.alloc (.cells #[] 53)).alloc (.cells #[] 59))) := bA.alloc bA.size _
  clear hpo ho0 hk0 bA HPA
  go_wp2_with fail
  go_loopw [5, 6, 7] (fun f z i wr => ∃ (k : Nat) (M : List (R × Nat)), k ≤ (pathsL LL).length ∧ i = .int .i64 k ∧ Hid (M = winsOf LL ((pathsL LL).take k)) ∧ Hid (M.length ≤ 80) ∧ Hid (RowOf wr w1.heap.size f M.length (M.map Prod.fst)) ∧ Hid (RowK wr w1.heap.size z M.length (picksL M)) ∧ Below w1.heap.size w1 wr) (fun _ _ i _ => (pathsL LL).length - (intOf i).toNat)
  case atStart => exact ⟨0, [], by omega, rfl, rfl, by show _ ≤ _; simp, ⟨rfl, HO0.out⟩, ⟨rfl, HK0.out⟩, BB.out⟩
  case round =>
    obtain ⟨k, M, hk, rfl, HM, HML, HRO, HRK, hbw⟩ := hrel
    have hbv := hb1.trans (hbw.mono hb1.size)
    obtain ⟨fA, fcap, rfl⟩ := HRO.out.form
    obtain ⟨zA, zcap, rfl⟩ := HRK.out.form
    by_cases hlt : k < (pathsL LL).length
    · have hq := List.getElem_mem hlt
      have hcu : wr.cell? ⟨g, k, none⟩ = some (.string (pathsL LL)[k]) := by
        have h1 := (own_below HPO.out hbw).cellAt k (by omega)
        rw [show (vS (pathsL LL))[k]? = some (.string (pathsL LL)[k]) by unfold vS; rw [List.getElem?_map, List.getElem?_eq_getElem hlt]; rfl] at h1
        simpa using h1
      have hi1 : (k : Int) < ((pathsL LL).length : Int) := by omega
      have hi0 : (0 : Int) ≤ (k : Int) := by omega
      have hW := HWI.out _ hq wr hbv
      have HST := Lib.hid (wins_step (LL := LL) hlt)
      have HPq := Lib.hid (HPN.out _ hq)
      have hMl := HML.out
      generalize hQ : (pathsL LL)[k] = q at *
      generalize hP : winC LL q = P at *
      have hPL : k + 1 ≤ (pathsL LL).length := hlt
      unfold R.val at hW
      clear hQ hP hq
      go_wp2_with fail
      refine hW.mono ?_
      rintro e w3 ⟨rfl, hb3⟩
      have c3 := hbw.trans (hb3.mono hbw.size)
      have hr3 := (RowOf.below HRO.out hb3).2
      have hk3 := (RowG.below HRK.out hb3).2
      have cA := c3.alloc c3.size (.cells #[.int .i64 P.1.k, .string P.1.p, .string P.1.b, .int .i64 P.1.m, .bool P.1.o] 53)
      have hrA := hr3.alloc (.cells #[.int .i64 P.1.k, .string P.1.p, .string P.1.b, .int .i64 P.1.m, .bool P.1.o] 53)
      have hkA := hk3.alloc (.cells #[.int .i64 P.1.k, .string P.1.p, .string P.1.b, .int .i64 P.1.m, .bool P.1.o] 53)
      clear hW
      by_cases hpos : 0 < P.2
      · have HN : Hid (M ++ [P] = winsOf LL ((pathsL LL).take (k + 1))) := by show _ = _; rw [HST.out, if_pos hpos, ← HM.out]
        have hNl : (M ++ [P]).length ≤ 80 := by
          rw [HN.out]
          have := winsOf_len LL ((pathsL LL).take (k + 1))
          rw [List.length_take] at this
          omega
        have HNL := Lib.hid hNl
        have hpq := HPq.out hpos
        have HPQ := Lib.hid hpq
        have hd : decide ((0 : Int) < (P.2 : Int)) = true := decide_eq_true (by omega)
        have hd' : decide (0 < P.2) = true := decide_eq_true hpos
        have HNW : Hid (∀ j u, (R.cs P.1)[j]? = some u → ((w3.alloc (.cells #[.int .i64 P.1.k, .string P.1.p, .string P.1.b, .int .i64 P.1.m, .bool P.1.o] 53)).alloc (.cells #[.int .i64 P.1.k, .string P.1.p, .string P.1.b, .int .i64 P.1.m, .bool P.1.o] 53)).cell? ((⟨w3.heap.size + 1, 0, none⟩ : Addr).add j) = some u) := by
          have h := rec_cells_new (w3.alloc (.cells #[.int .i64 P.1.k, .string P.1.p, .string P.1.b, .int .i64 P.1.m, .bool P.1.o] 53)) P.1 53
          rw [World.size_alloc] at h
          exact h
        have hone := rec_one P.1
        have HZ : Hid (w1.heap.size ≤ (w3.alloc (.cells #[.int .i64 P.1.k, .string P.1.p, .string P.1.b, .int .i64 P.1.m, .bool P.1.o] 53)).heap.size) := cA.size
        have hcu3 : (w3.alloc (.cells #[.int .i64 P.1.k, .string P.1.p, .string P.1.b, .int .i64 P.1.m, .bool P.1.o] 53)).cell? ⟨g, k, none⟩ = some (.string q) := ((hb3.alloc hb3.size _).cell (p := ⟨g, k, none⟩) (Nat.lt_of_lt_of_le hg1 hbw.size)).trans hcu
        have HCU3 := Lib.hid hcu3
        clear HST hNl hpq hcu hcu3
        have HCA := Lib.hid cA
        have HHR := Lib.hid hrA
        have HHK := Lib.hid hkA
        have HPOg : Hid (∀ w9, Below w1.heap.size w1 w9 → w9.cell? ⟨g, k, none⟩ = some (.string q)) := fun w9 c9 => by
          have h1 := (own_below HPO.out c9).cellAt k (by omega)
          have h4 := (own_below HPO.out HCA.out).cellAt k (by omega)
          rw [h1, ← h4]
          exact HCU3.out
        go_wp2_with (first
          | (at_builtin; refine wpList_append_own _ rfl _ _ 27 rfl w1.heap.size 53 i0 (.agg #[.int .i64 0, .string ByteArray.empty, .string ByteArray.empty, .int .i64 0, .bool false]) 5 56 Tryz.underlying27 hi hI0 hI1 hI2 rfl (by decide) _ _ _ rfl (HHR.out.alloc _) ⟨w3.heap.size + 1, 0, none⟩ 1 1 (R.cs P.1) rfl rfl HNW.out hone (by unfold maxLen; omega) (by omega) (by have := c3.size; simp; omega) ?_; intro v' w9 hown' hgrow9 hnil9; have hkB := HHK.out.alloc (.cells #[.int .i64 P.1.k, .string P.1.p, .string P.1.b, .int .i64 P.1.m, .bool P.1.o] 53); have hk9 := Lib.hid (hkB.kept hgrow9 (row_apart (by decide) hkB (HHR.out.alloc (.cells #[.int .i64 P.1.k, .string P.1.p, .string P.1.b, .int .i64 P.1.m, .bool P.1.o] 53)))); have c9 := (HCA.out.alloc HCA.out.size (.cells #[.int .i64 P.1.k, .string P.1.p, .string P.1.b, .int .i64 P.1.m, .bool P.1.o] 53)).grown hgrow9 (HCA.out.alloc HCA.out.size (.cells #[.int .i64 P.1.k, .string P.1.p, .string P.1.b, .int .i64 P.1.m, .bool P.1.o] 53)).size (fun j hj => (HHR.out.lt j hj).1); have HO9 := Lib.hid hown'; have hcu9 := HPOg.out _ c9; have hsz9 := c9.size; clear hkB hgrow9 hown' hnil9)
          | (at_builtin; refine wpList_append_own _ rfl _ _ 49 rfl w1.heap.size 59 j0 (.agg #[.string ByteArray.empty, .int .i64 0]) 2 24 Tryz.underlying49 hj hJ0 hJ1 hJ2 rfl (by decide) _ _ _ rfl (hk9.out.alloc _) ⟨w9.heap.size, 0, none⟩ 1 1 (csK (q, (P.2 : Int))) rfl rfl (csK_new _ _ _) (csK_one _) (by unfold maxLen; omega) (by omega) (by simp; omega) ?_; intro v2 w10 hown2 hgrow10 hnil10))
        have hrB := HO9.out.alloc (.cells #[.string q, .int .i64 (P.2 : Int)] 59)
        have hr10 := hrB.kept hgrow10 (row_apart (by decide) hrB (hk9.out.alloc (.cells #[.string q, .int .i64 (P.2 : Int)] 59)))
        have e1 : (M ++ [P]).map Prod.fst = M.map Prod.fst ++ [P.1] := by simp
        have e2 : picksL (M ++ [P]) = picksL M ++ [(q, (P.2 : Int))] := by unfold picksL; rw [List.map_append, ← HPQ.out]; rfl
        exact ⟨⟨k + 1, M ++ [P], by omega, by go_num, HN, HNL.out, by
            show RowOf _ _ _ _ _
            rw [e1, List.length_append, List.length_singleton]
            refine ⟨by rw [List.length_append, List.length_map, List.length_singleton], ?_⟩
            rw [flat_snoc]
            exact hr10, by
            show RowK _ _ _ _ _
            rw [e2, List.length_append, List.length_singleton]
            refine ⟨by unfold picksL; rw [List.length_append, List.length_map, List.length_singleton], ?_⟩
            rw [flatG_snoc]
            exact hown2, (c9.alloc c9.size _).grown hgrow10 (c9.alloc c9.size _).size (fun j hj => (hk9.out.lt j hj).1)⟩, by simp [intOf]; omega⟩
      · have HN : Hid (M = winsOf LL ((pathsL LL).take (k + 1))) := by show _ = _; rw [HST.out, if_neg hpos, ← HM.out]
        have hd : decide ((0 : Int) < (P.2 : Int)) = false := decide_eq_false (by omega)
        have hd' : decide (0 < P.2) = false := decide_eq_false hpos
        clear HST
        go_wp2_with fail
        exact ⟨⟨k + 1, M, by omega, by go_num, HN, HML, ⟨HRO.out.1, hrA⟩, ⟨HRK.out.1, hkA⟩, cA⟩, by simp [intOf]; omega⟩
    · have HF : Hid (M = wins LL) := by show _ = _; rw [wins_of, HM.out, List.take_of_length_le (by omega)]
      have hMl := HML.out
      have HMW : Hid (M.map Prod.fst = winL LL) := by show _ = _; rw [HF.out]; rfl
      have hMS : Sorted (M.map Prod.fst) := by rw [HMW.out]; exact HWS.out
      have hMF : ∀ r ∈ M.map Prod.fst, r.fault = 0 := by rw [HMW.out]; exact HWF.out
      have hrl : RowOf wr w1.heap.size (.slice fA M.length fcap) (M.map Prod.fst).length (M.map Prod.fst) := by rw [List.length_map]; exact HRO.out
      have HC4 := l03Canon_gen _ (M.map Prod.fst) wr hrl.sl hMS hMF (by rw [List.length_map]; omega)
      have HML2 : Hid (mmL LL = canonL (M.map Prod.fst)) := by show _ = _; unfold mmL; rw [HMW.out]
      clear hMS hMF hrl
      go_wp2_with fail
      refine HC4.mono ?_
      rintro e w5 ⟨f, rfl, hb5, hf⟩
      go_wp2_with fail
      go_ret2
      exact ⟨_, _, rfl, hbv.trans (hb5.mono hbv.size), by rw [HML2.out]; exact ⟨hf.1, own_le hf.2 hbv.size⟩, by
        have e : (picksL (wins LL)).length = M.length := by rw [← HF.out]; unfold picksL; exact List.length_map _
        rw [e, ← HF.out]
        exact (RowG.below HRK.out hb5).down hb1.size⟩

set_option maxHeartbeats 1600000 in
theorem mergeTrace_spec (v : Value) (LL : List (List R)) (w : World) (h : StkSl w v LL) (hl : LL.length ≤ 1048576) (hll : ∀ l ∈ LL, l.length ≤ 1048576) :
    Calls Tryz.prog 39 #[v] w fun e w' => ∃ z, e = .returned (.tuple #[z, .int .i64 (codeS LL)]) ∧ Below w.heap.size w w' ∧ RowK w' w.heap.size z (trR LL).length (trR LL) := by
  have HS := Lib.hid h
  obtain ⟨vA, vcap, rfl⟩ := h.form
  have HOK := l05Stack_any _ LL w h hl hll
  have E0 : Hid (∀ W, Below w.heap.size w W → (W.alloc (.cells #[] 59)).ownsRow w.heap.size 59 2 (.slice (some ⟨W.heap.size, 0, none⟩) 0 0) 0 []) := fun W hW => World.ownsRow_lit W #[] 0 hW.size (Nat.zero_le _) rfl
  by_cases h1 : 4096 < LL.length
  · have hd : decide ((4096 : Int) < (LL.length : Int)) = true := by simp; omega
    have HC := Lib.hid (s_long h1)
    have HQ := Lib.hid (tr_bad (s_long h1) (by decide))
    clear h1
    go_enter Tryz.func39, Tryz.ntmps39
    go_wp2_with fail
    go_ret2
    exact ⟨_, by rw [HC.out]; rfl, (Below.refl _ _).alloc (Nat.le_refl _) _, by rw [HQ.out]; exact ⟨rfl, E0.out _ (Below.refl _ _)⟩⟩
  have hd1 : decide ((4096 : Int) < (LL.length : Int)) = false := by simp; omega
  cases ho : stackOK LL with
  | false =>
    have HC := Lib.hid (s_bad h1 ho)
    have HQ := Lib.hid (tr_bad (s_bad h1 ho) (by decide))
    rw [ho] at HOK
    clear h1 ho
    go_enter Tryz.func39, Tryz.ntmps39
    go_wp2_with fail
    refine HOK.mono ?_
    rintro e w1 ⟨rfl, c0⟩
    go_wp2_with fail
    go_ret2
    exact ⟨_, by rw [HC.out]; rfl, c0.alloc c0.size _, by rw [HQ.out]; exact ⟨rfl, E0.out _ c0⟩⟩
  | true =>
    have H0 := Lib.hid (s_ok h1 ho)
    have hst := stack_of ho
    have HAL := fun w' hb => l07Merge_any (.slice vA LL.length vcap) LL w' (HS.out.below hb) hst.1 hst.2
    rw [ho] at HOK
    clear h1 ho hst
    go_enter Tryz.func39, Tryz.ntmps39
    go_wp2_with fail
    refine HOK.mono ?_
    rintro e w1 ⟨rfl, c0⟩
    go_wp2_with fail
    refine (HAL _ c0).mono ?_
    rintro e w4 ⟨f, z, rfl, hb4, hf, hz⟩
    have c4 := c0.trans (hb4.mono c0.size)
    go_wp2_with fail
    go_ret2
    exact ⟨_, by rw [H0.out]; rfl, c4, by rw [tr_ok H0.out]; exact hz.down c0.size⟩

end Go.Proofs.YtibekkfbpmloiabGreatDoor.Recs

/- For laws over stacks: the laws' own sizes with their sums; blocks between two numbers; marks in a stack. -/
namespace Go.Proofs.YtibekkfbpmloiabGreatDoor.Recs
set_option maxRecDepth 100000
open Go.RowKit Paths

/-- The rows of a stack lie from base on, below top. -/
theorem StkRow.low {w : World} {base : Nat} {v : Value} {LL : List (List R)} (h : StkRow w base v LL) : ∃ (g : Nat) (us : List Value), v = .slice (some ⟨g, 0, none⟩) LL.length LL.length ∧ us.length = LL.length ∧ g < w.heap.size ∧ (∀ (i : Nat) (u : Value), us[i]? = some u → w.cell? ⟨g, i, none⟩ = some u) ∧
    ∀ (i : Nat) (u : Value) (l : List R), us[i]? = some u → LL[i]? = some l → RowOf w base u l.length l ∧ u.ownBlock ≠ some g ∧ ∀ (j : Nat) (u' : Value), us[j]? = some u' → ∀ c, u.ownBlock = some c → u'.ownBlock = some c → i = j := by
  obtain ⟨g, us, rfl, hn, ho, h1, h2⟩ := h
  refine ⟨g, us, rfl, hn, (ho.lt g rfl).2, fun i u hi => ?_, fun i u l hi hl => ?_⟩
  · have hlt : i < us.length := (List.getElem?_eq_some_iff.1 hi).1
    have := ho.cellAt i (by omega)
    rw [hi] at this
    exact this
  · have hlt : i < LL.length := (List.getElem?_eq_some_iff.1 hl).1
    refine ⟨(h1 i u l hlt hi hl).1, (h1 i u l hlt hi hl).2, fun j u' hj c hc hc' => ?_⟩
    have hjl : j < us.length := (List.getElem?_eq_some_iff.1 hj).1
    exact h2 i j u u' c hlt (by omega) hi hj hc hc'

theorem StkRow.top {w w' : World} {base : Nat} {v : Value} {LL : List (List R)} (h : StkRow w base v LL) (hb : Below w.heap.size w w') : ∀ (g : Nat) (us : List Value), v = .slice (some ⟨g, 0, none⟩) LL.length LL.length → us.length = LL.length → (∀ (i : Nat) (u : Value), us[i]? = some u → w'.cell? ⟨g, i, none⟩ = some u) → ∀ (i : Nat) (u : Value), us[i]? = some u → ∀ c, u.ownBlock = some c → c < w.heap.size := by
  obtain ⟨g, us, rfl, hn, hgl, hcs, hrs⟩ := h.low
  intro g' us' e hn' hc' i u hi c hc
  cases e
  have hlt : i < us'.length := (List.getElem?_eq_some_iff.1 hi).1
  have h1 := hcs i (us[i]'(by omega)) (List.getElem?_eq_getElem _)
  have h2 := (hb.cell (p := ⟨g, i, none⟩) hgl).symm.trans (hc' i u hi)
  rw [h1] at h2
  cases h2
  exact ((hrs i _ _ (List.getElem?_eq_getElem (by omega)) (List.getElem?_eq_getElem (by omega))).1.2.lt c hc).2

end Go.Proofs.YtibekkfbpmloiabGreatDoor.Recs
