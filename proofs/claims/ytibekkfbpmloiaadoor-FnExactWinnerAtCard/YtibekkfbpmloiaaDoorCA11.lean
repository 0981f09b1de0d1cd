/- Parts of several texts of mine in one file (each begins with its own remark). -/
import Derived.Test.YtibekkfbpmloiaaDoorCA1
import Derived.Test.YtibekkfbpmloiaaDoorCA10
import Derived.Test.YtibekkfbpmloiaaDoorCA2
import Derived.Test.YtibekkfbpmloiaaDoorCA3
import Derived.Test.YtibekkfbpmloiaaDoorCA4
import Derived.Test.YtibekkfbpmloiaaDoorCA5
import Derived.Test.YtibekkfbpmloiaaDoorCA6
import Derived.Test.YtibekkfbpmloiaaDoorCA7
import Derived.Test.YtibekkfbpmloiaaDoorCA8
import Derived.Test.YtibekkfbpmloiaaDoorCA9
import Derived.Test.YtibekkfbpmloiaaDoorChecked
import Derived.Test.YtibekkfbpmloiaaDoorShelf
import Derived.Test.YtibekkfbpmloiaaDoorProg
import Derived.Test.YtibekkfbpmloiaaDoorRows
import Derived.BigRegion
import Derived.RangeFuncNested
import Derived.RangeFuncBound
import Derived.RangeFuncCalls
import Derived.RangeFuncLeaves
import Derived.RangeFuncBox
import Derived.Shelf.Abstract
import Derived.Shelf.RegionOpen
import Derived.OwnWalkIn
import Derived.TacticsInMore
import Derived.LoopNIn
import Derived.LoopIn
import Derived.Deep.Slices
import Derived.OpenShut
import Derived.ShutString
import Derived.ChangeArms
import Derived.WideShapes
import Derived.Lib.LaidTab
import Derived.BigQuiet
import Derived.Deep.QuietTactic
import Derived.Deep.RegionHeld3
import Derived.StillTailTactics
import Derived.Deep.Draws
import Derived.Deep.LoopGhost
import Derived.WalkKit
import Derived.WalkSpells
import Derived.WalkSmall
import Derived.Lib.OthersKept
import Derived.Lib.Hide
import Derived.Lib.Strings
import Derived.Lib.Join
import Derived.Laws.OwnMore
import Derived.Laws.BytesArg
import Derived.Stop.LaidErr
import Derived.WalkLawsBesides
import Derived.LaidEql
import Derived.Stop.Asserts
import Derived.Below
import Derived.Stop.LaidTwo
import Derived.ChangeVars
import Derived.Deep.DeepHandedRow
import Derived.Deep.RegionWith
import Derived.OneCell
import Derived.Lib.SliceRun
import Derived.Lib.Overlaps
import Derived.Lib.AppendZerosOnto
import Derived.Laws.NewBlocks
import Derived.Laws.IdiomCopy
import Derived.Deep.RegionLaw
/- WinnerAt, of the model. -/
namespace Go.Proofs.YtibekkfbpmloiaaDoor.Recs
set_option maxRecDepth 100000
open Go.RowKit Paths

set_option maxHeartbeats 3200000 in
theorem winnerAt_spec (v : Value) (LL : List (List R)) (q : ByteArray) (w : World) (h : StkSl w v LL) (hl : LL.length ≤ 1048576) (hll : ∀ l ∈ LL, l.length ≤ 1048576) :
    Calls Tryd.prog 5 #[v, .string q] w fun e w' => e = .returned (winV LL q) ∧ Below w.heap.size w w' := by
  have hb0 : Below w.heap.size w (w.alloc (.cells #[.int .i64 0, .string ByteArray.empty, .string ByteArray.empty, .int .i64 0, .bool false] 25)) := (Below.refl _ _).alloc (Nat.le_refl _) _
  have hR0 : Rbox (w.alloc (.cells #[.int .i64 0, .string ByteArray.empty, .string ByteArray.empty, .int .i64 0, .bool false] 25)) w.heap.size zR := alloc_here _ _
  have hsz0 : w.heap.size < (w.alloc (.cells #[.int .i64 0, .string ByteArray.empty, .string ByteArray.empty, .int .i64 0, .bool false] 25)).heap.size := by simp
  have HOK := l05Stack_any _ LL _ (h.below hb0) hl hll
  have HS := Lib.hid h
  obtain ⟨vA, vcap, rfl⟩ := h.form
  by_cases h1 : 4096 < LL.length
  · have hd : decide ((4096 : Int) < (LL.length : Int)) = true := decide_eq_true (by omega)
    have HE := Lib.hid (win_bad (sp_bad (st_long (q := q) (.inl h1)) (by decide)) (by decide))
    clear h1
    go_enter Tryd.func5, Tryd.ntmps5
    go_wp2_with fail
    exact bodyPost_ret (v := .tuple #[zR.val, .int .i64 0, .int .i64 2]) (by simp [results, Tryd.results5, go_sem, R.val]; exact ⟨rfl, rfl, rfl, rfl, rfl⟩) rfl ⟨by rw [HE.out], by
      repeat (refine Below.setCell ?_ (by simp) _)
      exact hb0⟩
  have hd1 : decide ((4096 : Int) < (LL.length : Int)) = false := decide_eq_false (by omega)
  by_cases h2 : 65536 < q.size
  · have hd : decide ((65536 : Int) < (q.size : Int)) = true := decide_eq_true (by omega)
    have HE := Lib.hid (win_bad (sp_bad (st_long (LL := LL) (.inr h2)) (by decide)) (by decide))
    clear h1 h2
    go_enter Tryd.func5, Tryd.ntmps5
    go_wp2_with fail
    exact bodyPost_ret (v := .tuple #[zR.val, .int .i64 0, .int .i64 2]) (by simp [results, Tryd.results5, go_sem, R.val]; exact ⟨rfl, rfl, rfl, rfl, rfl⟩) rfl ⟨by rw [HE.out], by
      repeat (refine Below.setCell ?_ (by simp) _)
      exact hb0⟩
  have hd2 : decide ((65536 : Int) < (q.size : Int)) = false := decide_eq_false (by omega)
  have hn : ¬ (4096 < LL.length ∨ 65536 < q.size) := by omega
  cases ho : stackOK LL with
  | false =>
    have HE := Lib.hid (win_bad (sp_bad (st_bad hn ho) (by decide)) (by decide))
    rw [ho] at HOK
    clear h1 h2 hn ho
    go_enter Tryd.func5, Tryd.ntmps5
    go_wp2_with fail
    refine HOK.mono ?_
    rintro e w1 ⟨rfl, hb1⟩
    have c1 := hb0.trans (hb1.mono hb0.size)
    have HR1 := hR0.below hb1 hsz0
    obtain ⟨⟨x0, x1, x2, x3, x4⟩, f0, f1, f2, f3, f4⟩ := HR1.facts
    have hF : Rbox (((((w1.setCell ⟨w.heap.size, 0, none⟩ (.int .i64 0)).setCell ⟨w.heap.size, 1, none⟩ (.string ⟨#[]⟩)).setCell ⟨w.heap.size, 2, none⟩ (.string ⟨#[]⟩)).setCell ⟨w.heap.size, 3, none⟩ (.int .i64 0)).setCell ⟨w.heap.size, 4, none⟩ (.bool false)) w.heap.size zR := Rbox.set (p := zR) HR1 zR
    have hB : Below w.heap.size w (((((w1.setCell ⟨w.heap.size, 0, none⟩ (.int .i64 0)).setCell ⟨w.heap.size, 1, none⟩ (.string ⟨#[]⟩)).setCell ⟨w.heap.size, 2, none⟩ (.string ⟨#[]⟩)).setCell ⟨w.heap.size, 3, none⟩ (.int .i64 0)).setCell ⟨w.heap.size, 4, none⟩ (.bool false)) := by
      repeat (refine Below.setCell ?_ (by simp) _)
      exact c1
    go_wp2_with fail
    generalize (((((w1.setCell ⟨w.heap.size, 0, none⟩ (.int .i64 0)).setCell ⟨w.heap.size, 1, none⟩ (.string ⟨#[]⟩)).setCell ⟨w.heap.size, 2, none⟩ (.string ⟨#[]⟩)).setCell ⟨w.heap.size, 3, none⟩ (.int .i64 0)).setCell ⟨w.heap.size, 4, none⟩ (.bool false)) = WF at *
    obtain ⟨⟨q0, q1, q2, q3, q4⟩, -⟩ := hF.facts
    exact bodyPost_ret (v := .tuple #[zR.val, .int .i64 0, .int .i64 1]) (by simp [results, Tryd.results5, go_sem, R.val, q0, q1, q2, q3, q4]) rfl ⟨by rw [HE.out], hB⟩
  | true =>
    have H0 := Lib.hid (st_fine hn ho)
    have hst := stack_of ho
    have HWI := fun w1 hb => l07Winner_any _ LL q w1 (HS.out.below hb) hst.1 hst.2
    rw [ho] at HOK
    clear h1 h2 hn ho hst
    go_enter Tryd.func5, Tryd.ntmps5
    go_wp2_with fail
    refine HOK.mono ?_
    rintro e w1 ⟨rfl, hb1⟩
    have c1 := hb0.trans (hb1.mono hb0.size)
    have HR1 := hR0.below hb1 hsz0
    go_wp2_with fail
    refine (l01OK_any q _).mono ?_
    rintro e w2 ⟨rfl, hb2⟩
    have c2 := c1.trans (hb2.mono c1.size)
    have s1 : w.heap.size < w1.heap.size := Nat.lt_of_lt_of_le hsz0 hb1.size
    have HR2 := HR1.below hb2 s1
    have s2 : w.heap.size < w2.heap.size := Nat.lt_of_lt_of_le s1 hb2.size
    rcases Bool.eq_false_or_eq_true (pathB q.data.toList) with hp | hp
    · have H00 := Lib.hid (sp_fine H0.out hp)
      have HW := HWI w2 c2 hp
      rw [hp]
      go_wp2_with fail
      refine HW.mono ?_
      rintro e w3 ⟨rfl, hb3⟩
      have c3 := c2.trans (hb3.mono c2.size)
      have HR3 := HR2.below hb3 s2
      have s3 : w.heap.size < w3.heap.size := Nat.lt_of_lt_of_le s2 hb3.size
      unfold R.val
      obtain ⟨⟨x0, x1, x2, x3, x4⟩, f0, f1, f2, f3, f4⟩ := HR3.facts
      by_cases hz : (winC LL q).2 = 0
      · have HE := Lib.hid (win_none H00.out hz)
        have hzi : ((winC LL q).2 : Int) = 0 := by omega
        rw [hzi]
        generalize winC LL q = W at *
        obtain ⟨r, n⟩ := W
        dsimp only at HE hz hzi ⊢
        have hF : Rbox (((((w3.setCell ⟨w.heap.size, 0, none⟩ (.int .i64 0)).setCell ⟨w.heap.size, 1, none⟩ (.string ⟨#[]⟩)).setCell ⟨w.heap.size, 2, none⟩ (.string ⟨#[]⟩)).setCell ⟨w.heap.size, 3, none⟩ (.int .i64 0)).setCell ⟨w.heap.size, 4, none⟩ (.bool false)) w.heap.size zR := Rbox.set (p := zR) HR3 zR
        have hB : Below w.heap.size w (((((w3.setCell ⟨w.heap.size, 0, none⟩ (.int .i64 0)).setCell ⟨w.heap.size, 1, none⟩ (.string ⟨#[]⟩)).setCell ⟨w.heap.size, 2, none⟩ (.string ⟨#[]⟩)).setCell ⟨w.heap.size, 3, none⟩ (.int .i64 0)).setCell ⟨w.heap.size, 4, none⟩ (.bool false)) := by
          repeat (refine Below.setCell ?_ (by simp) _)
          exact c3
        go_wp2_with fail
        generalize (((((w3.setCell ⟨w.heap.size, 0, none⟩ (.int .i64 0)).setCell ⟨w.heap.size, 1, none⟩ (.string ⟨#[]⟩)).setCell ⟨w.heap.size, 2, none⟩ (.string ⟨#[]⟩)).setCell ⟨w.heap.size, 3, none⟩ (.int .i64 0)).setCell ⟨w.heap.size, 4, none⟩ (.bool false)) = WF at *
        have hF2 : Rbox (WF.alloc (.cells #[.int .i64 r.k, .string r.p, .string r.b, .int .i64 r.m, .bool r.o] 25)) w.heap.size zR := (Below.heap_alloc _ _ _ hF.lt).trans hF
        obtain ⟨⟨q0, q1, q2, q3, q4⟩, -⟩ := hF2.facts
        exact bodyPost_ret (v := .tuple #[zR.val, .int .i64 0, .int .i64 5]) (by simp [results, Tryd.results5, go_sem, R.val, q0, q1, q2, q3, q4]) rfl ⟨by rw [HE.out], hB.alloc hB.size _⟩
      · have HE := Lib.hid (win_some H00.out hz)
        have hd : (((winC LL q).2 : Int) == 0) = false := by simp; omega
        have hd' : ((winC LL q).2 == 0) = false := by simpa using hz
        generalize winC LL q = W at *
        obtain ⟨r, n⟩ := W
        dsimp only at hd hd' HE hz ⊢
        have hF : Rbox (((((w3.setCell ⟨w.heap.size, 0, none⟩ (.int .i64 r.k)).setCell ⟨w.heap.size, 1, none⟩ (.string r.p)).setCell ⟨w.heap.size, 2, none⟩ (.string r.b)).setCell ⟨w.heap.size, 3, none⟩ (.int .i64 r.m)).setCell ⟨w.heap.size, 4, none⟩ (.bool r.o)) w.heap.size r := Rbox.set (p := zR) HR3 r
        have hB : Below w.heap.size w (((((w3.setCell ⟨w.heap.size, 0, none⟩ (.int .i64 r.k)).setCell ⟨w.heap.size, 1, none⟩ (.string r.p)).setCell ⟨w.heap.size, 2, none⟩ (.string r.b)).setCell ⟨w.heap.size, 3, none⟩ (.int .i64 r.m)).setCell ⟨w.heap.size, 4, none⟩ (.bool r.o)) := by
          repeat (refine Below.setCell ?_ (by simp) _)
          exact c3
        go_wp2_with fail
        generalize (((((w3.setCell ⟨w.heap.size, 0, none⟩ (.int .i64 r.k)).setCell ⟨w.heap.size, 1, none⟩ (.string r.p)).setCell ⟨w.heap.size, 2, none⟩ (.string r.b)).setCell ⟨w.heap.size, 3, none⟩ (.int .i64 r.m)).setCell ⟨w.heap.size, 4, none⟩ (.bool r.o)) = WF at *
        have hF2 : Rbox (WF.alloc (.cells #[.int .i64 r.k, .string r.p, .string r.b, .int .i64 r.m, .bool r.o] 25)) w.heap.size r := (Below.heap_alloc _ _ _ hF.lt).trans hF
        obtain ⟨⟨q0, q1, q2, q3, q4⟩, -⟩ := hF2.facts
        exact bodyPost_ret (v := .tuple #[r.val, .int .i64 (n : Int), .int .i64 0]) (by simp [results, Tryd.results5, go_sem, R.val, q0, q1, q2, q3, q4]) rfl ⟨by rw [HE.out], hB.alloc hB.size _⟩
    · have HE := Lib.hid (win_bad (sp_name H0.out hp) (by decide))
      rw [hp]
      obtain ⟨⟨x0, x1, x2, x3, x4⟩, f0, f1, f2, f3, f4⟩ := HR2.facts
      have hF : Rbox (((((w2.setCell ⟨w.heap.size, 0, none⟩ (.int .i64 0)).setCell ⟨w.heap.size, 1, none⟩ (.string ⟨#[]⟩)).setCell ⟨w.heap.size, 2, none⟩ (.string ⟨#[]⟩)).setCell ⟨w.heap.size, 3, none⟩ (.int .i64 0)).setCell ⟨w.heap.size, 4, none⟩ (.bool false)) w.heap.size zR := Rbox.set (p := zR) HR2 zR
      have hB : Below w.heap.size w (((((w2.setCell ⟨w.heap.size, 0, none⟩ (.int .i64 0)).setCell ⟨w.heap.size, 1, none⟩ (.string ⟨#[]⟩)).setCell ⟨w.heap.size, 2, none⟩ (.string ⟨#[]⟩)).setCell ⟨w.heap.size, 3, none⟩ (.int .i64 0)).setCell ⟨w.heap.size, 4, none⟩ (.bool false)) := by
        repeat (refine Below.setCell ?_ (by simp) _)
        exact c2
      go_wp2_with fail
      generalize (((((w2.setCell ⟨w.heap.size, 0, none⟩ (.int .i64 0)).setCell ⟨w.heap.size, 1, none⟩ (.string ⟨#[]⟩)).setCell ⟨w.heap.size, 2, none⟩ (.string ⟨#[]⟩)).setCell ⟨w.heap.size, 3, none⟩ (.int .i64 0)).setCell ⟨w.heap.size, 4, none⟩ (.bool false)) = WF at *
      obtain ⟨⟨q0, q1, q2, q3, q4⟩, -⟩ := hF.facts
      exact bodyPost_ret (v := .tuple #[zR.val, .int .i64 0, .int .i64 10]) (by simp [results, Tryd.results5, go_sem, R.val, q0, q1, q2, q3, q4]) rfl ⟨by rw [HE.out], hB⟩
end Go.Proofs.YtibekkfbpmloiaaDoor.Recs

/- For laws over stacks: the laws' own sizes with their sums; blocks between two numbers; marks in a stack. -/
namespace Go.Proofs.YtibekkfbpmloiaaDoor.Recs
set_option maxRecDepth 100000
open Go.RowKit Paths

def total (LL : List (List R)) : Nat := (LL.map List.length).sum
theorem total_snoc {LL : List (List R)} {k : Nat} (hk : k < LL.length) : total (LL.take (k + 1)) = total (LL.take k) + LL[k].length := by
  unfold total
  rw [List.take_succ_eq_append_getElem hk, List.map_append, List.sum_append]
  simp
theorem total_le : ∀ {LL : List (List R)} {l : List R}, l ∈ LL → l.length ≤ total LL
  | x :: LL, l, h => by
    unfold total
    rw [List.map_cons, List.sum_cons]
    rcases List.mem_cons.1 h with rfl | h
    · omega
    · have := total_le h
      unfold total at this
      omega
set_option maxHeartbeats 800000 in
theorem szRecordSS_sum (v : Value) (LL : List (List R)) (n : Nat) (w : World) (h : StkSl w v LL) (hlm : LL.length ≤ maxLen) (hs : ∀ l ∈ LL, l.length ≤ maxLen ∧ ∀ r ∈ l, r.p.size ≤ maxLen ∧ r.b.size ≤ maxLen) (hn : n ≤ 1048576) :
    Calls Tryd.prog 4 #[v, .int .i64 n] w fun e w' => (∃ z : Int, z < 0 ∧ e = .returned (.int .i64 z) ∧ Below w.heap.size w w') ∨ ∃ z : Nat, z + LL.length + total LL ≤ n ∧ e = .returned (.int .i64 z) ∧ Below w.heap.size w w' := by
  unfold maxLen at hlm
  obtain ⟨A, cap, rfl, hcap, h⟩ := h
  have H := Lib.hid h
  clear h
  by_cases h1 : n < LL.length
  · have hd : decide ((n : Int) - (LL.length : Int) < 0) = true := by simp; omega
    go_enter Tryd.func4, Tryd.ntmps4
    go_wp2_with fail
    go_ret
    exact .inl ⟨_, by omega, rfl, Below.refl _ _⟩
  have hd : decide ((n : Int) - (LL.length : Int) < 0) = false := by simp; omega
  go_enter Tryd.func4, Tryd.ntmps4
  go_wp2
  go_loopw [1, 5] (fun m i wr => ∃ (j z : Nat), j ≤ LL.length ∧ i = .int .i64 j ∧ m = .int .i64 z ∧ z + LL.length + total (LL.take j) ≤ n ∧ Below w.heap.size w wr) (fun _ i _ => LL.length - (intOf i).toNat)
  case atStart => exact ⟨0, n - LL.length, by omega, rfl, by go_num, by show _ + _ + 0 ≤ _; omega, Below.refl _ _⟩
  case round =>
    obtain ⟨j, z, hj, rfl, rfl, hz, hbw⟩ := hrel
    by_cases hlt : j < LL.length
    · obtain ⟨b, off, rfl, hb, hcell⟩ := H.out (by omega)
      obtain ⟨u, c0, hu⟩ := hcell j LL[j] (by simp [hlt])
      have c0' := (hbw.cell (p := ⟨b, off + j, none⟩) hb).trans c0
      have hu' := hu.below hbw
      obtain ⟨s1, s2⟩ := hs LL[j] (List.getElem_mem hlt)
      clear hcell c0 hu
      obtain ⟨uA, ucap, rfl, hucap, hur⟩ := hu'
      have HU := szRecordS_sum _ LL[j] z wr ⟨uA, ucap, rfl, hucap, hur⟩ s1 s2 (by omega)
      clear hur
      have hi1 : (j : Int) < (LL.length : Int) := by omega
      have hi0 : (0 : Int) ≤ (j : Int) := by omega
      go_wp2_with fail
      refine HU.mono ?_
      rintro e w1 (⟨z1, hz1, rfl, hb1⟩ | ⟨z1, hz1, rfl, hb1⟩)
      · have hd1 : decide (z1 < 0) = true := by simpa using hz1
        go_wp2_with fail
        go_ret
        exact .inl ⟨_, by omega, rfl, hbw.trans (hb1.mono hbw.size)⟩
      · have hd1 : decide ((z1 : Int) < 0) = false := by simp
        go_wp2_with fail
        go_roundw
        case rel => exact ⟨j + 1, z1, by omega, by go_num, rfl, by rw [total_snoc hlt]; omega, hbw.trans (hb1.mono hbw.size)⟩
        case measure => simp [intOf]; omega
    · obtain rfl : j = LL.length := by omega
      rw [List.take_of_length_le (Nat.le_refl _)] at hz
      go_wp2
      go_ret
      exact .inr ⟨z, hz, rfl, hbw⟩

/-- The rows of a stack lie from base on, below top. -/
theorem StkRow.low {w : World} {base : Nat} {v : Value} {LL : List (List R)} (h : StkRow w base v LL) : ∃ (g : Nat) (us : List Value), v = .slice (some ⟨g, 0, none⟩) LL.length LL.length ∧ us.length = LL.length ∧ g < w.heap.size ∧ (∀ (i : Nat) (u : Value), us[i]? = some u → w.cell? ⟨g, i, none⟩ = some u) ∧
    ∀ (i : Nat) (u : Value) (l : List R), us[i]? = some u → LL[i]? = some l → RowOf w base u l.length l ∧ u.ownBlock ≠ some g ∧ ∀ (j : Nat) (u' : Value), us[j]? = some u' → ∀ c, u.ownBlock = some c → u'.ownBlock = some c → i = j := by
  obtain ⟨g, us, rfl, hn, ho, h1, h2⟩ := h
  refine ⟨g, us, rfl, hn, (ho.lt g rfl).2, fun i u hi => ?_, fun i u l hi hl => ?_⟩
  · have hlt : i < us.length := (List.getElem?_eq_some_iff.1 hi).1
    have := ho.cellAt i (by omega)
    rw [hi] at this
    exact this
  · have hlt : i < LL.length := (List.getElem?_eq_some_iff.1 hl).1
    refine ⟨(h1 i u l hlt hi hl).1, (h1 i u l hlt hi hl).2, fun j u' hj c hc hc' => ?_⟩
    have hjl : j < us.length := (List.getElem?_eq_some_iff.1 hj).1
    exact h2 i j u u' c hlt (by omega) hi hj hc hc'

theorem StkRow.top {w w' : World} {base : Nat} {v : Value} {LL : List (List R)} (h : StkRow w base v LL) (hb : Below w.heap.size w w') : ∀ (g : Nat) (us : List Value), v = .slice (some ⟨g, 0, none⟩) LL.length LL.length → us.length = LL.length → (∀ (i : Nat) (u : Value), us[i]? = some u → w'.cell? ⟨g, i, none⟩ = some u) → ∀ (i : Nat) (u : Value), us[i]? = some u → ∀ c, u.ownBlock = some c → c < w.heap.size := by
  obtain ⟨g, us, rfl, hn, hgl, hcs, hrs⟩ := h.low
  intro g' us' e hn' hc' i u hi c hc
  cases e
  have hlt : i < us'.length := (List.getElem?_eq_some_iff.1 hi).1
  have h1 := hcs i (us[i]'(by omega)) (List.getElem?_eq_getElem _)
  have h2 := (hb.cell (p := ⟨g, i, none⟩) hgl).symm.trans (hc' i u hi)
  rw [h1] at h2
  cases h2
  exact ((hrs i _ _ (List.getElem?_eq_getElem (by omega)) (List.getElem?_eq_getElem (by omega))).1.2.lt c hc).2

end Go.Proofs.YtibekkfbpmloiaaDoor.Recs
