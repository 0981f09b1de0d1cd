/- Parts of several texts of mine in one file (each begins with its own remark). -/
import Derived.Test.YtibekkfbpmloiabGreatDoorHA1
import Derived.Test.YtibekkfbpmloiabGreatDoorHA10
import Derived.Test.YtibekkfbpmloiabGreatDoorHA11
import Derived.Test.YtibekkfbpmloiabGreatDoorHA12
import Derived.Test.YtibekkfbpmloiabGreatDoorHA14
import Derived.Test.YtibekkfbpmloiabGreatDoorHA15
import Derived.Test.YtibekkfbpmloiabGreatDoorHA16
import Derived.Test.YtibekkfbpmloiabGreatDoorHA17
import Derived.Test.YtibekkfbpmloiabGreatDoorHA19
import Derived.Test.YtibekkfbpmloiabGreatDoorHA2
import Derived.Test.YtibekkfbpmloiabGreatDoorHA20
import Derived.Test.YtibekkfbpmloiabGreatDoorHA21
import Derived.Test.YtibekkfbpmloiabGreatDoorHA3
import Derived.Test.YtibekkfbpmloiabGreatDoorHA4
import Derived.Test.YtibekkfbpmloiabGreatDoorHA5
import Derived.Test.YtibekkfbpmloiabGreatDoorHA6
import Derived.Test.YtibekkfbpmloiabGreatDoorHA7
import Derived.Test.YtibekkfbpmloiabGreatDoorHA8
import Derived.Test.YtibekkfbpmloiabGreatDoorHA9
import Derived.Test.YtibekkfbpmloiabGreatDoorChecked
import Derived.Test.YtibekkfbpmloiabGreatDoorShelf
import Derived.Test.YtibekkfbpmloiabGreatDoorProg
import Derived.Test.YtibekkfbpmloiabGreatDoorRows
import Derived.BigRegion
import Derived.RangeFuncNested
import Derived.RangeFuncBound
import Derived.RangeFuncCalls
import Derived.RangeFuncLeaves
import Derived.RangeFuncBox
import Derived.Shelf.Abstract
import Derived.Shelf.RegionOpen
import Derived.OwnWalkIn
import Derived.TacticsInMore
import Derived.LoopNIn
import Derived.LoopIn
import Derived.Deep.Slices
import Derived.OpenShut
import Derived.ShutString
import Derived.ChangeArms
import Derived.WideShapes
import Derived.Lib.LaidTab
import Derived.BigQuiet
import Derived.Deep.QuietTactic
import Derived.Deep.RegionHeld3
import Derived.StillTailTactics
import Derived.Deep.Draws
import Derived.Deep.LoopGhost
import Derived.WalkKit
import Derived.WalkSpells
import Derived.WalkSmall
import Derived.Lib.OthersKept
import Derived.Lib.Hide
import Derived.Lib.Strings
import Derived.Lib.Join
import Derived.Laws.OwnMore
import Derived.Laws.BytesArg
import Derived.Stop.LaidErr
import Derived.WalkLawsBesides
import Derived.LaidEql
import Derived.Stop.Asserts
import Derived.Below
import Derived.Stop.LaidTwo
import Derived.ChangeVars
import Derived.Deep.DeepHandedRow
import Derived.Deep.RegionWith
import Derived.OneCell
import Derived.Lib.SliceRun
import Derived.Lib.Overlaps
import Derived.Lib.AppendZerosOnto
import Derived.Laws.NewBlocks
import Derived.Laws.IdiomCopy
import Derived.Deep.RegionLaw
/- The records of a path, of the program; WinnerAt of the program. Conditions: the table of kinds, the two sentinels. -/
namespace Go.Proofs.YtibekkfbpmloiabGreatDoor.Recs
set_option maxRecDepth 100000
open Go.RowKit Paths Errs

theorem placedInfo : (Tryz.prog.info? 103).map (fun i => (i.zero, i.size, i.bytes)) = some (some (.agg #[.int .i64 0, .string ByteArray.empty, .string ByteArray.empty, .int .i64 0, .bool false, .int .i64 0]), 6, 64) := by kernel_rfl
theorem csP_new (w : World) (p : R × Nat) (t : TypeId) (j : Nat) (u : Value) (h : (csP p)[j]? = some u) : (w.alloc (.cells #[.int .i64 p.1.k, .string p.1.p, .string p.1.b, .int .i64 p.1.m, .bool p.1.o, .int .i64 (p.2 : Int)] t)).cell? ((⟨w.heap.size, 0, none⟩ : Addr).add j) = some u := by
  rw [Addr.add_lit]
  match j, h with
  | 0, h => cases h; go_simp
  | 1, h => cases h; go_simp
  | 2, h => cases h; go_simp
  | 3, h => cases h; go_simp
  | 4, h => cases h; go_simp
  | 5, h => cases h; go_simp
  | j + 6, h => simp [csP] at h
theorem csP_one (p : R × Nat) : ∀ u ∈ csP p, u.oneCell' = true := by
  intro u hu
  simp only [csP, List.mem_cons, List.not_mem_nil, or_false] at hu
  rcases hu with rfl | rfl | rfl | rfl | rfl | rfl <;> rfl
theorem rowP_snoc {w : World} {base : Nat} {v : Value} {M : List (R × Nat)} {p : R × Nat} (h : w.ownsRow base 103 6 v (M.length + 1) (flatG csP M ++ csP p)) : RowP w base v (M ++ [p]).length (M ++ [p]) :=
  ⟨rfl, by rw [flatG_snoc, List.length_append]; exact h⟩
theorem grp_len (LL : List (List R)) (q : ByteArray) : (grp LL q).length ≤ LL.length := by
  unfold grp
  generalize 0 = n
  induction LL generalizing n with
  | nil => exact Nat.le_refl _
  | cons l s ih =>
    have := ih (n + 1)
    simp only [grpN]
    cases recAt l q with
    | none => simp only [List.length_cons]; omega
    | some r => simp only [List.length_cons]; omega

set_option maxHeartbeats 3200000 in
theorem groupAt_any (v : Value) (LL : List (List R)) (q : ByteArray) (w : World) (h : StkSl w v LL) (hl : LL.length ≤ 5) (hll : ∀ l ∈ LL, l.length ≤ 1048576) :
    Calls Tryz.prog 159 #[v, .string q] w fun e w' => ∃ x, e = .returned x ∧ Below w.heap.size w w' ∧ RowP w' w.heap.size x (grp LL q).length (grp LL q) := by
  obtain ⟨i0, hi, hI0, hI1, hI2⟩ := info_parts placedInfo
  obtain ⟨A, cap, rfl, hcap, h⟩ := h
  have H := Lib.hid h
  have HLL := Lib.hid hll
  clear h hll
  go_enter Tryz.func159, Tryz.ntmps159
  go_wp2
  go_loopw [5, 11] (fun gv i wr => ∃ (k : Nat) (M : List (R × Nat)), k ≤ LL.length ∧ i = .int .i64 k ∧ Hid (M = grp (LL.take k) q) ∧ RowP wr w.heap.size gv M.length M ∧ Below w.heap.size w wr) (fun _ i _ => LL.length - (intOf i).toNat)
  case atStart => exact ⟨0, [], by omega, rfl, rfl, RowG.nil, Below.refl _ _⟩
  case round =>
    obtain ⟨k, M, hk, rfl, HM, hrow, hbw⟩ := hrel
    obtain ⟨gA, gcap, rfl⟩ := hrow.form
    by_cases hlt : k < LL.length
    · obtain ⟨b, off, rfl, hb, hcell⟩ := H.out (by omega)
      obtain ⟨u, hu0, hur⟩ := hcell k LL[k] (by simp [hlt])
      have hu : wr.cell? ⟨b, off + k, none⟩ = some u := (hbw.cell (p := ⟨b, off + k, none⟩) hb).trans hu0
      have hus := hur.below hbw
      have hi1 : (k : Int) < (LL.length : Int) := by omega
      have hi0 : (0 : Int) ≤ (k : Int) := by omega
      have HST := Lib.hid (grp_take hlt q)
      have hml : M.length ≤ 5 := by
        rw [HM.out]
        have := grp_len (LL.take k) q
        rw [List.length_take] at this
        omega
      have HIX := indexOfPath_any u LL[k] q wr hus (HLL.out _ (List.getElem_mem hlt))
      clear hcell hu0 hur
      rcases atL_recAt LL[k] q with ⟨ha, hn⟩ | ⟨j, hj, ha, hn⟩
      · rw [ha] at HIX
        have HN : Hid (M = grp (LL.take (k + 1)) q) := by show _ = _; rw [HST.out, hn]; exact HM.out
        obtain ⟨uA, ucap, rfl, -⟩ := hus
        go_wp2_with fail
        refine HIX.mono ?_
        rintro e w1 ⟨rfl, hb1⟩
        go_wp2_with fail
        exact ⟨⟨k + 1, M, by omega, by go_num, HN, hrow.below hb1, hbw.trans (hb1.mono hbw.size)⟩, by simp [intOf]; omega⟩
      · rw [ha] at HIX
        have HN : Hid (M ++ [(LL[k][j], k + 1)] = grp (LL.take (k + 1)) q) := by show _ = _; rw [HST.out, hn, ← HM.out]
        have hus2 := hus
        obtain ⟨uA, ucap, rfl, huc, hur⟩ := hus
        obtain ⟨b2, off2, rfl, hb2, hcell2⟩ := hur (by omega)
        have HC2 := Lib.hid (hcell2 j LL[k][j] (by rw [List.getElem?_eq_getElem hj]))
        generalize hR : LL[k][j] = r at *
        have hj1 : (j : Int) < (LL[k].length : Int) := by omega
        have hj0 : (0 : Int) ≤ (j : Int) := by omega
        clear hcell2 hn hur
        go_wp2_with fail
        refine HIX.mono ?_
        rintro e w1 ⟨rfl, hb1⟩
        obtain ⟨c0, c1, c2, c3, c4⟩ := HC2.out.below hb1 hb2
        have d1 := hbw.trans (hb1.mono hbw.size)
        have hsz1 := d1.size
        have ho1 := (hrow.below hb1).2
        have hkk : ((k + 1 : Nat) : Int) = (k : Int) + 1 := by omega
        have hnw := csP_new w1 (r, k + 1) 103
        simp only [hkk] at hnw
        go_wp2_with (first
          | (at_builtin; refine wpList_append_own _ rfl _ _ 100 rfl w.heap.size 103 i0 (.agg #[.int .i64 0, .string ByteArray.empty, .string ByteArray.empty, .int .i64 0, .bool false, .int .i64 0]) 6 64 Tryz.underlying100 hi hI0 hI1 hI2 rfl (by decide) _ _ _ rfl (ho1.alloc _) ⟨w1.heap.size, 0, none⟩ 1 1 (csP (r, k + 1)) rfl rfl hnw (csP_one _) (by unfold maxLen; omega) (by omega) (by simp; omega) ?_; intro v' w9 hown' hgrow9 hnil9))
        exact ⟨⟨k + 1, _, by omega, by go_num, HN, rowP_snoc hown', (d1.alloc d1.size _).grown hgrow9 (d1.alloc d1.size _).size (fun j hj => (ho1.lt j hj).1)⟩, by simp [intOf]; omega⟩
    · have HF : Hid (M = grp LL q) := by show _ = _; rw [HM.out, List.take_of_length_le (by omega)]
      go_wp2
      go_ret
      exact ⟨_, rfl, hbw, by rw [← HF.out]; exact hrow⟩

set_option maxHeartbeats 1600000 in
theorem winnerAtP_any (v : Value) (LL : List (List R)) (q : ByteArray) (w : World) (h : StkSl w v LL) (hl5 : LL.length ≤ 5) (hok : ∀ l ∈ LL, layerOK l = true) (hq : pathB q.data.toList = true) :
    Calls Tryz.prog 95 #[v, .string q] w fun e w' => e = .returned (pv (winC LL q)) ∧ Below w.heap.size w w' := by
  have hlo : ∀ l ∈ LL, l.length ≤ 1048576 := fun l hm => by have := layer_len (hok l hm); omega
  have HCD := fun w1 hb => cutDepth_any v LL q w1 (h.below hb) (by omega) hok hq (path_max hq) (fun l hm r hr => path_max (fault_path (layer_rec (hok l hm) hr)).1)
  have HGA := fun w1 hb => groupAt_any v LL q w1 (h.below hb) hl5 hlo
  have HGL := grp_len LL q
  have HR := Lib.hid (overP_win LL q)
  have hb0 : Below w.heap.size w (w.alloc (.cells #[.int .i64 0, .string ByteArray.empty, .string ByteArray.empty, .int .i64 0, .bool false, .int .i64 0] 103)) := (Below.refl _ _).alloc (Nat.le_refl _) _
  have HRB : Hid (Pbox (w.alloc (.cells #[.int .i64 0, .string ByteArray.empty, .string ByteArray.empty, .int .i64 0, .bool false, .int .i64 0] 103)) w.heap.size (zR, 0)) := alloc_here _ _
  have hsz0 : w.heap.size < (w.alloc (.cells #[.int .i64 0, .string ByteArray.empty, .string ByteArray.empty, .int .i64 0, .bool false, .int .i64 0] 103)).heap.size := by simp
  obtain ⟨vA, vcap, rfl⟩ := h.form
  clear h hok hq hlo
  go_enter Tryz.func95, Tryz.ntmps95
  go_wp2_with fail
  refine (HGA _ hb0).mono ?_
  rintro e w2 ⟨g, rfl, hb2, hg⟩
  obtain ⟨gA, gcap, rfl⟩ := hg.form
  have HG := Lib.hid hg
  have c2 := hb0.trans (hb2.mono hb0.size)
  have HR2 := Lib.hid (HRB.out.below hb2 hsz0)
  have s2 := Nat.lt_of_lt_of_le hsz0 hb2.size
  clear hg
  go_wp2_with fail
  refine (HCD w2 c2).mono ?_
  rintro e w3 ⟨rfl, hb3⟩
  have c3 := c2.trans (hb3.mono c2.size)
  have HR3 := Lib.hid (HR2.out.below hb3 s2)
  have s3 := Nat.lt_of_lt_of_le s2 hb3.size
  have HWO := winnerOf_any _ (grp LL q) (cutD LL q) w3 (RowP.sl (HG.out.below hb3)) (by omega)
  rw [HR.out] at HWO
  unfold pv at HWO
  go_wp2_with fail
  refine HWO.mono ?_
  rintro e w4 ⟨rfl, hb4⟩
  have c4 := c3.trans (hb4.mono c3.size)
  have HR4 := HR3.out.below hb4 s3
  obtain ⟨⟨z0, z1, z2, z3, z4⟩, z5⟩ := HR4.cells
  simp only [Nat.zero_add] at z0 z1 z2 z3 z4 z5
  have f0 := HR4.frozen 0
  have f1 := HR4.frozen 1
  have f2 := HR4.frozen 2
  have f3 := HR4.frozen 3
  have f4 := HR4.frozen 4
  have f5 := HR4.frozen 5
  have HRX := Lib.hid HR4
  clear HR HR4
  generalize hP : winC LL q = P at *
  obtain ⟨r, n⟩ := P
  have HPE := Lib.hid hP
  clear hP
  go_wp2_with fail
  have HFI := HRX.out.set r n
  have HBE : Below w.heap.size w ((((((w4.setCell ⟨w.heap.size, 0, none⟩ (.int .i64 r.k)).setCell ⟨w.heap.size, 1, none⟩ (.string r.p)).setCell ⟨w.heap.size, 2, none⟩ (.string r.b)).setCell ⟨w.heap.size, 3, none⟩ (.int .i64 r.m)).setCell ⟨w.heap.size, 4, none⟩ (.bool r.o)).setCell ⟨w.heap.size, 5, none⟩ (.int .i64 (n : Int))) := by
    repeat (refine Below.setCell ?_ (by simp) _)
    exact c4
  generalize ((((((w4.setCell ⟨w.heap.size, 0, none⟩ (.int .i64 r.k)).setCell ⟨w.heap.size, 1, none⟩ (.string r.p)).setCell ⟨w.heap.size, 2, none⟩ (.string r.b)).setCell ⟨w.heap.size, 3, none⟩ (.int .i64 r.m)).setCell ⟨w.heap.size, 4, none⟩ (.bool r.o)).setCell ⟨w.heap.size, 5, none⟩ (.int .i64 (n : Int))) = WF at *
  obtain ⟨⟨q0, q1, q2, q3, q4⟩, q5⟩ := HFI.cells
  simp only [Nat.zero_add] at q0 q1 q2 q3 q4 q5
  exact bodyPost_ret (v := pv (r, n)) (by simp [results, Tryz.results95, go_sem, pv, q0, q1, q2, q3, q4, q5]) rfl ⟨by rw [HPE.out], HBE⟩

def winF (LL : List (List R)) (q : ByteArray) : R × Nat × Int := if codeSP LL q ≠ 0 then (zR, 0, codeSP LL q) else if (winC LL q).2 = 0 then (zR, 0, 5) else ((winC LL q).1, (winC LL q).2, 0)
def winV (LL : List (List R)) (q : ByteArray) : Value := .tuple #[(winF LL q).1.val, .int .i64 ((winF LL q).2.1 : Int), .int .i64 (winF LL q).2.2]
theorem win_bad {LL : List (List R)} {q : ByteArray} {c : Int} (h : codeSP LL q = c) (hc : c ≠ 0) : winV LL q = .tuple #[zR.val, .int .i64 0, .int .i64 c] := by unfold winV winF; rw [if_pos (by rw [h]; exact hc), h]; rfl
theorem win_none {LL : List (List R)} {q : ByteArray} (h : codeSP LL q = 0) (h0 : (winC LL q).2 = 0) : winV LL q = .tuple #[zR.val, .int .i64 0, .int .i64 5] := by unfold winV winF; rw [if_neg (by simpa using h), if_pos h0]; rfl
theorem win_some {LL : List (List R)} {q : ByteArray} (h : codeSP LL q = 0) (h0 : (winC LL q).2 ≠ 0) : winV LL q = .tuple #[(winC LL q).1.val, .int .i64 ((winC LL q).2 : Int), .int .i64 0] := by unfold winV winF; rw [if_neg (by simpa using h), if_neg h0]

set_option maxHeartbeats 3200000 in
theorem winnerAt_impl (v : Value) (LL : List (List R)) (q : ByteArray) (x y : Addr) (w : World) (h : StkSl w v LL) (hl : LL.length ≤ 1048576) (hr : ∀ l ∈ LL, l.length ≤ 1048576 ∧ ∀ r ∈ l, r.p.size ≤ maxLen) (hqm : q.size ≤ maxLen) (hT : Three w x y) :
    Calls Tryz.prog 40 #[v, .string q] w fun e w' => e = .returned (winV LL q) ∧ Below w.heap.size w w' := by
  have hb0 : Below w.heap.size w (w.alloc (.cells #[.int .i64 0, .string ByteArray.empty, .string ByteArray.empty, .int .i64 0, .bool false] 53)) := (Below.refl _ _).alloc (Nat.le_refl _) _
  have HC := checkSP_any v LL q x y _ (h.below hb0) hl hr hqm (hT.below hb0 (Nat.le_refl _))
  have HRB : Hid (Rbox (w.alloc (.cells #[.int .i64 0, .string ByteArray.empty, .string ByteArray.empty, .int .i64 0, .bool false] 53)) w.heap.size zR) := alloc_here _ _
  have hsz0 : w.heap.size < (w.alloc (.cells #[.int .i64 0, .string ByteArray.empty, .string ByteArray.empty, .int .i64 0, .bool false] 53)).heap.size := by simp
  by_cases h0 : codeSP LL q = 0
  · obtain ⟨ho, hq⟩ := sp_ok h0
    have hst := stack_of ho
    have HWA := fun w1 hb => winnerAtP_any v LL q w1 (h.below hb) hst.1 hst.2 hq
    have H0 := Lib.hid h0
    rw [h0] at HC
    clear h0 ho hq hst
    obtain ⟨vA, vcap, rfl⟩ := h.form
    go_enter Tryz.func40, Tryz.ntmps40
    go_wp2_with fail
    refine HC.mono ?_
    rintro e w1 ⟨rfl, hb1⟩
    have c1 := hb0.trans (hb1.mono hb0.size)
    unfold pv at HWA
    go_wp2_with fail
    refine (HWA w1 c1).mono ?_
    rintro e w4 ⟨rfl, hb4⟩
    have c4 := c1.trans (hb4.mono c1.size)
    have HR1 := HRB.out.below hb1 hsz0
    have s1 : w.heap.size < w1.heap.size := Nat.lt_of_lt_of_le hsz0 hb1.size
    have HR4 := HR1.below hb4 s1
    have s4 : w.heap.size < w4.heap.size := Nat.lt_of_lt_of_le s1 hb4.size
    have HR := Lib.hid HR4
    obtain ⟨⟨x0, x1, x2, x3, x4⟩, f0, f1, f2, f3, f4⟩ := HR.out.facts
    clear HR1 HR4 s1
    by_cases hz : (winC LL q).2 = 0
    · have HE := Lib.hid (win_none H0.out hz)
      have hzi : ((winC LL q).2 : Int) = 0 := by omega
      rw [hzi]
      generalize winC LL q = W at *
      obtain ⟨r, n⟩ := W
      dsimp only at HE hz hzi ⊢
      have hF : Rbox (((((w4.setCell ⟨w.heap.size, 0, none⟩ (.int .i64 0)).setCell ⟨w.heap.size, 1, none⟩ (.string ⟨#[]⟩)).setCell ⟨w.heap.size, 2, none⟩ (.string ⟨#[]⟩)).setCell ⟨w.heap.size, 3, none⟩ (.int .i64 0)).setCell ⟨w.heap.size, 4, none⟩ (.bool false)) w.heap.size zR := HR.out.set zR
      have hB : Below w.heap.size w (((((w4.setCell ⟨w.heap.size, 0, none⟩ (.int .i64 0)).setCell ⟨w.heap.size, 1, none⟩ (.string ⟨#[]⟩)).setCell ⟨w.heap.size, 2, none⟩ (.string ⟨#[]⟩)).setCell ⟨w.heap.size, 3, none⟩ (.int .i64 0)).setCell ⟨w.heap.size, 4, none⟩ (.bool false)) := by
        repeat (refine Below.setCell ?_ (by simp) _)
        exact c4
      go_wp2_with fail
      generalize (((((w4.setCell ⟨w.heap.size, 0, none⟩ (.int .i64 0)).setCell ⟨w.heap.size, 1, none⟩ (.string ⟨#[]⟩)).setCell ⟨w.heap.size, 2, none⟩ (.string ⟨#[]⟩)).setCell ⟨w.heap.size, 3, none⟩ (.int .i64 0)).setCell ⟨w.heap.size, 4, none⟩ (.bool false)) = WF at *
      have hF2 : Rbox (WF.alloc (.cells #[.int .i64 r.k, .string r.p, .string r.b, .int .i64 r.m, .bool r.o, .int .i64 0] 103)) w.heap.size zR := (Below.heap_alloc _ _ _ hF.lt).trans hF
      obtain ⟨⟨q0, q1, q2, q3, q4⟩, -⟩ := hF2.facts
      exact bodyPost_ret (v := .tuple #[zR.val, .int .i64 0, .int .i64 5]) (by simp [results, Tryz.results40, go_sem, R.val, q0, q1, q2, q3, q4]) rfl ⟨by rw [HE.out], hB.alloc hB.size _⟩
    · have HE := Lib.hid (win_some H0.out hz)
      have hd : (((winC LL q).2 : Int) == 0) = false := by simp; omega
      have hd' : ((winC LL q).2 == 0) = false := by simpa using hz
      generalize winC LL q = W at *
      obtain ⟨r, n⟩ := W
      dsimp only at hd hd' HE hz ⊢
      have eA : Below w4.heap.size w4 (w4.alloc (.cells #[.int .i64 r.k, .string r.p, .string r.b, .int .i64 r.m, .bool r.o, .int .i64 (n : Int)] 103)) := (Below.refl _ _).alloc (Nat.le_refl _) _
      have HP5 : Hid (Pbox (w4.alloc (.cells #[.int .i64 r.k, .string r.p, .string r.b, .int .i64 r.m, .bool r.o, .int .i64 (n : Int)] 103)) w4.heap.size (r, n)) := alloc_here _ _
      have HR5 := Lib.hid (HR.out.below eA s4)
      have c5 := c4.trans (eA.mono c4.size)
      clear x0 x1 x2 x3 x4 f0 f1 f2 f3 f4
      go_wp2_with fail
      generalize w4.alloc (.cells #[.int .i64 r.k, .string r.p, .string r.b, .int .i64 r.m, .bool r.o, .int .i64 (n : Int)] 103) = W5 at *
      obtain ⟨⟨p0, p1, p2, p3, p4⟩, p5⟩ := HP5.out.cells
      simp only [Nat.zero_add] at p0 p1 p2 p3 p4 p5
      obtain ⟨⟨x0, x1, x2, x3, x4⟩, f0, f1, f2, f3, f4⟩ := HR5.out.facts
      have hne : w4.heap.size ≠ w.heap.size := by omega
      have HF := Lib.hid (HR5.out.set r)
      have HB : Hid (Below w.heap.size w (((((W5.setCell ⟨w.heap.size, 0, none⟩ (.int .i64 r.k)).setCell ⟨w.heap.size, 1, none⟩ (.string r.p)).setCell ⟨w.heap.size, 2, none⟩ (.string r.b)).setCell ⟨w.heap.size, 3, none⟩ (.int .i64 r.m)).setCell ⟨w.heap.size, 4, none⟩ (.bool r.o))) := by
        show Below _ _ _
        repeat (refine Below.setCell ?_ (by simp) _)
        exact c5
      clear eA HP5 HR HRB HC HWA
      go_region
      generalize (((((W5.setCell ⟨w.heap.size, 0, none⟩ (.int .i64 r.k)).setCell ⟨w.heap.size, 1, none⟩ (.string r.p)).setCell ⟨w.heap.size, 2, none⟩ (.string r.b)).setCell ⟨w.heap.size, 3, none⟩ (.int .i64 r.m)).setCell ⟨w.heap.size, 4, none⟩ (.bool r.o)) = WF at *
      obtain ⟨⟨q0, q1, q2, q3, q4⟩, -⟩ := HF.out.facts
      have q0 : WF.drew.cell? ⟨w.heap.size, 0, none⟩ = some (.int .i64 r.k) := q0
      have q1 : WF.drew.cell? ⟨w.heap.size, 1, none⟩ = some (.string r.p) := q1
      have q2 : WF.drew.cell? ⟨w.heap.size, 2, none⟩ = some (.string r.b) := q2
      have q3 : WF.drew.cell? ⟨w.heap.size, 3, none⟩ = some (.int .i64 r.m) := q3
      have q4 : WF.drew.cell? ⟨w.heap.size, 4, none⟩ = some (.bool r.o) := q4
      go_wp2_with fail
      exact bodyPost_ret (v := .tuple #[r.val, .int .i64 (n : Int), .int .i64 0]) (by simp [results, Tryz.results40, go_sem, R.val, q0, q1, q2, q3, q4]) rfl ⟨by rw [HE.out], below_drewN HB.out 1⟩
  · have HE := Lib.hid (win_bad (LL := LL) (q := q) rfl h0)
    have hne : (codeSP LL q != 0) = true := by simpa using h0
    generalize hC : codeSP LL q = C at *
    have HCC := Lib.hid hC
    clear hC h0
    obtain ⟨vA, vcap, rfl⟩ := h.form
    go_enter Tryz.func40, Tryz.ntmps40
    go_wp2_with fail
    refine HC.mono ?_
    rintro e w1 ⟨rfl, hb1⟩
    have HR := Lib.hid (HRB.out.below hb1 hsz0)
    obtain ⟨⟨x0, x1, x2, x3, x4⟩, f0, f1, f2, f3, f4⟩ := HR.out.facts
    have c1 := hb0.trans (hb1.mono hb0.size)
    have hF : Rbox (((((w1.setCell ⟨w.heap.size, 0, none⟩ (.int .i64 0)).setCell ⟨w.heap.size, 1, none⟩ (.string ⟨#[]⟩)).setCell ⟨w.heap.size, 2, none⟩ (.string ⟨#[]⟩)).setCell ⟨w.heap.size, 3, none⟩ (.int .i64 0)).setCell ⟨w.heap.size, 4, none⟩ (.bool false)) w.heap.size zR := HR.out.set zR
    have hB : Below w.heap.size w (((((w1.setCell ⟨w.heap.size, 0, none⟩ (.int .i64 0)).setCell ⟨w.heap.size, 1, none⟩ (.string ⟨#[]⟩)).setCell ⟨w.heap.size, 2, none⟩ (.string ⟨#[]⟩)).setCell ⟨w.heap.size, 3, none⟩ (.int .i64 0)).setCell ⟨w.heap.size, 4, none⟩ (.bool false)) := by
      repeat (refine Below.setCell ?_ (by simp) _)
      exact c1
    go_wp2_with fail
    generalize (((((w1.setCell ⟨w.heap.size, 0, none⟩ (.int .i64 0)).setCell ⟨w.heap.size, 1, none⟩ (.string ⟨#[]⟩)).setCell ⟨w.heap.size, 2, none⟩ (.string ⟨#[]⟩)).setCell ⟨w.heap.size, 3, none⟩ (.int .i64 0)).setCell ⟨w.heap.size, 4, none⟩ (.bool false)) = WF at *
    obtain ⟨⟨q0, q1, q2, q3, q4⟩, -⟩ := hF.facts
    exact bodyPost_ret (v := .tuple #[zR.val, .int .i64 0, .int .i64 C]) (by simp [results, Tryz.results40, go_sem, R.val, q0, q1, q2, q3, q4]) rfl ⟨by rw [HE.out], hB⟩
end Go.Proofs.YtibekkfbpmloiabGreatDoor.Recs
