/- Parts of several texts of mine in one file (each begins with its own remark). -/
import Derived.Test.YtibekkfbpmloiabGreatDoorCA1
import Derived.Test.YtibekkfbpmloiabGreatDoorCA10
import Derived.Test.YtibekkfbpmloiabGreatDoorCA14
import Derived.Test.YtibekkfbpmloiabGreatDoorCA15
import Derived.Test.YtibekkfbpmloiabGreatDoorCA2
import Derived.Test.YtibekkfbpmloiabGreatDoorCA22
import Derived.Test.YtibekkfbpmloiabGreatDoorCA3
import Derived.Test.YtibekkfbpmloiabGreatDoorCA4
import Derived.Test.YtibekkfbpmloiabGreatDoorCA5
import Derived.Test.YtibekkfbpmloiabGreatDoorCB1
import Derived.Test.YtibekkfbpmloiabGreatDoorCE3
import Derived.Test.YtibekkfbpmloiabGreatDoorChecked
import Derived.Test.YtibekkfbpmloiabGreatDoorShelf
import Derived.Test.YtibekkfbpmloiabGreatDoorProg
import Derived.Test.YtibekkfbpmloiabGreatDoorRows
import Derived.Stop.LaidErr
import Derived.StillTailTactics
import Derived.Laws.OwnMore
import Derived.BigQuiet
import Derived.BigRegion
import Derived.Deep.QuietTactic
import Derived.Deep.RegionHeld3
import Derived.Deep.Slices
import Derived.OpenShut
import Derived.ShutString
import Derived.ChangeArms
import Derived.WideShapes
import Derived.Lib.LaidTab
import Derived.Deep.Draws
import Derived.Deep.LoopGhost
import Derived.WalkKit
import Derived.WalkSpells
import Derived.WalkSmall
import Derived.Lib.OthersKept
import Derived.Lib.Hide
import Derived.Lib.Strings
import Derived.Lib.Join
import Derived.Laws.BytesArg
import Derived.WalkLawsBesides
import Derived.LaidEql
import Derived.Stop.Asserts
import Derived.Below
import Derived.Stop.LaidTwo
import Derived.ChangeVars
import Derived.Deep.DeepHandedRow
/- Layers: the canonical form, of the model. -/
namespace Go.Proofs.YtibekkfbpmloiabGreatDoor.Recs
set_option maxRecDepth 100000
open Go.RowKit Paths Errs

theorem canon_flat {l : List R} {r : R} (hu : underL l r.p = false) (ho : r.o = false) : canonR l r = some { r with o := false } := by
  unfold canonR; rw [if_neg (by rw [hu]; decide), ho]; rfl
theorem canon_shallow {l : List R} {r : R} (hu : underL l r.p = false) (ho : r.o = true) (hd : (cutAt 47 r.p.data.toList).length < 4) : canonR l r = some { r with o := true } := by
  unfold canonR; rw [if_neg (by rw [hu]; decide), ho, decide_eq_true hd]; rfl

set_option maxHeartbeats 3200000 in
theorem l03Canon_gen (v : Value) (l : List R) (w : World) (h : RecSl w v l) (hsd : Sorted l) (hf : ∀ r ∈ l, r.fault = 0) (hl16 : l.length ≤ 1024) :
    Calls Tryz.prog 149 #[v] w fun e w' => ∃ x, e = .returned x ∧ Below w.heap.size w w' ∧ RowOf w' w.heap.size x (canonL l).length (canonL l) := by
  obtain ⟨i0, hi, hI0, hI1, hI2⟩ := info_parts recInfo
  have hsl := h
  obtain ⟨A, cap, rfl, hcap, h⟩ := h
  have HSl := Lib.hid hsl
  have H := Lib.hid h
  have HO := Lib.hid hf
  have HSD := Lib.hid hsd
  clear h hsl hf hsd
  have hown0 : (w.alloc (.cells #[] 53)).ownsRow w.heap.size 53 5 (.slice (some ⟨w.heap.size, 0, none⟩) 0 0) 0 [] := World.ownsRow_lit w #[] 0 (Nat.le_refl _) (Nat.zero_le _) rfl
  have hb00 : Below w.heap.size w (w.alloc (.cells #[] 53)) := (Below.refl _ _).alloc (Nat.le_refl _) _
  go_enter Tryz.func149, Tryz.ntmps149
  go_wp2
  go_loopw [3, 4] (fun f i wr => ∃ (k : Nat) (M : List R), k ≤ l.length ∧ i = .int .i64 k ∧ RowOf wr w.heap.size f M.length M ∧ Hid (Done l k M) ∧ Below w.heap.size w wr) (fun _ i _ => l.length - (intOf i).toNat)
  case atStart => exact ⟨0, [], by omega, rfl, ⟨rfl, hown0⟩, done_start l, hb00⟩
  case round =>
    obtain ⟨k, M, hk, rfl, hrow, HD, hbw⟩ := hrel
    by_cases hlt : k < l.length
    · obtain ⟨b, off, rfl, hb, hcell⟩ := H.out (by omega)
      obtain ⟨c0, c1, c2, c3, c4⟩ := (hcell k l[k] (by simp [hlt])).below hbw hb
      clear hcell
      have hi1 : (k : Int) < (l.length : Int) := by omega
      have hi0 : (0 : Int) ≤ (k : Int) := by omega
      have hm := List.getElem_mem hlt
      have hp := (fault_path (HO.out _ hm)).1
      have hM := done_len HD.out hl16
      obtain ⟨fA, fcap, rfl⟩ := hrow.form
      have hbA : Below wr.heap.size wr (wr.alloc (.cells #[.int .i64 l[k].k, .string l[k].p, .string l[k].b, .int .i64 l[k].m, .bool l[k].o] 53)) := (Below.refl _ _).alloc (Nat.le_refl _) _
      have hslA := HSl.out.below (hbw.trans (hbA.mono hbw.size))
      have HC := l03Under_any _ l l[k].p _ hslA (by omega) hp
      have hrA := hrow.below hbA
      have hbF : Below wr.heap.size wr (wr.alloc (.cells #[.int .i64 l[k].k, .string l[k].p, .string l[k].b, .int .i64 l[k].m, .bool false] 53)) := (Below.refl _ _).alloc (Nat.le_refl _) _
      have hrF := hrow.below hbF
      have cF := hbw.trans (hbF.mono hbw.size)
      rcases Bool.eq_false_or_eq_true (underL l l[k].p) with hu | hu
      · rw [hu] at HC
        by_cases h4 : l[k].k = 4
        · have HN := Lib.hid (done_skip hlt HD.out (canon_skip hu h4))
          have hd4 : (l[k].k != 4) = false := by simpa using h4
          clear h4
          go_wp2_with fail
          refine HC.mono ?_
          rintro e w1 ⟨rfl, rfl⟩
          go_wp2_with fail
          exact ⟨⟨k + 1, M, by omega, by go_num, hrF, HN, cF⟩, by simp [intOf]; omega⟩
        · have HN := Lib.hid (done_take hlt HD.out (canon_under hu h4))
          have hd4 : (l[k].k != 4) = true := by simpa using h4
          clear h4
          go_wp2_with fail
          refine HC.mono ?_
          rintro e w1 ⟨rfl, rfl⟩
          have hr2 := hrF
          have cW := cF
          have hr3 : ((wr.alloc (.cells #[.int .i64 l[k].k, .string l[k].p, .string l[k].b, .int .i64 l[k].m, .bool false] 53)).alloc (.cells #[.int .i64 l[k].k, .string l[k].p, .string l[k].b, .int .i64 l[k].m, .bool false] 53)).ownsRow w.heap.size 53 5 (.slice fA M.length fcap) M.length (flat M) := hr2.2.alloc _
          have hsz : (wr.alloc (.cells #[.int .i64 l[k].k, .string l[k].p, .string l[k].b, .int .i64 l[k].m, .bool false] 53)).heap.size = wr.heap.size + 1 := by simp
          have hnews := rec_cells_new (wr.alloc (.cells #[.int .i64 l[k].k, .string l[k].p, .string l[k].b, .int .i64 l[k].m, .bool false] 53)) { l[k] with o := false } 53
          rw [hsz] at hnews
          have hone := rec_one { l[k] with o := false }
          have hbz : w.heap.size ≤ ((wr.alloc (.cells #[.int .i64 l[k].k, .string l[k].p, .string l[k].b, .int .i64 l[k].m, .bool false] 53)).alloc (.cells #[.int .i64 l[k].k, .string l[k].p, .string l[k].b, .int .i64 l[k].m, .bool false] 53)).heap.size := (cW.alloc cW.size _).size
          go_wp2_with (first
            | (at_builtin; refine wpList_append_own _ rfl _ _ 27 rfl w.heap.size 53 i0 (.agg #[.int .i64 0, .string ByteArray.empty, .string ByteArray.empty, .int .i64 0, .bool false]) 5 56 Tryz.underlying27 hi hI0 hI1 hI2 rfl (by decide) _ _ _ rfl hr3 ⟨wr.heap.size + 1, 0, none⟩ 1 1 (R.cs { l[k] with o := false }) rfl rfl hnews hone (by unfold maxLen; omega) (by omega) hbz ?_; intro v' w9 hown' hgrow9 hnil9))
          exact ⟨⟨k + 1, M ++ [{ l[k] with o := false }], by omega, by go_num, row_snoc hown', HN, (cW.alloc cW.size _).grown hgrow9 hbz (fun j hj => (hrow.2.lt j hj).1)⟩, by simp [intOf]; omega⟩
      · rw [hu] at HC
        rcases Bool.eq_false_or_eq_true l[k].o with ho | ho
        · rw [ho] at c4 HC hbA hslA hrA
          go_wp2_with fail
          refine HC.mono ?_
          rintro e w1 ⟨rfl, rfl⟩
          go_wp2_with fail
          refine (l00Cut_any _ _ 47 rfl _ (by have := path_short hp; omega)).mono ?_
          rintro e w2 ⟨v2, rfl, hb2, ho2⟩
          obtain ⟨A2, cap2, rfl⟩ := own_form ho2
          obtain ⟨hc2, hf2⟩ := bcell hb2
          have hz2 : wr.heap.size < w2.heap.size := by have := hb2.size; simp at this; omega
          have cA := hbw.trans (hbA.mono hbw.size)
          have c2 := cA.trans (hb2.mono cA.size)
          have hp4 := (pathB_parts hp).1
          by_cases h4 : (cutAt 47 l[k].p.data.toList).length = 4
          · have HN := Lib.hid (done_take hlt HD.out (canon_deep hu h4))
            rw [h4]
            have hr2 : RowOf (w2.setCell ⟨wr.heap.size, 4, none⟩ (.bool false)) w.heap.size (.slice fA M.length fcap) M.length M := ⟨rfl, ownsRow_setCell_other (hrA.below hb2).2 hrow.ne _⟩
            have cW : Below w.heap.size w (w2.setCell ⟨wr.heap.size, 4, none⟩ (.bool false)) := c2.setCell hbw.size _
            have hr3 : ((w2.setCell ⟨wr.heap.size, 4, none⟩ (.bool false)).alloc (.cells #[.int .i64 l[k].k, .string l[k].p, .string l[k].b, .int .i64 l[k].m, .bool false] 53)).ownsRow w.heap.size 53 5 (.slice fA M.length fcap) M.length (flat M) := hr2.2.alloc _
            have hsz : (w2.setCell ⟨wr.heap.size, 4, none⟩ (.bool false)).heap.size = w2.heap.size := by simp [World.setCell]
            have hnews := rec_cells_new (w2.setCell ⟨wr.heap.size, 4, none⟩ (.bool false)) { l[k] with o := false } 53
            rw [hsz] at hnews
            have hone := rec_one { l[k] with o := false }
            have hbz : w.heap.size ≤ ((w2.setCell ⟨wr.heap.size, 4, none⟩ (.bool false)).alloc (.cells #[.int .i64 l[k].k, .string l[k].p, .string l[k].b, .int .i64 l[k].m, .bool false] 53)).heap.size := (cW.alloc cW.size _).size
            go_wp2_with (first
              | (at_builtin; refine wpList_append_own _ rfl _ _ 27 rfl w.heap.size 53 i0 (.agg #[.int .i64 0, .string ByteArray.empty, .string ByteArray.empty, .int .i64 0, .bool false]) 5 56 Tryz.underlying27 hi hI0 hI1 hI2 rfl (by decide) _ _ _ rfl hr3 ⟨w2.heap.size, 0, none⟩ 1 1 (R.cs { l[k] with o := false }) rfl rfl hnews hone (by unfold maxLen; omega) (by omega) hbz ?_; intro v' w9 hown' hgrow9 hnil9))
            exact ⟨⟨k + 1, M ++ [{ l[k] with o := false }], by omega, by go_num, row_snoc hown', HN, (cW.alloc cW.size _).grown hgrow9 hbz (fun j hj => (hrow.2.lt j hj).1)⟩, by simp [intOf]; omega⟩
          · have HN := Lib.hid (done_take hlt HD.out (canon_shallow hu ho (by omega)))
            have hd4 : decide (((cutAt 47 l[k].p.data.toList).length : Int) < 4) = true := by simp; omega
            have hr2 : RowOf (w2.setCell ⟨wr.heap.size, 4, none⟩ (.bool true)) w.heap.size (.slice fA M.length fcap) M.length M := ⟨rfl, ownsRow_setCell_other (hrA.below hb2).2 hrow.ne _⟩
            have cW : Below w.heap.size w (w2.setCell ⟨wr.heap.size, 4, none⟩ (.bool true)) := c2.setCell hbw.size _
            have hr3 : ((w2.setCell ⟨wr.heap.size, 4, none⟩ (.bool true)).alloc (.cells #[.int .i64 l[k].k, .string l[k].p, .string l[k].b, .int .i64 l[k].m, .bool true] 53)).ownsRow w.heap.size 53 5 (.slice fA M.length fcap) M.length (flat M) := hr2.2.alloc _
            have hsz : (w2.setCell ⟨wr.heap.size, 4, none⟩ (.bool true)).heap.size = w2.heap.size := by simp [World.setCell]
            have hnews := rec_cells_new (w2.setCell ⟨wr.heap.size, 4, none⟩ (.bool true)) { l[k] with o := true } 53
            rw [hsz] at hnews
            have hone := rec_one { l[k] with o := true }
            have hbz : w.heap.size ≤ ((w2.setCell ⟨wr.heap.size, 4, none⟩ (.bool true)).alloc (.cells #[.int .i64 l[k].k, .string l[k].p, .string l[k].b, .int .i64 l[k].m, .bool true] 53)).heap.size := (cW.alloc cW.size _).size
            go_wp2_with (first
              | (at_builtin; refine wpList_append_own _ rfl _ _ 27 rfl w.heap.size 53 i0 (.agg #[.int .i64 0, .string ByteArray.empty, .string ByteArray.empty, .int .i64 0, .bool false]) 5 56 Tryz.underlying27 hi hI0 hI1 hI2 rfl (by decide) _ _ _ rfl hr3 ⟨w2.heap.size, 0, none⟩ 1 1 (R.cs { l[k] with o := true }) rfl rfl hnews hone (by unfold maxLen; omega) (by omega) hbz ?_; intro v' w9 hown' hgrow9 hnil9))
            exact ⟨⟨k + 1, M ++ [{ l[k] with o := true }], by omega, by go_num, row_snoc hown', HN, (cW.alloc cW.size _).grown hgrow9 hbz (fun j hj => (hrow.2.lt j hj).1)⟩, by simp [intOf]; omega⟩
        · have HN := Lib.hid (done_take hlt HD.out (canon_flat hu ho))
          rw [ho] at c4 HC
          go_wp2_with fail
          refine HC.mono ?_
          rintro e w1 ⟨rfl, rfl⟩
          have hr2 := hrF
          have cW := cF
          have hr3 : ((wr.alloc (.cells #[.int .i64 l[k].k, .string l[k].p, .string l[k].b, .int .i64 l[k].m, .bool false] 53)).alloc (.cells #[.int .i64 l[k].k, .string l[k].p, .string l[k].b, .int .i64 l[k].m, .bool false] 53)).ownsRow w.heap.size 53 5 (.slice fA M.length fcap) M.length (flat M) := hr2.2.alloc _
          have hsz : (wr.alloc (.cells #[.int .i64 l[k].k, .string l[k].p, .string l[k].b, .int .i64 l[k].m, .bool false] 53)).heap.size = wr.heap.size + 1 := by simp
          have hnews := rec_cells_new (wr.alloc (.cells #[.int .i64 l[k].k, .string l[k].p, .string l[k].b, .int .i64 l[k].m, .bool false] 53)) { l[k] with o := false } 53
          rw [hsz] at hnews
          have hone := rec_one { l[k] with o := false }
          have hbz : w.heap.size ≤ ((wr.alloc (.cells #[.int .i64 l[k].k, .string l[k].p, .string l[k].b, .int .i64 l[k].m, .bool false] 53)).alloc (.cells #[.int .i64 l[k].k, .string l[k].p, .string l[k].b, .int .i64 l[k].m, .bool false] 53)).heap.size := (cW.alloc cW.size _).size
          go_wp2_with (first
            | (at_builtin; refine wpList_append_own _ rfl _ _ 27 rfl w.heap.size 53 i0 (.agg #[.int .i64 0, .string ByteArray.empty, .string ByteArray.empty, .int .i64 0, .bool false]) 5 56 Tryz.underlying27 hi hI0 hI1 hI2 rfl (by decide) _ _ _ rfl hr3 ⟨wr.heap.size + 1, 0, none⟩ 1 1 (R.cs { l[k] with o := false }) rfl rfl hnews hone (by unfold maxLen; omega) (by omega) hbz ?_; intro v' w9 hown' hgrow9 hnil9))
          exact ⟨⟨k + 1, M ++ [{ l[k] with o := false }], by omega, by go_num, row_snoc hown', HN, (cW.alloc cW.size _).grown hgrow9 hbz (fun j hj => (hrow.2.lt j hj).1)⟩, by simp [intOf]; omega⟩
    · have HE := Lib.hid (done_end (by omega) HD.out)
      go_wp2
      go_ret
      exact ⟨_, rfl, hbw, by rw [HE.out]; exact hrow⟩
end Go.Proofs.YtibekkfbpmloiabGreatDoor.Recs

/- Slices in memory of their own, of any element that lies in a fixed number of cells. -/
namespace Go.Proofs.YtibekkfbpmloiabGreatDoor.Recs
set_option maxRecDepth 100000
open Go.RowKit Paths

section
variable {α : Type} {cs : α → List Value} {k : Nat}
variable {T : TypeId} {w w' : World} {base : Nat} {v : Value} {n : Nat} {M : List α}
theorem RowG.atom (h : RowG cs k T w base v n M) (hn : 0 < n) : ∃ g cap, v = .slice (some ⟨g, 0, none⟩) n cap ∧ base ≤ g ∧ g < w.heap.size ∧ n ≤ cap ∧ cap ≤ maxLen := by
  rcases h.2.2 with ⟨_, h0⟩ | ⟨g, cap, cur, e, h1, h2, h3, h4, _⟩
  · omega
  · exact ⟨g, cap, e, h1, (Array.getElem?_eq_some_iff.1 h2).1, h3, h4⟩
end
end Go.Proofs.YtibekkfbpmloiabGreatDoor.Recs
