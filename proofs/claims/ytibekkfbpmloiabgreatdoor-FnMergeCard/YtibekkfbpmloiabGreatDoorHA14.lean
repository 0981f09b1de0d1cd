/- Parts of several texts of mine in one file (each begins with its own remark). -/
import Derived.Test.YtibekkfbpmloiabGreatDoorHA1
import Derived.Test.YtibekkfbpmloiabGreatDoorHA10
import Derived.Test.YtibekkfbpmloiabGreatDoorHA12
import Derived.Test.YtibekkfbpmloiabGreatDoorHA13
import Derived.Test.YtibekkfbpmloiabGreatDoorHA2
import Derived.Test.YtibekkfbpmloiabGreatDoorHA3
import Derived.Test.YtibekkfbpmloiabGreatDoorHA4
import Derived.Test.YtibekkfbpmloiabGreatDoorHA5
import Derived.Test.YtibekkfbpmloiabGreatDoorHA6
import Derived.Test.YtibekkfbpmloiabGreatDoorHA8
import Derived.Test.YtibekkfbpmloiabGreatDoorHA9
import Derived.Test.YtibekkfbpmloiabGreatDoorChecked
import Derived.Test.YtibekkfbpmloiabGreatDoorShelf
import Derived.Test.YtibekkfbpmloiabGreatDoorProg
import Derived.Test.YtibekkfbpmloiabGreatDoorRows
import Derived.Stop.LaidErr
import Derived.StillTailTactics
import Derived.Laws.OwnMore
import Derived.BigQuiet
import Derived.BigRegion
import Derived.Deep.QuietTactic
import Derived.Deep.RegionHeld3
import Derived.Deep.Slices
import Derived.OpenShut
import Derived.ShutString
import Derived.ChangeArms
import Derived.WideShapes
import Derived.Lib.LaidTab
import Derived.Deep.Draws
import Derived.Deep.LoopGhost
import Derived.WalkKit
import Derived.WalkSpells
import Derived.WalkSmall
import Derived.Lib.OthersKept
import Derived.Lib.Hide
import Derived.Lib.Strings
import Derived.Lib.Join
import Derived.Laws.BytesArg
import Derived.WalkLawsBesides
import Derived.LaidEql
import Derived.Stop.Asserts
import Derived.Below
import Derived.Stop.LaidTwo
import Derived.ChangeVars
import Derived.Deep.DeepHandedRow
/- Layers: the canonical form, of the model. -/
namespace Go.Proofs.YtibekkfbpmloiabGreatDoor.Recs
set_option maxRecDepth 100000
open Go.RowKit Paths Errs

theorem canon_flat {l : List R} {r : R} (hu : underL l r.p = false) (ho : r.o = false) : canonR l r = some { r with o := false } := by
  unfold canonR; rw [if_neg (by rw [hu]; decide), ho]; rfl
theorem canon_shallow {l : List R} {r : R} (hu : underL l r.p = false) (ho : r.o = true) (hd : (cutAt 47 r.p.data.toList).length < 4) : canonR l r = some { r with o := true } := by
  unfold canonR; rw [if_neg (by rw [hu]; decide), ho, decide_eq_true hd]; rfl

set_option maxHeartbeats 3200000 in
theorem l03Canon_gen (v : Value) (l : List R) (w : World) (h : RecSl w v l) (hsd : Sorted l) (hf : ∀ r ∈ l, r.fault = 0) (hl16 : l.length ≤ 1024) :
    Calls Tryz.prog 149 #[v] w fun e w' => ∃ x, e = .returned x ∧ Below w.heap.size w w' ∧ RowOf w' w.heap.size x (canonL l).length (canonL l) := by
  obtain ⟨i0, hi, hI0, hI1, hI2⟩ := info_parts recInfo
  have hsl := h
  obtain ⟨A, cap, rfl, hcap, h⟩ := h
  have HSl := Lib.hid hsl
  have H := Lib.hid h
  have HO := Lib.hid hf
  have HSD := Lib.hid hsd
  clear h hsl hf hsd
  have hown0 : (w.alloc (.cells #[] 53)).ownsRow w.heap.size 53 5 (.slice (some ⟨w.heap.size, 0, none⟩) 0 0) 0 [] := World.ownsRow_lit w #[] 0 (Nat.le_refl _) (Nat.zero_le _) rfl
  have hb00 : Below w.heap.size w (w.alloc (.cells #[] 53)) := (Below.refl _ _).alloc (Nat.le_refl _) _
  go_enter Tryz.func149, Tryz.ntmps149
  go_wp2
  go_loopw [3, 4] (fun f i wr => ∃ (k : Nat) (M : List R), k ≤ l.length ∧ i = .int .i64 k ∧ RowOf wr w.heap.size f M.length M ∧ Hid (Done l k M) ∧ Below w.heap.size w wr) (fun _ i _ => l.length - (intOf i).toNat)
  case atStart => exact ⟨0, [], by omega, rfl, ⟨rfl, hown0⟩, done_start l, hb00⟩
  case round =>
    obtain ⟨k, M, hk, rfl, hrow, HD, hbw⟩ := hrel
    by_cases hlt : k < l.length
    · obtain ⟨b, off, rfl, hb, hcell⟩ := H.out (by omega)
      obtain ⟨c0, c1, c2, c3, c4⟩ := (hcell k l[k] (by simp [hlt])).below hbw hb
      clear hcell
      have hi1 : (k : Int) < (l.length : Int) := by omega
      have hi0 : (0 : Int) ≤ (k : Int) := by omega
      have hm := List.getElem_mem hlt
      have hp := (fault_path (HO.out _ hm)).1
      have hM := done_len HD.out hl16
      obtain ⟨fA, fcap, rfl⟩ := hrow.form
      have hbA : Below wr.heap.size wr (wr.alloc (.cells #[.int .i64 l[k].k, .string l[k].p, .string l[k].b, .int .i64 l[k].m, .bool l[k].o] 53)) := (Below.refl _ _).alloc (Nat.le_refl _) _
      have hslA := HSl.out.below (hbw.trans (hbA.mono hbw.size))
      have HC := l03Under_any _ l l[k].p _ hslA (by omega) hp
      have hrA := hrow.below hbA
      have hbF : Below wr.heap.size wr (wr.alloc (.cells #[.int .i64 l[k].k, .string l[k].p, .string l[k].b, .int .i64 l[k].m, .bool false] 53)) := (Below.refl _ _).alloc (Nat.le_refl _) _
      have hrF := hrow.below hbF
      have cF := hbw.trans (hbF.mono hbw.size)
      rcases Bool.eq_false_or_eq_true (underL l l[k].p) with hu | hu
      · rw [hu] at HC
        by_cases h4 : l[k].k = 4
        · have HN := Lib.hid (done_skip hlt HD.out (canon_skip hu h4))
          have hd4 : (l[k].k != 4) = false := by simpa using h4
          clear h4
          go_wp2_with fail
          refine HC.mono ?_
          rintro e w1 ⟨rfl, rfl⟩
          go_wp2_with fail
          exact ⟨⟨k + 1, M, by omega, by go_num, hrF, HN, cF⟩, by simp [intOf]; omega⟩
        · have HN := Lib.hid (done_take hlt HD.out (canon_under hu h4))
          have hd4 : (l[k].k != 4) = true := by simpa using h4
          clear h4
          go_wp2_with fail
          refine HC.mono ?_
          rintro e w1 ⟨rfl, rfl⟩
          have hr2 := hrF
          have cW := cF
          have hr3 : ((wr.alloc (.cells #[.int .i64 l[k].k, .string l[k].p, .string l[k].b, .int .i64 l[k].m, .bool false] 53)).alloc (.cells #[.int .i64 l[k].k, .string l[k].p, .string l[k].b, .int .i64 l[k].m, .bool false] 53)).ownsRow w.heap.size 53 5 (.slice fA M.length fcap) M.length (flat M) := hr2.2.alloc _
          have hsz : (wr.alloc (.cells #[.int .i64 l[k].k, .string l[k].p, .string l[k].b, .int .i64 l[k].m, .bool false] 53)).heap.size = wr.heap.size + 1 := by simp
          have hnews := rec_cells_new (wr.alloc (.cells #[.int .i64 l[k].k, .string l[k].p, .string l[k].b, .int .i64 l[k].m, .bool false] 53)) { l[k] with o := false } 53
          rw [hsz] at hnews
          have hone := rec_one { l[k] with o := false }
          have hbz : w.heap.size ≤ ((wr.alloc (.cells #[.int .i64 l[k].k, .string l[k].p, .string l[k].b, .int .i64 l[k].m, .bool false] 53)).alloc (.cells #[.int .i64 l[k].k, .string l[k].p, .string l[k].b, .int .i64 l[k].m, .bool false] 53)).heap.size := (cW.alloc cW.size _).size
          go_wp2_with (first
            | (at_builtin; refine wpList_append_own _ rfl _ _ 27 rfl w.heap.size 53 i0 (.agg #[.int .i64 0, .string ByteArray.empty, .string ByteArray.empty, .int .i64 0, .bool false]) 5 56 Tryz.underlying27 hi hI0 hI1 hI2 rfl (by decide) _ _ _ rfl hr3 ⟨wr.heap.size + 1, 0, none⟩ 1 1 (R.cs { l[k] with o := false }) rfl rfl hnews hone (by unfold maxLen; omega) (by omega) hbz ?_; intro v' w9 hown' hgrow9 hnil9))
          exact ⟨⟨k + 1, M ++ [{ l[k] with o := false }], by omega, by go_num, row_snoc hown', HN, (cW.alloc cW.size _).grown hgrow9 hbz (fun j hj => (hrow.2.lt j hj).1)⟩, by simp [intOf]; omega⟩
      · rw [hu] at HC
        rcases Bool.eq_false_or_eq_true l[k].o with ho | ho
        · rw [ho] at c4 HC hbA hslA hrA
          go_wp2_with fail
          refine HC.mono ?_
          rintro e w1 ⟨rfl, rfl⟩
          go_wp2_with fail
          refine (l00Cut_any _ _ 47 rfl _ (by have := path_short hp; omega)).mono ?_
          rintro e w2 ⟨v2, rfl, hb2, ho2⟩
          obtain ⟨A2, cap2, rfl⟩ := own_form ho2
          obtain ⟨hc2, hf2⟩ := bcell hb2
          have hz2 : wr.heap.size < w2.heap.size := by have := hb2.size; simp at this; omega
          have cA := hbw.trans (hbA.mono hbw.size)
          have c2 := cA.trans (hb2.mono cA.size)
          have hp4 := (pathB_parts hp).1
          by_cases h4 : (cutAt 47 l[k].p.data.toList).length = 4
          · have HN := Lib.hid (done_take hlt HD.out (canon_deep hu h4))
            rw [h4]
            have hr2 : RowOf (w2.setCell ⟨wr.heap.size, 4, none⟩ (.bool false)) w.heap.size (.slice fA M.length fcap) M.length M := ⟨rfl, ownsRow_setCell_other (hrA.below hb2).2 hrow.ne _⟩
            have cW : Below w.heap.size w (w2.setCell ⟨wr.heap.size, 4, none⟩ (.bool false)) := c2.setCell hbw.size _
            have hr3 : ((w2.setCell ⟨wr.heap.size, 4, none⟩ (.bool false)).alloc (.cells #[.int .i64 l[k].k, .string l[k].p, .string l[k].b, .int .i64 l[k].m, .bool false] 53)).ownsRow w.heap.size 53 5 (.slice fA M.length fcap) M.length (flat M) := hr2.2.alloc _
            have hsz : (w2.setCell ⟨wr.heap.size, 4, none⟩ (.bool false)).heap.size = w2.heap.size := by simp [World.setCell]
            have hnews := rec_cells_new (w2.setCell ⟨wr.heap.size, 4, none⟩ (.bool false)) { l[k] with o := false } 53
            rw [hsz] at hnews
            have hone := rec_one { l[k] with o := false }
            have hbz : w.heap.size ≤ ((w2.setCell ⟨wr.heap.size, 4, none⟩ (.bool false)).alloc (.cells #[.int .i64 l[k].k, .string l[k].p, .string l[k].b, .int .i64 l[k].m, .bool false] 53)).heap.size := (cW.alloc cW.size _).size
            go_wp2_with (first
              | (at_builtin; refine wpList_append_own _ rfl _ _ 27 rfl w.heap.size 53 i0 (.agg #[.int .i64 0, .string ByteArray.empty, .string ByteArray.empty, .int .i64 0, .bool false]) 5 56 Tryz.underlying27 hi hI0 hI1 hI2 rfl (by decide) _ _ _ rfl hr3 ⟨w2.heap.size, 0, none⟩ 1 1 (R.cs { l[k] with o := false }) rfl rfl hnews hone (by unfold maxLen; omega) (by omega) hbz ?_; intro v' w9 hown' hgrow9 hnil9))
            exact ⟨⟨k + 1, M ++ [{ l[k] with o := false }], by omega, by go_num, row_snoc hown', HN, (cW.alloc cW.size _).grown hgrow9 hbz (fun j hj => (hrow.2.lt j hj).1)⟩, by simp [intOf]; omega⟩
          · have HN := Lib.hid (done_take hlt HD.out (canon_shallow hu ho (by omega)))
            have hd4 : decide (((cutAt 47 l[k].p.data.toList).length : Int) < 4) = true := by simp; omega
            have hr2 : RowOf (w2.setCell ⟨wr.heap.size, 4, none⟩ (.bool true)) w.heap.size (.slice fA M.length fcap) M.length M := ⟨rfl, ownsRow_setCell_other (hrA.below hb2).2 hrow.ne _⟩
            have cW : Below w.heap.size w (w2.setCell ⟨wr.heap.size, 4, none⟩ (.bool true)) := c2.setCell hbw.size _
            have hr3 : ((w2.setCell ⟨wr.heap.size, 4, none⟩ (.bool true)).alloc (.cells #[.int .i64 l[k].k, .string l[k].p, .string l[k].b, .int .i64 l[k].m, .bool true] 53)).ownsRow w.heap.size 53 5 (.slice fA M.length fcap) M.length (flat M) := hr2.2.alloc _
            have hsz : (w2.setCell ⟨wr.heap.size, 4, none⟩ (.bool true)).heap.size = w2.heap.size := by simp [World.setCell]
            have hnews := rec_cells_new (w2.setCell ⟨wr.heap.size, 4, none⟩ (.bool true)) { l[k] with o := true } 53
            rw [hsz] at hnews
            have hone := rec_one { l[k] with o := true }
            have hbz : w.heap.size ≤ ((w2.setCell ⟨wr.heap.size, 4, none⟩ (.bool true)).alloc (.cells #[.int .i64 l[k].k, .string l[k].p, .string l[k].b, .int .i64 l[k].m, .bool true] 53)).heap.size := (cW.alloc cW.size _).size
            go_wp2_with (first
              | (at_builtin; refine wpList_append_own _ rfl _ _ 27 rfl w.heap.size 53 i0 (.agg #[.int .i64 0, .string ByteArray.empty, .string ByteArray.empty, .int .i64 0, .bool false]) 5 56 Tryz.underlying27 hi hI0 hI1 hI2 rfl (by decide) _ _ _ rfl hr3 ⟨w2.heap.size, 0, none⟩ 1 1 (R.cs { l[k] with o := true }) rfl rfl hnews hone (by unfold maxLen; omega) (by omega) hbz ?_; intro v' w9 hown' hgrow9 hnil9))
            exact ⟨⟨k + 1, M ++ [{ l[k] with o := true }], by omega, by go_num, row_snoc hown', HN, (cW.alloc cW.size _).grown hgrow9 hbz (fun j hj => (hrow.2.lt j hj).1)⟩, by simp [intOf]; omega⟩
        · have HN := Lib.hid (done_take hlt HD.out (canon_flat hu ho))
          rw [ho] at c4 HC
          go_wp2_with fail
          refine HC.mono ?_
          rintro e w1 ⟨rfl, rfl⟩
          have hr2 := hrF
          have cW := cF
          have hr3 : ((wr.alloc (.cells #[.int .i64 l[k].k, .string l[k].p, .string l[k].b, .int .i64 l[k].m, .bool false] 53)).alloc (.cells #[.int .i64 l[k].k, .string l[k].p, .string l[k].b, .int .i64 l[k].m, .bool false] 53)).ownsRow w.heap.size 53 5 (.slice fA M.length fcap) M.length (flat M) := hr2.2.alloc _
          have hsz : (wr.alloc (.cells #[.int .i64 l[k].k, .string l[k].p, .string l[k].b, .int .i64 l[k].m, .bool false] 53)).heap.size = wr.heap.size + 1 := by simp
          have hnews := rec_cells_new (wr.alloc (.cells #[.int .i64 l[k].k, .string l[k].p, .string l[k].b, .int .i64 l[k].m, .bool false] 53)) { l[k] with o := false } 53
          rw [hsz] at hnews
          have hone := rec_one { l[k] with o := false }
          have hbz : w.heap.size ≤ ((wr.alloc (.cells #[.int .i64 l[k].k, .string l[k].p, .string l[k].b, .int .i64 l[k].m, .bool false] 53)).alloc (.cells #[.int .i64 l[k].k, .string l[k].p, .string l[k].b, .int .i64 l[k].m, .bool false] 53)).heap.size := (cW.alloc cW.size _).size
          go_wp2_with (first
            | (at_builtin; refine wpList_append_own _ rfl _ _ 27 rfl w.heap.size 53 i0 (.agg #[.int .i64 0, .string ByteArray.empty, .string ByteArray.empty, .int .i64 0, .bool false]) 5 56 Tryz.underlying27 hi hI0 hI1 hI2 rfl (by decide) _ _ _ rfl hr3 ⟨wr.heap.size + 1, 0, none⟩ 1 1 (R.cs { l[k] with o := false }) rfl rfl hnews hone (by unfold maxLen; omega) (by omega) hbz ?_; intro v' w9 hown' hgrow9 hnil9))
          exact ⟨⟨k + 1, M ++ [{ l[k] with o := false }], by omega, by go_num, row_snoc hown', HN, (cW.alloc cW.size _).grown hgrow9 hbz (fun j hj => (hrow.2.lt j hj).1)⟩, by simp [intOf]; omega⟩
    · have HE := Lib.hid (done_end (by omega) HD.out)
      go_wp2
      go_ret
      exact ⟨_, rfl, hbw, by rw [HE.out]; exact hrow⟩
end Go.Proofs.YtibekkfbpmloiabGreatDoor.Recs

/- Layers: Canonical and IsCanonical, of the program and of its model. Conditions (of the program's): the table of kinds, the two sentinels. -/
namespace Go.Proofs.YtibekkfbpmloiabGreatDoor.Recs
set_option maxRecDepth 100000
open Go.RowKit Paths Errs

theorem own_le {w : World} {base base' : Nat} {e : TypeId} {size : Nat} {v : Value} {n : Nat} {xs : List Value} (h : w.ownsRow base e size v n xs) (hb : base' ≤ base) : w.ownsRow base' e size v n xs := by
  obtain ⟨h1, h2⟩ := h
  refine ⟨h1, ?_⟩
  rcases h2 with h2 | ⟨g, cap', cur, a, b, c⟩
  · exact .inl h2
  · exact .inr ⟨g, cap', cur, a, Nat.le_trans hb b, c⟩

end Go.Proofs.YtibekkfbpmloiabGreatDoor.Recs

/- Slices in memory of their own, of any element that lies in a fixed number of cells. -/
namespace Go.Proofs.YtibekkfbpmloiabGreatDoor.Recs
set_option maxRecDepth 100000
open Go.RowKit Paths

section
variable {α : Type} {cs : α → List Value} {k : Nat}
def flatG (cs : α → List Value) (l : List α) : List Value := l.flatMap cs
theorem flatG_snoc (l : List α) (a : α) : flatG cs (l ++ [a]) = flatG cs l ++ cs a := by unfold flatG; rw [List.flatMap_append]; simp
theorem flatG_len (hcs : ∀ a, (cs a).length = k) : ∀ l : List α, (flatG cs l).length = l.length * k
  | [] => by simp [flatG]
  | a :: t => by
    have ih := flatG_len hcs t
    have : flatG cs (a :: t) = cs a ++ flatG cs t := by simp [flatG]
    rw [this, List.length_append, hcs, ih, List.length_cons, Nat.succ_mul, Nat.add_comm]
theorem flatG_get (hcs : ∀ a, (cs a).length = k) (hk : 0 < k) : ∀ (l : List α) (j : Nat), (flatG cs l)[j]? = (l[j / k]?).bind fun a => (cs a)[j % k]?
  | [], j => by simp [flatG]
  | a :: t, j => by
    have ih := flatG_get hcs hk t (j - k)
    have hc : flatG cs (a :: t) = cs a ++ flatG cs t := by simp [flatG]
    rw [hc]
    by_cases hj : j < k
    · rw [Nat.div_eq_of_lt hj, Nat.mod_eq_of_lt hj, List.getElem?_append_left (by rw [hcs]; exact hj)]
      rfl
    · rw [Nat.div_eq_sub_div hk (by omega), Nat.mod_eq_sub_mod (by omega), List.getElem?_append_right (by rw [hcs]; omega), hcs, List.getElem?_cons_succ]
      exact ih
theorem div_here {i c : Nat} (hc : c < k) : (i * k + c) / k = i ∧ (i * k + c) % k = c := by
  constructor
  · rw [Nat.add_comm, Nat.add_mul_div_right _ _ (by omega), Nat.div_eq_of_lt hc, Nat.zero_add]
  · rw [Nat.add_comm, Nat.add_mul_mod_self_right, Nat.mod_eq_of_lt hc]
theorem at_here {i c j : Nat} (hc : c < k) : i * k + c = j ↔ i = j / k ∧ c = j % k := by
  constructor
  · rintro rfl
    exact ⟨(div_here hc).1.symm, (div_here hc).2.symm⟩
  · rintro ⟨rfl, rfl⟩
    rw [Nat.mul_comm]
    exact Nat.div_add_mod j k
theorem flatG_field (hcs : ∀ a, (cs a).length = k) {M : List α} {i c : Nat} {a : α} {u : Value} (hi : i < M.length) (hc : c < k) (h : cs a = (cs M[i]).set c u) : flatG cs (M.set i a) = (flatG cs M).set (i * k + c) u := by
  apply List.ext_getElem?
  intro j
  rw [flatG_get hcs (by omega), List.getElem?_set, List.getElem?_set, flatG_len hcs, flatG_get hcs (by omega)]
  have hlt : i * k + c < M.length * k := by
    have := Nat.mul_le_mul_right k (show i + 1 ≤ M.length from hi)
    rw [Nat.succ_mul] at this
    omega
  by_cases hj : i = j / k
  · rw [if_pos hj, if_pos hi]
    simp only [Option.bind_some]
    rw [h, List.getElem?_set]
    by_cases hq : c = j % k
    · rw [if_pos hq, if_pos (by rw [hcs]; omega), if_pos ((at_here hc).2 ⟨hj, hq⟩), if_pos hlt]
    · rw [if_neg hq, if_neg (fun e => hq ((at_here hc).1 e).2), ← hj, List.getElem?_eq_getElem hi]
      rfl
  · rw [if_neg hj, if_neg (fun e => hj ((at_here hc).1 e).1)]

/-- A slice in memory of its own that holds the things M. -/
def RowG (cs : α → List Value) (k : Nat) (T : TypeId) (w : World) (base : Nat) (v : Value) (n : Nat) (M : List α) : Prop := M.length = n ∧ w.ownsRow base T k v n (flatG cs M)
variable {T : TypeId} {w w' : World} {base : Nat} {v : Value} {n : Nat} {M : List α}
theorem RowG.below (h : RowG cs k T w base v n M) (hb : Below w.heap.size w w') : RowG cs k T w' base v n M := ⟨h.1, own_below h.2 hb⟩
theorem RowG.form (h : RowG cs k T w base v n M) : ∃ A cap, v = .slice A n cap := own_form h.2
theorem RowG.nil : RowG cs k T w base (.slice none 0 0) 0 [] := ⟨rfl, World.ownsRow_nil _ _ _ _⟩
theorem RowG.down {base' : Nat} (h : RowG cs k T w base v n M) (hb : base' ≤ base) : RowG cs k T w base' v n M := ⟨h.1, own_le h.2 hb⟩
theorem RowG.atom (h : RowG cs k T w base v n M) (hn : 0 < n) : ∃ g cap, v = .slice (some ⟨g, 0, none⟩) n cap ∧ base ≤ g ∧ g < w.heap.size ∧ n ≤ cap ∧ cap ≤ maxLen := by
  rcases h.2.2 with ⟨_, h0⟩ | ⟨g, cap, cur, e, h1, h2, h3, h4, _⟩
  · omega
  · exact ⟨g, cap, e, h1, (Array.getElem?_eq_some_iff.1 h2).1, h3, h4⟩
theorem RowG.cell (hcs : ∀ a, (cs a).length = k) {g cap : Nat} (h : RowG cs k T w base (.slice (some ⟨g, 0, none⟩) n cap) n M) {i c : Nat} (hi : i < M.length) (hc : c < k) : w.cell? ⟨g, i * k + c, none⟩ = (cs M[i])[c]? := by
  have hlt : i * k + c < n * k := by
    have := Nat.mul_le_mul_right k (show i + 1 ≤ M.length from hi)
    rw [Nat.succ_mul, h.1] at this
    omega
  rw [h.2.cellAt (i * k + c) hlt, flatG_get hcs (by omega), (div_here hc).1, (div_here hc).2, List.getElem?_eq_getElem hi]
  rfl
theorem RowG.field (hcs : ∀ a, (cs a).length = k) {g cap : Nat} (h : RowG cs k T w base (.slice (some ⟨g, 0, none⟩) n cap) n M) {i c : Nat} {a : α} {u : Value} (hi : i < M.length) (hc : c < k) (ha : cs a = (cs M[i]).set c u) :
    RowG cs k T (w.setCell ⟨g, i * k + c, none⟩ u) base (.slice (some ⟨g, 0, none⟩) n cap) n (M.set i a) ∧ w.grownBy (w.setCell ⟨g, i * k + c, none⟩ u) (some g) := by
  obtain ⟨h1, h2⟩ := h.2.stored (i * k + c) u
  exact ⟨⟨by rw [List.length_set]; exact h.1, by rw [flatG_field hcs hi hc ha]; exact h1⟩, h2⟩
theorem RowG.frozen {g cap : Nat} (h : RowG cs k T w base (.slice (some ⟨g, 0, none⟩) n cap) n M) (j : Nat) : w.frozen? ⟨g, j, none⟩ = false := h.2.frozenAt j
theorem RowG.kept {row : Option Nat} (h : RowG cs k T w base v n M) (hg : w.grownBy w' row) (hr : v.ownBlock = none ∨ v.ownBlock ≠ row) : RowG cs k T w' base v n M := ⟨h.1, h.2.kept hg hr⟩
/-- A part from the front. -/
theorem RowG.front (hcs : ∀ a, (cs a).length = k) {g cap : Nat} (h : RowG cs k T w base (.slice (some ⟨g, 0, none⟩) n cap) n M) {m : Nat} (hm : m ≤ n) : RowG cs k T w base (.slice (some ⟨g, 0, none⟩) m cap) m (M.take m) := by
  refine ⟨by rw [List.length_take, h.1]; omega, ?_, ?_⟩
  · rw [flatG_len hcs, List.length_take, h.1, Nat.min_eq_left hm]
  · rcases h.2.2 with ⟨e, _⟩ | ⟨g', cap', cur, e, h1, h2, h3, h4, h5, h6⟩
    · cases e
    · cases e
      refine .inr ⟨g, cap, cur, rfl, h1, h2, by omega, h4, h5, ?_⟩
      have hl : (flatG cs (M.take m)).length = m * k := by rw [flatG_len hcs, List.length_take, h.1, Nat.min_eq_left hm]
      have e0 : flatG cs M = flatG cs (M.take m) ++ flatG cs (M.drop m) := by
        unfold flatG
        rw [← List.flatMap_append, List.take_append_drop]
      have e1 : flatG cs (M.take m) = (flatG cs M).take (m * k) := by rw [e0, List.take_left' hl]
      rw [e1, ← h6, List.take_take, Nat.min_eq_left (Nat.mul_le_mul_right k hm)]
end
end Go.Proofs.YtibekkfbpmloiabGreatDoor.Recs

/- Combining two layers, plain: what the upper one cuts off as the program looks at it; the combination step by step. -/
namespace Go.Proofs.YtibekkfbpmloiabGreatDoor.Recs
set_option maxRecDepth 100000
open Go.RowKit Paths

/-- A record that stops lies above the path. -/
def cutsI (l : List R) (q : ByteArray) : Bool := l.any fun r => stops r && isBelowB q r.p
theorem cuts_same {l : List R} (hs : Sorted l) (hf : ∀ r ∈ l, r.fault = 0) {q : ByteArray} (hq : pathB q.data.toList = true) : cutsI l q = cutsL l q := by
  unfold cutsI cutsL
  rw [Bool.eq_iff_iff, List.any_eq_true, List.any_eq_true]
  constructor
  · rintro ⟨r, hm, hr⟩
    have hp := (fault_path (hf r hm)).1
    simp only [Bool.and_eq_true] at hr
    rw [below_two (path_pos hp) hq hp, ← isUp_below hq, isUp_iff] at hr
    refine ⟨r.p, hr.2, ?_⟩
    unfold stopsAt
    rw [recAt_of hs hm]
    exact hr.1
  · rintro ⟨a, ha, ho⟩
    unfold stopsAt at ho
    cases hr : recAt l a with
    | none => rw [hr] at ho; cases ho
    | some r =>
      rw [hr] at ho
      obtain ⟨hm, rfl⟩ := recAt_mem hr
      have hp := (fault_path (hf r hm)).1
      refine ⟨r, hm, ?_⟩
      simp only [Bool.and_eq_true]
      refine ⟨ho, ?_⟩
      rw [below_two (path_pos hp) hq hp, ← isUp_below hq, isUp_iff]
      exact ha

end Go.Proofs.YtibekkfbpmloiabGreatDoor.Recs

/- Cuts of the model. -/
namespace Go.Proofs.YtibekkfbpmloiabGreatDoor.Recs
set_option maxRecDepth 100000
open Go.RowKit Paths

theorem l06Stops_any (r : R) (w : World) :
    Calls Tryz.prog 161 #[r.val] w fun e w' => e = .returned (.bool (stops r)) ∧ Below w.heap.size w w' := by
  obtain ⟨rk, rm, rp, rb, ro⟩ := r
  unfold R.val
  dsimp only
  have hb : Below w.heap.size w (w.alloc (.cells #[.int .i64 rk, .string rp, .string rb, .int .i64 rm, .bool ro] 53)) := (Below.refl _ _).alloc (Nat.le_refl _) _
  by_cases h3 : rk = 3
  · have q3 : (rk != 3) = false := by simp [h3]
    have HE : Hid (stops ⟨rk, rm, rp, rb, ro⟩ = ro) := (by show _ = _; unfold stops; simp [h3])
    clear h3
    go_enter Tryz.func161, Tryz.ntmps161
    go_wp2_with fail
    go_ret
    exact ⟨ret_bool HE.out.symm, hb⟩
  · have q3 : (rk != 3) = true := by simp [h3]
    have HE : Hid (stops ⟨rk, rm, rp, rb, ro⟩ = true) := (by show _ = _; unfold stops; simp [h3])
    clear h3
    go_enter Tryz.func161, Tryz.ntmps161
    go_wp2_with fail
    go_ret
    exact ⟨ret_bool HE.out.symm, hb⟩

def pmC : Value → Nat
  | .string s => if s.size = 0 then 0 else (cutAt 47 s.data.toList).length
  | _ => 0
theorem parO_sizeC {p : ByteArray} (h : parentL p.data.toList = []) : (parO p).size = 0 := by rw [Lib.size_eq]; show (parentL p.data.toList).toArray.toList.length = 0; rw [h]; rfl
theorem path_posC {p : ByteArray} (h : pathB p.data.toList = true) : p.size ≠ 0 := fun e => by rw [pathB_empty e] at h; cases h
theorem pm_downC {p : ByteArray} (h : pathB p.data.toList = true) : pmC (.string (parO p)) < pmC (.string p) := by
  have h0 := path_posC h
  have h1 : 0 < (cutAt 47 p.data.toList).length := cutAt_pos 47 _
  show (if (parO p).size = 0 then 0 else (cutAt 47 (parO p).data.toList).length) < (if p.size = 0 then 0 else (cutAt 47 p.data.toList).length)
  rw [if_neg h0]
  by_cases hp : parentL p.data.toList = []
  · rw [if_pos (parO_sizeC hp)]; exact h1
  · obtain ⟨h2, h3⟩ := parts_parent h hp
    rw [if_neg (path_posC h2)]
    omega
theorem cuts_step (l : List R) {q : ByteArray} (h : pathB q.data.toList = true) : cutsL l q = if parentL q.data.toList = [] then false else stopsAt l (parO q) || cutsL l (parO q) := by
  unfold cutsL
  rw [ups_step h]
  split <;> rfl
/-- What is still to look at: none, or the path and what is above it. -/
def LeftC (l : List R) (u : Bool) (p : ByteArray) : Prop := (p.size = 0 ∧ u = false) ∨ (pathB p.data.toList = true ∧ u = (stopsAt l p || cutsL l p))
theorem leftC_start {l : List R} {q : ByteArray} (h : pathB q.data.toList = true) : LeftC l (cutsL l q) (parO q) := by
  by_cases hp : parentL q.data.toList = []
  · exact .inl ⟨parO_sizeC hp, by rw [cuts_step l h, if_pos hp]⟩
  · exact .inr ⟨(parts_parent h hp).1, by rw [cuts_step l h, if_neg hp]⟩
theorem leftC_next {l : List R} {u : Bool} {p : ByteArray} (h : pathB p.data.toList = true) (hu : u = (stopsAt l p || cutsL l p)) (ho : stopsAt l p = false) : LeftC l u (parO p) := by
  rw [ho, Bool.false_or] at hu
  rw [hu]
  exact leftC_start h

set_option maxHeartbeats 1600000 in
theorem l06Cuts_any (v : Value) (l : List R) (q : ByteArray) (w : World) (h : RecSl w v l) (hl : l.length ≤ 1048576) (hq : pathB q.data.toList = true) :
    Calls Tryz.prog 163 #[v, .string q] w fun e w' => e = .returned (.bool (cutsL l q)) ∧ Below w.heap.size w w' := by
  have hsl := h
  obtain ⟨A, cap, rfl, hcap, h⟩ := h
  have HS := Lib.hid hsl
  have H := Lib.hid h
  have HL0 := Lib.hid (leftC_start (l := l) hq)
  have hqs := path_short hq
  clear h hsl
  go_enter Tryz.func163, Tryz.ntmps163
  go_wp2_with fail
  refine (l01Parent_any q _ (by unfold maxLen; omega)).mono ?_
  rintro e w1 ⟨rfl, rfl⟩
  go_wp2_with fail
  go_loopw [5] (fun p wr => ∃ P : ByteArray, p = .string P ∧ Below w.heap.size w wr ∧ Hid (LeftC l (cutsL l q) P)) (fun p _ => pmC p)
  case atStart => exact ⟨parO q, rfl, Below.refl _ _, HL0⟩
  case round =>
    obtain ⟨P, rfl, kw, HP⟩ := hrel
    rcases HP.out with ⟨h0, hu⟩ | ⟨hp, hu⟩
    · have HU := Lib.hid hu
      have he := isEmpty_true h0
      clear h0 hu
      go_wp2_with fail
      go_ret
      exact ⟨ret_bool HU.out.symm, kw⟩
    · have HU := Lib.hid hu
      have he := isEmpty_false (Nat.pos_of_ne_zero (path_posC hp))
      have hps := path_short hp
      have HM := Lib.hid (pm_downC hp)
      have HPP := Lib.hid hp
      clear hu hp
      go_wp2_with fail
      refine (l03At_any _ l _ _ (HS.out.below kw) hl).mono ?_
      rintro e w1 ⟨rfl, rfl⟩
      rcases atL_recAt l P with ⟨ha, hn⟩ | ⟨j, hj, ha, hn⟩
      · have HN := Lib.hid (leftC_next HPP.out HU.out (by unfold stopsAt; rw [hn]; rfl))
        rw [ha]
        clear ha hn
        go_wp2_with fail
        refine (l01Parent_any P _ (by unfold maxLen; omega)).mono ?_
        rintro e w1 ⟨rfl, rfl⟩
        go_wp2_with fail
        go_roundw
        case rel => exact ⟨parO P, rfl, kw, HN⟩
        case measure => exact HM.out
      · have HO : Hid (stopsAt l P = stops l[j]) := (by show _ = _; unfold stopsAt; rw [hn]; rfl)
        obtain ⟨b, off, rfl, hb, hcell⟩ := H.out (by omega)
        obtain ⟨f0, f1, f2, f3, f4⟩ := (hcell j l[j] (by simp [hj])).below kw hb
        have j1 : (0 : Int) ≤ (j : Int) := by omega
        have j2 : (j : Int) < (l.length : Int) := by omega
        have j3 : decide ((0 : Int) ≤ (j : Int)) = true := by simp
        have HST := l06Stops_any l[j] wr
        unfold R.val at HST
        rw [ha]
        clear ha hcell hn
        go_wp2_with fail
        refine HST.mono ?_
        rintro e w2 ⟨rfl, hb2⟩
        have k2 := kw.trans (hb2.mono kw.size)
        cases ho : stops l[j] with
        | true =>
          have HF : Hid (cutsL l q = true) := (by show _ = _; rw [HU.out, HO.out, ho]; rfl)
          clear ho
          go_wp2_with fail
          go_ret
          exact ⟨ret_bool HF.out.symm, k2⟩
        | false =>
          have HN := Lib.hid (leftC_next HPP.out HU.out (HO.out.trans ho))
          clear ho
          go_wp2_with fail
          refine (l01Parent_any P _ (by unfold maxLen; omega)).mono ?_
          rintro e w3 ⟨rfl, rfl⟩
          go_wp2_with fail
          go_roundw
          case rel => exact ⟨parO P, rfl, k2, HN⟩
          case measure => exact HM.out

end Go.Proofs.YtibekkfbpmloiabGreatDoor.Recs
