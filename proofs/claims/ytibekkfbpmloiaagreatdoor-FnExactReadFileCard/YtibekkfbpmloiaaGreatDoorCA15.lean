/- Parts of several texts of mine in one file (each begins with its own remark). -/
import Derived.Test.YtibekkfbpmloiaaGreatDoorCA1
import Derived.Test.YtibekkfbpmloiaaGreatDoorCA10
import Derived.Test.YtibekkfbpmloiaaGreatDoorCA11
import Derived.Test.YtibekkfbpmloiaaGreatDoorCA12
import Derived.Test.YtibekkfbpmloiaaGreatDoorCA13
import Derived.Test.YtibekkfbpmloiaaGreatDoorCA14
import Derived.Test.YtibekkfbpmloiaaGreatDoorCA2
import Derived.Test.YtibekkfbpmloiaaGreatDoorCA3
import Derived.Test.YtibekkfbpmloiaaGreatDoorCA4
import Derived.Test.YtibekkfbpmloiaaGreatDoorCA5
import Derived.Test.YtibekkfbpmloiaaGreatDoorCA6
import Derived.Test.YtibekkfbpmloiaaGreatDoorCA7
import Derived.Test.YtibekkfbpmloiaaGreatDoorCA8
import Derived.Test.YtibekkfbpmloiaaGreatDoorCA9
import Derived.Test.YtibekkfbpmloiaaGreatDoorChecked
import Derived.Test.YtibekkfbpmloiaaGreatDoorShelf
import Derived.Test.YtibekkfbpmloiaaGreatDoorProg
import Derived.Test.YtibekkfbpmloiaaGreatDoorRows
import Derived.BigRegion
import Derived.RangeFuncNested
import Derived.RangeFuncBound
import Derived.RangeFuncCalls
import Derived.RangeFuncLeaves
import Derived.RangeFuncBox
import Derived.Shelf.Abstract
import Derived.Shelf.RegionOpen
import Derived.OwnWalkIn
import Derived.TacticsInMore
import Derived.LoopNIn
import Derived.LoopIn
import Derived.Deep.Slices
import Derived.OpenShut
import Derived.ShutString
import Derived.ChangeArms
import Derived.WideShapes
import Derived.Lib.LaidTab
import Derived.BigQuiet
import Derived.Deep.QuietTactic
import Derived.Deep.RegionHeld3
import Derived.StillTailTactics
import Derived.Deep.Draws
import Derived.Deep.LoopGhost
import Derived.WalkKit
import Derived.WalkSpells
import Derived.WalkSmall
import Derived.Lib.OthersKept
import Derived.Lib.Hide
import Derived.Lib.Strings
import Derived.Lib.Join
import Derived.Laws.OwnMore
import Derived.Laws.BytesArg
import Derived.Stop.LaidErr
import Derived.WalkLawsBesides
import Derived.LaidEql
import Derived.Stop.Asserts
import Derived.Below
import Derived.Stop.LaidTwo
import Derived.ChangeVars
import Derived.Deep.DeepHandedRow
import Derived.Deep.RegionWith
import Derived.OneCell
import Derived.Lib.SliceRun
import Derived.Lib.Overlaps
import Derived.Lib.AppendZerosOnto
import Derived.Laws.NewBlocks
import Derived.Laws.IdiomCopy
import Derived.Deep.RegionLaw
import Derived.Laws.EntriesVeiled
/- The records of a path, of the program; WinnerAt of the program. Conditions: the table of kinds, the two sentinels. -/
namespace Go.Proofs.YtibekkfbpmloiaaGreatDoor.Recs
set_option maxRecDepth 100000
open Go.RowKit Paths Errs

theorem placedInfo : (Tryz.prog.info? 55).map (fun i => (i.zero, i.size, i.bytes)) = some (some (.agg #[.int .i64 0, .string ByteArray.empty, .string ByteArray.empty, .int .i64 0, .bool false, .int .i64 0]), 6, 64) := by kernel_rfl
theorem csP_new (w : World) (p : R × Nat) (t : TypeId) (j : Nat) (u : Value) (h : (csP p)[j]? = some u) : (w.alloc (.cells #[.int .i64 p.1.k, .string p.1.p, .string p.1.b, .int .i64 p.1.m, .bool p.1.o, .int .i64 (p.2 : Int)] t)).cell? ((⟨w.heap.size, 0, none⟩ : Addr).add j) = some u := by
  rw [Addr.add_lit]
  match j, h with
  | 0, h => cases h; go_simp
  | 1, h => cases h; go_simp
  | 2, h => cases h; go_simp
  | 3, h => cases h; go_simp
  | 4, h => cases h; go_simp
  | 5, h => cases h; go_simp
  | j + 6, h => simp [csP] at h
theorem csP_one (p : R × Nat) : ∀ u ∈ csP p, u.oneCell' = true := by
  intro u hu
  simp only [csP, List.mem_cons, List.not_mem_nil, or_false] at hu
  rcases hu with rfl | rfl | rfl | rfl | rfl | rfl <;> rfl
theorem rowP_snoc {w : World} {base : Nat} {v : Value} {M : List (R × Nat)} {p : R × Nat} (h : w.ownsRow base 55 6 v (M.length + 1) (flatG csP M ++ csP p)) : RowP w base v (M ++ [p]).length (M ++ [p]) :=
  ⟨rfl, by rw [flatG_snoc, List.length_append]; exact h⟩
theorem grp_len (LL : List (List R)) (q : ByteArray) : (grp LL q).length ≤ LL.length := by
  unfold grp
  generalize 0 = n
  induction LL generalizing n with
  | nil => exact Nat.le_refl _
  | cons l s ih =>
    have := ih (n + 1)
    simp only [grpN]
    cases recAt l q with
    | none => simp only [List.length_cons]; omega
    | some r => simp only [List.length_cons]; omega

set_option maxHeartbeats 3200000 in
theorem groupAt_any (v : Value) (LL : List (List R)) (q : ByteArray) (w : World) (h : StkSl w v LL) (hl : LL.length ≤ 5) (hll : ∀ l ∈ LL, l.length ≤ 1048576) :
    Calls Tryz.prog 103 #[v, .string q] w fun e w' => ∃ x, e = .returned x ∧ Below w.heap.size w w' ∧ RowP w' w.heap.size x (grp LL q).length (grp LL q) := by
  obtain ⟨i0, hi, hI0, hI1, hI2⟩ := info_parts placedInfo
  obtain ⟨A, cap, rfl, hcap, h⟩ := h
  have H := Lib.hid h
  have HLL := Lib.hid hll
  clear h hll
  go_enter Tryz.func103, Tryz.ntmps103
  go_wp2
  go_loopw [5, 11] (fun gv i wr => ∃ (k : Nat) (M : List (R × Nat)), k ≤ LL.length ∧ i = .int .i64 k ∧ Hid (M = grp (LL.take k) q) ∧ RowP wr w.heap.size gv M.length M ∧ Below w.heap.size w wr) (fun _ i _ => LL.length - (intOf i).toNat)
  case atStart => exact ⟨0, [], by omega, rfl, rfl, RowG.nil, Below.refl _ _⟩
  case round =>
    obtain ⟨k, M, hk, rfl, HM, hrow, hbw⟩ := hrel
    obtain ⟨gA, gcap, rfl⟩ := hrow.form
    by_cases hlt : k < LL.length
    · obtain ⟨b, off, rfl, hb, hcell⟩ := H.out (by omega)
      obtain ⟨u, hu0, hur⟩ := hcell k LL[k] (by simp [hlt])
      have hu : wr.cell? ⟨b, off + k, none⟩ = some u := (hbw.cell (p := ⟨b, off + k, none⟩) hb).trans hu0
      have hus := hur.below hbw
      have hi1 : (k : Int) < (LL.length : Int) := by omega
      have hi0 : (0 : Int) ≤ (k : Int) := by omega
      have HST := Lib.hid (grp_take hlt q)
      have hml : M.length ≤ 5 := by
        rw [HM.out]
        have := grp_len (LL.take k) q
        rw [List.length_take] at this
        omega
      have HIX := indexOfPath_any u LL[k] q wr hus (HLL.out _ (List.getElem_mem hlt))
      clear hcell hu0 hur
      rcases atL_recAt LL[k] q with ⟨ha, hn⟩ | ⟨j, hj, ha, hn⟩
      · rw [ha] at HIX
        have HN : Hid (M = grp (LL.take (k + 1)) q) := by show _ = _; rw [HST.out, hn]; exact HM.out
        obtain ⟨uA, ucap, rfl, -⟩ := hus
        go_wp2_with fail
        refine HIX.mono ?_
        rintro e w1 ⟨rfl, hb1⟩
        go_wp2_with fail
        exact ⟨⟨k + 1, M, by omega, by go_num, HN, hrow.below hb1, hbw.trans (hb1.mono hbw.size)⟩, by simp [intOf]; omega⟩
      · rw [ha] at HIX
        have HN : Hid (M ++ [(LL[k][j], k + 1)] = grp (LL.take (k + 1)) q) := by show _ = _; rw [HST.out, hn, ← HM.out]
        have hus2 := hus
        obtain ⟨uA, ucap, rfl, huc, hur⟩ := hus
        obtain ⟨b2, off2, rfl, hb2, hcell2⟩ := hur (by omega)
        have HC2 := Lib.hid (hcell2 j LL[k][j] (by rw [List.getElem?_eq_getElem hj]))
        generalize hR : LL[k][j] = r at *
        have hj1 : (j : Int) < (LL[k].length : Int) := by omega
        have hj0 : (0 : Int) ≤ (j : Int) := by omega
        clear hcell2 hn hur
        go_wp2_with fail
        refine HIX.mono ?_
        rintro e w1 ⟨rfl, hb1⟩
        obtain ⟨c0, c1, c2, c3, c4⟩ := HC2.out.below hb1 hb2
        have d1 := hbw.trans (hb1.mono hbw.size)
        have hsz1 := d1.size
        have ho1 := (hrow.below hb1).2
        have hkk : ((k + 1 : Nat) : Int) = (k : Int) + 1 := by omega
        have hnw := csP_new w1 (r, k + 1) 55
        simp only [hkk] at hnw
        go_wp2_with (first
          | (at_builtin; refine wpList_append_own _ rfl _ _ 67 rfl w.heap.size 55 i0 (.agg #[.int .i64 0, .string ByteArray.empty, .string ByteArray.empty, .int .i64 0, .bool false, .int .i64 0]) 6 64 Tryz.underlying67 hi hI0 hI1 hI2 rfl (by decide) _ _ _ rfl (ho1.alloc _) ⟨w1.heap.size, 0, none⟩ 1 1 (csP (r, k + 1)) rfl rfl hnw (csP_one _) (by unfold maxLen; omega) (by omega) (by simp; omega) ?_; intro v' w9 hown' hgrow9 hnil9))
        exact ⟨⟨k + 1, _, by omega, by go_num, HN, rowP_snoc hown', (d1.alloc d1.size _).grown hgrow9 (d1.alloc d1.size _).size (fun j hj => (ho1.lt j hj).1)⟩, by simp [intOf]; omega⟩
    · have HF : Hid (M = grp LL q) := by show _ = _; rw [HM.out, List.take_of_length_le (by omega)]
      go_wp2
      go_ret
      exact ⟨_, rfl, hbw, by rw [← HF.out]; exact hrow⟩

set_option maxHeartbeats 1600000 in
theorem winnerAtP_any (v : Value) (LL : List (List R)) (q : ByteArray) (w : World) (h : StkSl w v LL) (hl5 : LL.length ≤ 5) (hok : ∀ l ∈ LL, layerOK l = true) (hq : pathB q.data.toList = true) :
    Calls Tryz.prog 91 #[v, .string q] w fun e w' => e = .returned (pv (winC LL q)) ∧ Below w.heap.size w w' := by
  have hlo : ∀ l ∈ LL, l.length ≤ 1048576 := fun l hm => by have := layer_len (hok l hm); omega
  have HCD := fun w1 hb => cutDepth_any v LL q w1 (h.below hb) (by omega) hok hq (path_max hq) (fun l hm r hr => path_max (fault_path (layer_rec (hok l hm) hr)).1)
  have HGA := fun w1 hb => groupAt_any v LL q w1 (h.below hb) hl5 hlo
  have HGL := grp_len LL q
  have HR := Lib.hid (overP_win LL q)
  have hb0 : Below w.heap.size w (w.alloc (.cells #[.int .i64 0, .string ByteArray.empty, .string ByteArray.empty, .int .i64 0, .bool false, .int .i64 0] 55)) := (Below.refl _ _).alloc (Nat.le_refl _) _
  have HRB : Hid (Pbox (w.alloc (.cells #[.int .i64 0, .string ByteArray.empty, .string ByteArray.empty, .int .i64 0, .bool false, .int .i64 0] 55)) w.heap.size (zR, 0)) := alloc_here _ _
  have hsz0 : w.heap.size < (w.alloc (.cells #[.int .i64 0, .string ByteArray.empty, .string ByteArray.empty, .int .i64 0, .bool false, .int .i64 0] 55)).heap.size := by simp
  obtain ⟨vA, vcap, rfl⟩ := h.form
  clear h hok hq hlo
  go_enter Tryz.func91, Tryz.ntmps91
  go_wp2_with fail
  refine (HGA _ hb0).mono ?_
  rintro e w2 ⟨g, rfl, hb2, hg⟩
  obtain ⟨gA, gcap, rfl⟩ := hg.form
  have HG := Lib.hid hg
  have c2 := hb0.trans (hb2.mono hb0.size)
  have HR2 := Lib.hid (HRB.out.below hb2 hsz0)
  have s2 := Nat.lt_of_lt_of_le hsz0 hb2.size
  clear hg
  go_wp2_with fail
  refine (HCD w2 c2).mono ?_
  rintro e w3 ⟨rfl, hb3⟩
  have c3 := c2.trans (hb3.mono c2.size)
  have HR3 := Lib.hid (HR2.out.below hb3 s2)
  have s3 := Nat.lt_of_lt_of_le s2 hb3.size
  have HWO := winnerOf_any _ (grp LL q) (cutD LL q) w3 (RowP.sl (HG.out.below hb3)) (by omega)
  rw [HR.out] at HWO
  unfold pv at HWO
  go_wp2_with fail
  refine HWO.mono ?_
  rintro e w4 ⟨rfl, hb4⟩
  have c4 := c3.trans (hb4.mono c3.size)
  have HR4 := HR3.out.below hb4 s3
  obtain ⟨⟨z0, z1, z2, z3, z4⟩, z5⟩ := HR4.cells
  simp only [Nat.zero_add] at z0 z1 z2 z3 z4 z5
  have f0 := HR4.frozen 0
  have f1 := HR4.frozen 1
  have f2 := HR4.frozen 2
  have f3 := HR4.frozen 3
  have f4 := HR4.frozen 4
  have f5 := HR4.frozen 5
  have HRX := Lib.hid HR4
  clear HR HR4
  generalize hP : winC LL q = P at *
  obtain ⟨r, n⟩ := P
  have HPE := Lib.hid hP
  clear hP
  go_wp2_with fail
  have HFI := HRX.out.set r n
  have HBE : Below w.heap.size w ((((((w4.setCell ⟨w.heap.size, 0, none⟩ (.int .i64 r.k)).setCell ⟨w.heap.size, 1, none⟩ (.string r.p)).setCell ⟨w.heap.size, 2, none⟩ (.string r.b)).setCell ⟨w.heap.size, 3, none⟩ (.int .i64 r.m)).setCell ⟨w.heap.size, 4, none⟩ (.bool r.o)).setCell ⟨w.heap.size, 5, none⟩ (.int .i64 (n : Int))) := by
    repeat (refine Below.setCell ?_ (by simp) _)
    exact c4
  generalize ((((((w4.setCell ⟨w.heap.size, 0, none⟩ (.int .i64 r.k)).setCell ⟨w.heap.size, 1, none⟩ (.string r.p)).setCell ⟨w.heap.size, 2, none⟩ (.string r.b)).setCell ⟨w.heap.size, 3, none⟩ (.int .i64 r.m)).setCell ⟨w.heap.size, 4, none⟩ (.bool r.o)).setCell ⟨w.heap.size, 5, none⟩ (.int .i64 (n : Int))) = WF at *
  obtain ⟨⟨q0, q1, q2, q3, q4⟩, q5⟩ := HFI.cells
  simp only [Nat.zero_add] at q0 q1 q2 q3 q4 q5
  exact bodyPost_ret (v := pv (r, n)) (by simp [results, Tryz.results91, go_sem, pv, q0, q1, q2, q3, q4, q5]) rfl ⟨by rw [HPE.out], HBE⟩

end Go.Proofs.YtibekkfbpmloiaaGreatDoor.Recs

/- Trees: the place of a path, comparison of two, of the model. DRAFT (made out of the texts on records; not built yet: no seat had nodes). -/
namespace Go.Proofs.YtibekkfbpmloiaaGreatDoor.Recs
set_option maxRecDepth 100000
open Go.RowKit Paths

theorem NodSl.take {w : World} {A : Option Addr} {cap : Nat} {l : List R} {k : Nat} (h : NodSl w (.slice A l.length cap) l) (hk : k ≤ l.length) : NodSl w (.slice A k cap) (l.take k) := by
  obtain ⟨ho, A', cap', e, hc, h⟩ := h
  cases e
  refine ⟨fun r hr => ho r (List.mem_of_mem_take hr), A, cap, by rw [List.length_take, Nat.min_eq_left hk], by rw [List.length_take]; omega, fun hn => ?_⟩
  rw [List.length_take] at hn
  obtain ⟨b, off, e, hb, hcell⟩ := h (by omega)
  refine ⟨b, off, e, hb, fun j p hj => hcell j p ?_⟩
  rw [List.getElem?_take] at hj
  split at hj
  · exact hj
  · cases hj
/-- Two nodes are alike, or one field is the first that is not. -/
theorem four (x y : R) : (x.k == y.k) = false ∨ ((x.k == y.k) = true ∧ (x.p.toList == y.p.toList) = false) ∨ ((x.k == y.k) = true ∧ (x.p.toList == y.p.toList) = true ∧ (x.b.toList == y.b.toList) = false) ∨
    ((x.k == y.k) = true ∧ (x.p.toList == y.p.toList) = true ∧ (x.b.toList == y.b.toList) = true ∧ (x.m == y.m) = false) ∨ ((x.k == y.k) = true ∧ (x.p.toList == y.p.toList) = true ∧ (x.b.toList == y.b.toList) = true ∧ (x.m == y.m) = true) := by
  cases (x.k == y.k) <;> cases (x.p.toList == y.p.toList) <;> cases (x.b.toList == y.b.toList) <;> cases (x.m == y.m) <;> simp

end Go.Proofs.YtibekkfbpmloiaaGreatDoor.Recs

/- Trees: resolving a path, of the model; the code of a call's arguments, of the model. -/
namespace Go.Proofs.YtibekkfbpmloiaaGreatDoor.Recs
set_option maxRecDepth 100000
open Go.RowKit Paths

/-- What resolving has before the i-th part. -/
def preP (q : ByteArray) (i : Nat) : ByteArray := if i = 0 then ⟨#[]⟩ else pre q (i - 1)
theorem preP_zero (q : ByteArray) : preP q 0 = ⟨#[]⟩ := rfl
theorem preP_succ (q : ByteArray) (i : Nat) : preP q (i + 1) = pre q i := rfl
theorem pre_zero {q : ByteArray} (h : 0 < (cutAt 47 q.data.toList).length) : pre q 0 = ⟨((cutAt 47 q.data.toList)[0]).toArray⟩ := by
  apply bytes_ext2
  rw [pre_data]
  match cutAt 47 q.data.toList, h with
  | x :: t, _ => simp [Lib.join]
where bytes_ext2 {a b : ByteArray} (h : a.data.toList = b.data.toList) : a = b := ByteArray.ext (Array.toList_inj.1 h)
theorem pre_succ {q : ByteArray} {i : Nat} (h : i + 1 < (cutAt 47 q.data.toList).length) : (pre q i).data.toList ++ 47 :: (cutAt 47 q.data.toList)[i + 1] = (pre q (i + 1)).data.toList := by
  rw [pre_data, pre_data, List.take_add_one (i := i + 1), List.getElem?_eq_getElem h]
  simp only [Option.toList]
  rw [join_snoc]
  intro e
  have := congrArg List.length e
  rw [List.length_take, List.length_nil] at this
  omega
theorem pre_size {q : ByteArray} (h : pathB q.data.toList = true) (i : Nat) : 0 < (pre q i).size ∧ (pre q i).size ≤ 35 := by
  have h1 := pre_path h i
  constructor
  · rw [Lib.size_eq]
    have := pathB_ne h1
    exact List.length_pos_iff.2 this
  · rw [Lib.size_eq]
    exact pathB_len h1

/-- One part more, joined on. -/
theorem join_step (q : ByteArray) (hq : pathB q.data.toList = true) (i : Nat) (hi : i < (cutAt 47 q.data.toList).length) (w : World) :
    Calls Tryz.prog 58 #[.string (preP q i), .string ⟨((cutAt 47 q.data.toList)[i]).toArray⟩] w fun e w' => e = .returned (.string (pre q i)) ∧ w = w' := by
  match i, hi with
  | 0, hi =>
    rw [preP_zero]
    refine (l01Join_root _ _ w rfl).mono ?_
    rintro e w1 ⟨rfl, rfl⟩
    exact ⟨by rw [pre_zero hi]; rfl, rfl⟩
  | i + 1, hi =>
    rw [preP_succ]
    obtain ⟨h1, h2⟩ := pre_size hq i
    have hp := (pathB_parts hq).2
    have h3 := List.all_eq_true.1 hp _ (List.getElem_mem hi)
    have h4 : (⟨((cutAt 47 q.data.toList)[i + 1]).toArray⟩ : ByteArray).size ≤ 8 := by
      rw [Lib.size_eq]
      exact (partB_len h3).2
    refine (l01Join_deep _ _ w h1 (by omega) (by omega)).mono ?_
    rintro e w1 ⟨rfl, rfl⟩
    refine ⟨?_, rfl⟩
    unfold strV
    rw [show (⟨((cutAt 47 q.data.toList)[i + 1]).toArray⟩ : ByteArray).data.toList = (cutAt 47 q.data.toList)[i + 1] from rfl, pre_succ hi]

end Go.Proofs.YtibekkfbpmloiaaGreatDoor.Recs

/- Queries: a place with the closure that goes on from it by one part; following a path, of the program. -/
namespace Go.Proofs.YtibekkfbpmloiaaGreatDoor.Recs
set_option maxRecDepth 100000
open Go.RowKit Paths

/-- The closure of a place: over the box of what is placed there and the box of the stack. -/
def entV (a b : Nat) : Value := .func (.func 89) #[] #[.pointer (some ⟨a, 0, none⟩), .pointer (some ⟨b, 0, none⟩)]
def plV (p : R × Nat) (f : Value) : Value := .agg #[.int .i64 p.1.k, .string p.1.p, .string p.1.b, .int .i64 p.1.m, .bool p.1.o, .int .i64 (p.2 : Int), f]
def Plbox (w : World) (B : Nat) (p : R × Nat) (f : Value) : Prop := w.heap[B]? = some (.cells #[.int .i64 p.1.k, .string p.1.p, .string p.1.b, .int .i64 p.1.m, .bool p.1.o, .int .i64 (p.2 : Int), f] 58 (0, 0))
theorem Plbox.lt {w : World} {B : Nat} {p : R × Nat} {f : Value} (h : Plbox w B p f) : B < w.heap.size := (Array.getElem?_eq_some_iff.1 h).1
theorem Plbox.cells {w : World} {B : Nat} {p : R × Nat} {f : Value} (h : Plbox w B p f) : w.cell? ⟨B, 0, none⟩ = some (.int .i64 p.1.k) ∧ w.cell? ⟨B, 1, none⟩ = some (.string p.1.p) ∧ w.cell? ⟨B, 2, none⟩ = some (.string p.1.b) ∧ w.cell? ⟨B, 3, none⟩ = some (.int .i64 p.1.m) ∧ w.cell? ⟨B, 4, none⟩ = some (.bool p.1.o) ∧ w.cell? ⟨B, 5, none⟩ = some (.int .i64 (p.2 : Int)) ∧ w.cell? ⟨B, 6, none⟩ = some f := by
  refine ⟨?_, ?_, ?_, ?_, ?_, ?_, ?_⟩ <;> simp [World.cell?, show w.heap[B]? = _ from h]
theorem Plbox.frozen {w : World} {B : Nat} {p : R × Nat} {f : Value} (h : Plbox w B p f) (j : Nat) : w.frozen? ⟨B, j, none⟩ = false := by simp [World.frozen?, show w.heap[B]? = _ from h]
theorem Plbox.below {w w' : World} {K B : Nat} {p : R × Nat} {f : Value} (h : Plbox w B p f) (hb : Below K w w') (hB : B < K) : Plbox w' B p f := (hb.block B hB).trans h
/-- A place stored. -/
def setPl (w : World) (B : Nat) (r : R) (n : Nat) (f : Value) : World := ((((((w.setCell ⟨B, 0, none⟩ (.int .i64 r.k)).setCell ⟨B, 1, none⟩ (.string r.p)).setCell ⟨B, 2, none⟩ (.string r.b)).setCell ⟨B, 3, none⟩ (.int .i64 r.m)).setCell ⟨B, 4, none⟩ (.bool r.o)).setCell ⟨B, 5, none⟩ (.int .i64 (n : Int))).setCell ⟨B, 6, none⟩ f
theorem Plbox.set {w : World} {B : Nat} {p : R × Nat} {g : Value} (h : Plbox w B p g) (r : R) (n : Nat) (f : Value) : Plbox (setPl w B r n f) B (r, n) f := by
  have h1 := setCell_heap (j := 0) (u := .int .i64 r.k) h
  have h2 := setCell_heap (j := 1) (u := .string r.p) h1
  have h3 := setCell_heap (j := 2) (u := .string r.b) h2
  have h4 := setCell_heap (j := 3) (u := .int .i64 r.m) h3
  have h5 := setCell_heap (j := 4) (u := .bool r.o) h4
  have h6 := setCell_heap (j := 5) (u := .int .i64 (n : Int)) h5
  have h7 := setCell_heap (j := 6) (u := f) h6
  unfold Plbox setPl
  rw [h7]
  rfl
theorem setCell_blk {w : World} {B B' j : Nat} {u : Value} (hne : B ≠ B') : (w.setCell ⟨B', j, none⟩ u).heap[B]? = w.heap[B]? := by
  simp only [World.setCell, Array.getElem?_modify]
  rw [if_neg (fun e => hne e.symm)]
theorem setPl_block {w : World} {B B' n : Nat} {r : R} {f : Value} (hne : B ≠ B') : (setPl w B' r n f).heap[B]? = w.heap[B]? := by
  unfold setPl
  rw [setCell_blk hne, setCell_blk hne, setCell_blk hne, setCell_blk hne, setCell_blk hne, setCell_blk hne, setCell_blk hne]
theorem setPl_below {w0 w : World} {K B n : Nat} {r : R} {f : Value} (h : Below K w0 w) (hB : K ≤ B) : Below K w0 (setPl w B r n f) := by
  unfold setPl
  repeat (refine Below.setCell ?_ hB _)
  exact h
/-- What the closure of a place holds on to. -/
structure Holds (w : World) (v : Value) (p : R × Nat) (a b : Nat) : Prop where
  at_ : Pbox w a p
  list : w.heap[b]? = some (.cells #[v] 28 (0, 0))
theorem Holds.below {w w' : World} {v : Value} {p : R × Nat} {a b : Nat} (h : Holds w v p a b) (hb : Below w.heap.size w w') : Holds w' v p a b :=
  ⟨h.at_.below hb h.at_.lt, (hb.block b (Array.getElem?_eq_some_iff.1 h.list).1).trans h.list⟩
theorem Holds.lt {w : World} {v : Value} {p : R × Nat} {a b : Nat} (h : Holds w v p a b) : a < w.heap.size ∧ b < w.heap.size := ⟨h.at_.lt, (Array.getElem?_eq_some_iff.1 h.list).1⟩
theorem Holds.cell {w : World} {v : Value} {p : R × Nat} {a b : Nat} (h : Holds w v p a b) : w.cell? ⟨b, 0, none⟩ = some v := by simp [World.cell?, show w.heap[b]? = _ from h.list]
theorem Holds.setPl {w : World} {v : Value} {p : R × Nat} {a b B n : Nat} {r : R} {f : Value} (h : Holds w v p a b) (ha : a ≠ B) (hb : b ≠ B) : Holds (setPl w B r n f) v p a b :=
  ⟨(setPl_block ha).trans h.at_, (setPl_block hb).trans h.list⟩

set_option maxHeartbeats 800000 in
theorem isVisible_any (p : R × Nat) (w : World) :
    Calls Tryz.prog 42 #[pv p] w fun e w' => e = .returned (.bool (seenP p)) ∧ Below w.heap.size w w' := by
  obtain ⟨r, n⟩ := p
  unfold pv
  dsimp only
  have hB : Below w.heap.size w (w.alloc (.cells #[.int .i64 r.k, .string r.p, .string r.b, .int .i64 r.m, .bool r.o, .int .i64 (n : Int)] 55)) := (Below.refl _ _).alloc (Nat.le_refl _) _
  by_cases h0 : 0 < n
  · have hd : decide ((0 : Int) < (n : Int)) = true := decide_eq_true (by omega)
    have hd' : decide (0 < n) = true := decide_eq_true h0
    by_cases hk : r.k = 4
    · have HE : Hid (seenP (r, n) = false) := seenP_no.2 (fun h => h.2 hk)
      have hdk : (r.k != 4) = false := by simpa using hk
      clear hk h0
      go_enter Tryz.func42, Tryz.ntmps42
      go_wp2_with fail
      go_ret
      exact ⟨by rw [HE.out]; rfl, hB⟩
    · have HE : Hid (seenP (r, n) = true) := seenP_iff.2 ⟨h0, hk⟩
      have hdk : (r.k != 4) = true := by simpa using hk
      clear hk h0
      go_enter Tryz.func42, Tryz.ntmps42
      go_wp2_with fail
      go_ret
      exact ⟨by rw [HE.out]; rfl, hB⟩
  · have HE : Hid (seenP (r, n) = false) := seenP_no.2 (fun h => h0 h.1)
    have hd : decide ((0 : Int) < (n : Int)) = false := decide_eq_false (by omega)
    have hd' : decide (0 < n) = false := decide_eq_false h0
    clear h0
    go_enter Tryz.func42, Tryz.ntmps42
    go_wp2_with fail
    go_ret
    exact ⟨by rw [HE.out]; rfl, hB⟩

set_option maxHeartbeats 1600000 in
theorem placeOf_any (A : Option Addr) (n c : Nat) (p : R × Nat) (w : World) :
    Calls Tryz.prog 69 #[.slice A n c, pv p] w fun e w' => e = .returned (plV p (entV (w.heap.size + 1) w.heap.size)) ∧ Below w.heap.size w w' ∧ Holds w' (.slice A n c) p (w.heap.size + 1) w.heap.size := by
  obtain ⟨r, m⟩ := p
  unfold pv
  dsimp only
  have hB : Below w.heap.size w (((w.alloc (.cells #[.slice A n c] 28)).alloc (.cells #[.int .i64 r.k, .string r.p, .string r.b, .int .i64 r.m, .bool r.o, .int .i64 (m : Int)] 55)).alloc (.cells #[.int .i64 r.k, .string r.p, .string r.b, .int .i64 r.m, .bool r.o, .int .i64 (m : Int), .func (.func 89) #[] #[.pointer (some ⟨w.heap.size + 1, 0, none⟩), .pointer (some ⟨w.heap.size, 0, none⟩)]] 58)) := (((Below.refl _ _).alloc (Nat.le_refl _) _).alloc (by simp) _).alloc (by simp; omega) _
  have HH : Holds (((w.alloc (.cells #[.slice A n c] 28)).alloc (.cells #[.int .i64 r.k, .string r.p, .string r.b, .int .i64 r.m, .bool r.o, .int .i64 (m : Int)] 55)).alloc (.cells #[.int .i64 r.k, .string r.p, .string r.b, .int .i64 r.m, .bool r.o, .int .i64 (m : Int), .func (.func 89) #[] #[.pointer (some ⟨w.heap.size + 1, 0, none⟩), .pointer (some ⟨w.heap.size, 0, none⟩)]] 58)) (.slice A n c) (r, m) (w.heap.size + 1) w.heap.size := by
    refine ⟨(Below.heap_alloc _ _ _ (by simp)).trans ?_, (Below.heap_alloc _ _ _ (by simp; omega)).trans ((Below.heap_alloc _ _ _ (by simp)).trans (alloc_here w _))⟩
    have := alloc_here (w.alloc (.cells #[.slice A n c] 28)) (.cells #[.int .i64 r.k, .string r.p, .string r.b, .int .i64 r.m, .bool r.o, .int .i64 (m : Int)] 55)
    rw [World.size_alloc] at this
    exact this
  go_enter Tryz.func69, Tryz.ntmps69
  go_wp2_with fail
  exact bodyPost_ret (v := plV (r, m) (entV (w.heap.size + 1) w.heap.size)) (by simp [results, Tryz.results69, go_sem, plV, entV]) rfl ⟨rfl, hB, HH⟩

def nilPl : Value := plV (zR, 0) .nilFunc
theorem zplace_new (w : World) : Plbox (w.alloc (.cells #[.int .i64 0, .string ⟨#[]⟩, .string ⟨#[]⟩, .int .i64 0, .bool false, .int .i64 0, .nilFunc] 58)) w.heap.size (zR, 0) .nilFunc := alloc_here _ _

set_option maxHeartbeats 1600000 in
/-- Going on from what is no directory. -/
theorem enter_stop (v : Value) (p : R × Nat) (a b : Nat) (s : ByteArray) (w : World) (hH : Holds w v p a b) (hk : p.1.k ≠ 3) :
    Calls Tryz.prog 89 #[.string s, .pointer (some ⟨a, 0, none⟩), .pointer (some ⟨b, 0, none⟩)] w fun e w' => e = .returned (.tuple #[nilPl, .int .i64 13]) ∧ Below w.heap.size w w' := by
  obtain ⟨r, n⟩ := p
  have hb0 : Below w.heap.size w (w.alloc (.cells #[.int .i64 0, .string ⟨#[]⟩, .string ⟨#[]⟩, .int .i64 0, .bool false, .int .i64 0, .nilFunc] 58)) := (Below.refl _ _).alloc (Nat.le_refl _) _
  obtain ⟨⟨k0, _⟩, _⟩ := (hH.below hb0).at_.cells
  have hd : (r.k != 3) = true := by simpa using hk
  clear hk
  go_enter Tryz.func89, Tryz.ntmps89
  go_wp2_with fail
  refine bodyPost_ret (v := .tuple #[.agg #[.int .i64 0, .string ⟨#[]⟩, .string ⟨#[]⟩, .int .i64 0, .bool false, .int .i64 0, .nilFunc], .int .i64 13]) (by simp [results, Tryz.results89, go_sem]) rfl ⟨rfl, ?_⟩
  repeat (refine Below.setCell ?_ (by simp) _)
  exact hb0

theorem join_way {d s : ByteArray} (hj : pathB (joinRes d s) = true) : joinCode d s = 0 := by
  unfold joinRes at hj
  unfold joinCode
  cases h : joinWay d s with
  | zero => rw [h] at hj; cases hj
  | succ n =>
    match n with
    | 0 => rw [h] at hj; cases hj
    | 1 => rw [h] at hj; cases hj
    | n + 2 => rfl
set_option maxHeartbeats 3200000 in
theorem enter_dir (v : Value) (LL : List (List R)) (p : R × Nat) (a b : Nat) (s q : ByteArray) (w : World) (hS : StkSl w v LL) (hl5 : LL.length ≤ 5) (hok : ∀ l ∈ LL, layerOK l = true) (hH : Holds w v p a b) (hk : p.1.k = 3) (hps : p.1.p.size ≤ maxLen) (hq : pathB q.data.toList = true) (hj : joinRes p.1.p s = q.data.toList) :
    Calls Tryz.prog 89 #[.string s, .pointer (some ⟨a, 0, none⟩), .pointer (some ⟨b, 0, none⟩)] w fun e w' => Below w.heap.size w w' ∧ ((seenP (winC LL q) = false ∧ e = .returned (.tuple #[nilPl, .int .i64 5])) ∨
      (seenP (winC LL q) = true ∧ ∃ a' b', e = .returned (.tuple #[plV (winC LL q) (entV a' b'), .int .i64 0]) ∧ Holds w' v (winC LL q) a' b' ∧ w.heap.size ≤ a' ∧ w.heap.size ≤ b')) := by
  obtain ⟨r, n⟩ := p
  have hb0 : Below w.heap.size w (w.alloc (.cells #[.int .i64 0, .string ⟨#[]⟩, .string ⟨#[]⟩, .int .i64 0, .bool false, .int .i64 0, .nilFunc] 58)) := (Below.refl _ _).alloc (Nat.le_refl _) _
  obtain ⟨⟨k0, k1, _⟩, _⟩ := (hH.below hb0).at_.cells
  simp only [Nat.zero_add] at k1
  have hd : (r.k != 3) = false := by simpa using hk
  have hjc := join_way (d := r.p) (s := s) (by rw [show joinRes r.p s = q.data.toList from hj]; exact hq)
  have HJ : Hid (∀ W, Calls Tryz.prog 90 #[.string r.p, .string s] W fun e w' => e = .returned (.tuple #[.string q, .int .i64 0]) ∧ Below W.heap.size W w') := fun W => by
    refine (joinPath_impl r.p s W hps).mono ?_
    rintro e w1 ⟨h1, h2⟩
    refine ⟨?_, h2⟩
    rw [h1, hjc, show joinRes r.p s = q.data.toList from hj, strV_data]
  have HWA := fun W hb => winnerAtP_any v LL q W (hS.below hb) hl5 hok hq
  have HZ : Hid (Plbox (w.alloc (.cells #[.int .i64 0, .string ⟨#[]⟩, .string ⟨#[]⟩, .int .i64 0, .bool false, .int .i64 0, .nilFunc] 58)) w.heap.size (zR, 0) .nilFunc) := zplace_new w
  have hz0 : w.heap.size < (w.alloc (.cells #[.int .i64 0, .string ⟨#[]⟩, .string ⟨#[]⟩, .int .i64 0, .bool false, .int .i64 0, .nilFunc] 58)).heap.size := by simp
  have HHH := Lib.hid hH
  have HHv := Lib.hid (hS.form)
  obtain ⟨vA, vcap, rfl⟩ := hS.form
  clear hk hj hjc hS hq hps
  go_enter Tryz.func89, Tryz.ntmps89
  go_wp2_with fail
  refine (HJ.out _).mono ?_
  rintro e w1 ⟨rfl, hb1⟩
  have c1 := hb0.trans (hb1.mono hb0.size)
  have z1 := Nat.lt_of_lt_of_le hz0 hb1.size
  have l1 := (HHH.out.below c1).cell
  go_wp2_with fail
  refine (HWA _ c1).mono ?_
  rintro e w2 ⟨rfl, hb2⟩
  have c2 := c1.trans (hb2.mono c1.size)
  have z2 := Nat.lt_of_lt_of_le z1 hb2.size
  clear k0 k1 l1 HWA HJ
  generalize hP : winC LL q = P at *
  obtain ⟨r2, m⟩ := P
  have HPE := Lib.hid hP
  clear hP
  have HV := fun W => isVisible_any (r2, m) W
  unfold pv at HV ⊢
  dsimp only at HV ⊢
  have c3 := c2.alloc c2.size (.cells #[.int .i64 r2.k, .string r2.p, .string r2.b, .int .i64 r2.m, .bool r2.o, .int .i64 (m : Int)] 55)
  have b3 : Below w2.heap.size w2 (w2.alloc (.cells #[.int .i64 r2.k, .string r2.p, .string r2.b, .int .i64 r2.m, .bool r2.o, .int .i64 (m : Int)] 55)) := (Below.refl _ _).alloc (Nat.le_refl _) _
  have HPB : Hid (Pbox (w2.alloc (.cells #[.int .i64 r2.k, .string r2.p, .string r2.b, .int .i64 r2.m, .bool r2.o, .int .i64 (m : Int)] 55)) w2.heap.size (r2, m)) := alloc_here _ _
  have s3 : w2.heap.size < (w2.alloc (.cells #[.int .i64 r2.k, .string r2.p, .string r2.b, .int .i64 r2.m, .bool r2.o, .int .i64 (m : Int)] 55)).heap.size := by simp
  go_wp2_with fail
  refine (HV _).mono ?_
  rintro e w4 ⟨rfl, hb4⟩
  have c4 := c3.trans (hb4.mono c3.size)
  have HP4 := Lib.hid (HPB.out.below hb4 s3)
  have HZ4 := Lib.hid (((HZ.out.below hb1 hz0).below hb2 z1).below (b3.trans (hb4.mono b3.size)) z2)
  obtain ⟨⟨k0, k1, k2, k3, k4⟩, k5⟩ := HP4.out.cells
  simp only [Nat.zero_add] at k0 k1 k2 k3 k4 k5
  have l1 := (HHH.out.below c4).cell
  have s4 := Nat.lt_of_lt_of_le s3 hb4.size
  cases hs : seenP (r2, m) with
  | false =>
    obtain ⟨z0, z1, z2, z3, z4, z5, z6⟩ := HZ4.out.cells
    have f0 := HZ4.out.frozen 0
    have f1 := HZ4.out.frozen 1
    have f2 := HZ4.out.frozen 2
    have f3 := HZ4.out.frozen 3
    have f4 := HZ4.out.frozen 4
    have f5 := HZ4.out.frozen 5
    have f6 := HZ4.out.frozen 6
    have HS := Lib.hid hs
    clear hs
    go_wp2_with fail
    refine bodyPost_ret (v := .tuple #[.agg #[.int .i64 0, .string ⟨#[]⟩, .string ⟨#[]⟩, .int .i64 0, .bool false, .int .i64 0, .nilFunc], .int .i64 5]) (by simp [results, Tryz.results89, go_sem, z0, z1, z2, z3, z4, z5, z6]) rfl ⟨?_, .inl ⟨by rw [HPE.out]; exact HS.out, rfl⟩⟩
    repeat (refine Below.setCell ?_ (by simp) _)
    exact c4
  | true =>
    have HS := Lib.hid hs
    clear hs
    have HPL := fun W => placeOf_any vA LL.length vcap (r2, m) W
    unfold pv at HPL
    dsimp only at HPL
    go_wp2_with fail
    refine (HPL _).mono ?_
    rintro e w5 ⟨rfl, hb5, hH5⟩
    have c5 := c4.trans (hb5.mono c4.size)
    have HZ5 := Lib.hid (HZ4.out.below hb5 (by omega))
    obtain ⟨z0, z1, z2, z3, z4, z5, z6⟩ := HZ5.out.cells
    have f0 := HZ5.out.frozen 0
    have f1 := HZ5.out.frozen 1
    have f2 := HZ5.out.frozen 2
    have f3 := HZ5.out.frozen 3
    have f4 := HZ5.out.frozen 4
    have f5 := HZ5.out.frozen 5
    have f6 := HZ5.out.frozen 6
    have HHo := Lib.hid hH5
    have hwz : w.heap.size ≤ w4.heap.size := c4.size
    clear k0 k1 k2 k3 k4 k5 l1 hH5
    unfold plV entV
    dsimp only
    go_wp2_with fail
    have HF := HZ5.out.set r2 m (entV (w4.heap.size + 1) w4.heap.size)
    have HB2 := setPl_below (r := r2) (n := m) (f := entV (w4.heap.size + 1) w4.heap.size) c5 (Nat.le_refl w.heap.size)
    have HH2 := HHo.out.setPl (r := r2) (n := m) (f := entV (w4.heap.size + 1) w4.heap.size) (B := w.heap.size) (by omega) (by omega)
    generalize hWF : setPl w5 w.heap.size r2 m (entV (w4.heap.size + 1) w4.heap.size) = WF at *
    obtain ⟨q0, q1, q2, q3, q4, q5, q6⟩ := HF.cells
    unfold setPl entV at hWF
    rw [hWF]
    clear hWF
    exact bodyPost_ret (v := .tuple #[plV (r2, m) (entV (w4.heap.size + 1) w4.heap.size), .int .i64 0]) (by simp [results, Tryz.results89, go_sem, plV, entV, q0, q1, q2, q3, q4, q5, q6]) rfl ⟨HB2, .inr ⟨by rw [HPE.out]; exact HS.out, _, _, by rw [HPE.out], by rw [HPE.out]; exact HH2, by omega, by omega⟩⟩
end Go.Proofs.YtibekkfbpmloiaaGreatDoor.Recs
