/- Parts of several texts of mine in one file (each begins with its own remark). -/
import Derived.Test.YtibekkfbpmloiaaGreatDoorCA1
import Derived.Test.YtibekkfbpmloiaaGreatDoorCA10
import Derived.Test.YtibekkfbpmloiaaGreatDoorCA11
import Derived.Test.YtibekkfbpmloiaaGreatDoorCA12
import Derived.Test.YtibekkfbpmloiaaGreatDoorCA13
import Derived.Test.YtibekkfbpmloiaaGreatDoorCA14
import Derived.Test.YtibekkfbpmloiaaGreatDoorCA15
import Derived.Test.YtibekkfbpmloiaaGreatDoorCA17
import Derived.Test.YtibekkfbpmloiaaGreatDoorCA2
import Derived.Test.YtibekkfbpmloiaaGreatDoorCA3
import Derived.Test.YtibekkfbpmloiaaGreatDoorCA4
import Derived.Test.YtibekkfbpmloiaaGreatDoorCA5
import Derived.Test.YtibekkfbpmloiaaGreatDoorCA6
import Derived.Test.YtibekkfbpmloiaaGreatDoorCA7
import Derived.Test.YtibekkfbpmloiaaGreatDoorCA8
import Derived.Test.YtibekkfbpmloiaaGreatDoorCB10
import Derived.Test.YtibekkfbpmloiaaGreatDoorCB11
import Derived.Test.YtibekkfbpmloiaaGreatDoorCB3
import Derived.Test.YtibekkfbpmloiaaGreatDoorCB5
import Derived.Test.YtibekkfbpmloiaaGreatDoorCB8
import Derived.Test.YtibekkfbpmloiaaGreatDoorCB9
import Derived.Test.YtibekkfbpmloiaaGreatDoorChecked
import Derived.Test.YtibekkfbpmloiaaGreatDoorShelf
import Derived.Test.YtibekkfbpmloiaaGreatDoorProg
import Derived.Test.YtibekkfbpmloiaaGreatDoorRows
import Derived.Deep.Slices
import Derived.OpenShut
import Derived.ShutString
import Derived.ChangeArms
import Derived.WideShapes
import Derived.Lib.LaidTab
import Derived.BigQuiet
import Derived.Deep.QuietTactic
import Derived.Deep.RegionHeld3
import Derived.StillTailTactics
import Derived.Deep.Draws
import Derived.Deep.LoopGhost
import Derived.WalkKit
import Derived.WalkSpells
import Derived.WalkSmall
import Derived.Lib.OthersKept
import Derived.Lib.Hide
import Derived.Lib.Strings
import Derived.Lib.Join
import Derived.Laws.OwnMore
import Derived.BigRegion
import Derived.Laws.BytesArg
import Derived.WalkLawsBesides
import Derived.RangeFuncNested
import Derived.RangeFuncBound
import Derived.RangeFuncCalls
import Derived.RangeFuncLeaves
import Derived.RangeFuncBox
import Derived.Shelf.Abstract
import Derived.Shelf.RegionOpen
import Derived.OwnWalkIn
import Derived.TacticsInMore
import Derived.LoopNIn
import Derived.LoopIn
import Derived.Stop.LaidErr
import Derived.LaidEql
import Derived.Stop.Asserts
import Derived.Below
import Derived.Stop.LaidTwo
import Derived.ChangeVars
import Derived.Deep.DeepHandedRow
import Derived.Deep.RegionWith
import Derived.OneCell
import Derived.Lib.SliceRun
import Derived.Lib.Overlaps
import Derived.Lib.AppendZerosOnto
import Derived.Laws.NewBlocks
import Derived.Laws.IdiomCopy
import Derived.Deep.RegionLaw
import Derived.Deep.AppendLies
import Derived.Laws.EntriesVeiled
import Derived.Laws.AppendOwn
/- Sorted lists of records are told by their members; what is above a path; a housed list has all that is above its records. -/
namespace Go.Proofs.YtibekkfbpmloiaaGreatDoor.Recs
open Go.RowKit Paths

theorem ups_path {q : ByteArray} (h : pathB q.data.toList = true) : ∀ a ∈ ups q, pathB a.data.toList = true := by
  refine path_ind (P := fun q => ∀ a ∈ ups q, pathB a.data.toList = true) ?_ ?_ q h
  · intro q hq hp a ha
    rw [ups_step hq, if_pos hp] at ha
    cases ha
  · intro q hq hp h1 ih a ha
    rw [ups_step hq, if_neg hp] at ha
    rcases List.mem_cons.1 ha with rfl | ha
    · exact h1
    · exact ih a ha
end Go.Proofs.YtibekkfbpmloiaaGreatDoor.Recs

/- Resolving a path in a tree, part by part, and what comes out at once. -/
namespace Go.Proofs.YtibekkfbpmloiaaGreatDoor.Recs
open Go.RowKit Paths

theorem ups_pre {q a : ByteArray} (h : pathB q.data.toList = true) (ha : a ∈ ups q) : ∃ i, i + 1 < nparts q ∧ a = pre q i := by
  have hp := ups_path h a ha
  rw [up_below h] at ha
  unfold belowP at ha
  simp only [Bool.and_eq_true, decide_eq_true_eq, beq_iff_eq] at ha
  have h1 := nparts_pos a
  unfold nparts at h1 ⊢
  refine ⟨(cutAt 47 a.data.toList).length - 1, by omega, bytes_cut ?_⟩
  rw [pre_cut h, Nat.sub_add_cancel h1]
  exact ha.2.symm

end Go.Proofs.YtibekkfbpmloiaaGreatDoor.Recs

/- Trees with what is directly below each node, plain. -/
namespace Go.Proofs.YtibekkfbpmloiaaGreatDoor.Recs
open Go.RowKit Paths

theorem pre_parent {q : ByteArray} (h : pathB q.data.toList = true) {i : Nat} (hi : i + 1 < nparts q) : parO (pre q (i + 1)) = pre q i := by
  apply bytes_ext
  rw [parO_data]
  unfold parentL
  rw [pre_cut h, pre_data]
  congr 1
  unfold nparts at hi
  rw [List.dropLast_eq_take, List.take_take, List.length_take]
  congr 1
  omega
end Go.Proofs.YtibekkfbpmloiaaGreatDoor.Recs

/- Queries of a stack, plain: what is visible as a tree; resolving a path; what is below it, and directly below it. -/
namespace Go.Proofs.YtibekkfbpmloiaaGreatDoor.Recs
set_option maxRecDepth 100000
open Go.RowKit Paths

/-- The same, of all that is below (the program). -/
def dirP (B : List ByteArray) (d : Nat) : List ByteArray := (B.filter fun p => decide (nparts p = d + 1)).map lastB
theorem dir_step {B : List ByteArray} {k : Nat} (hk : k < B.length) (d : Nat) : dirP (B.take (k + 1)) d = if nparts B[k] = d + 1 then dirP (B.take k) d ++ [lastB B[k]] else dirP (B.take k) d := by
  unfold dirP
  rw [List.take_add_one, List.getElem?_eq_getElem hk, List.filter_append, List.map_append]
  by_cases h : nparts B[k] = d + 1 <;> simp [h]
theorem par_pre {c : ByteArray} (h : pathB c.data.toList = true) {i : Nat} (hi : i + 2 = nparts c) : parO c = pre c i := by
  have := pre_parent h (i := i) (by omega)
  rwa [pre_last (i + 1) (by omega)] at this
theorem dir_all {LL : List (List R)} (hs : ∀ l ∈ LL, Fine l) {q : ByteArray} (hq : q.size = 0 ∨ pathB q.data.toList = true) : dirP (walkT LL q) (deep q) = dirT LL q := by
  have ht := vis_tree hs
  have key : ((allT (visT LL) q).filter fun c => decide (nparts c.p = deep q + 1)) = kids (visT LL) q := by
    unfold kids allT
    have hdeep : ∀ c : R, pathB c.p.data.toList = true → deep c.p = nparts c.p := fun c hc => if_neg (path_nonempty hc)
    split
    · rename_i h0
      apply List.filter_congr
      intro c hc
      have hcp := ht.path c hc
      rw [Bool.eq_iff_iff, decide_eq_true_eq, decide_eq_true_eq]
      have h1 := (deep_kid hcp).1
      rw [hdeep c hcp] at h1
      subst h0
      constructor
      · intro h
        rw [h] at h1
        have : deep (parO c.p) = 0 := by
          have : deep ByteArray.empty = 0 := if_pos rfl
          omega
        unfold deep at this
        split at this
        · assumption
        · have := nparts_pos (parO c.p); omega
      · intro h
        rw [h1, h]
    · rename_i h0
      have hqp : pathB q.data.toList = true := by
        rcases hq with h | h
        · exact absurd (ByteArray.ext (Array.eq_empty_of_size_eq_zero h)) h0
        · exact h
      have hdq : deep q = nparts q := if_neg h0
      unfold subT
      rw [List.filter_filter]
      apply List.filter_congr
      intro c hc
      have hcp := ht.path c hc
      rw [Bool.eq_iff_iff, Bool.and_eq_true, decide_eq_true_eq, decide_eq_true_eq, isUp_iff]
      constructor
      · rintro ⟨h1, h2⟩
        obtain ⟨i, hi, e⟩ := ups_pre hcp h2
        have hn : nparts q = i + 1 := by
          rw [e]
          show (cutAt 47 (pre c.p i).data.toList).length = _
          rw [pre_cut hcp, List.length_take]
          unfold nparts at hi
          omega
        rw [par_pre hcp (i := i) (by omega), e]
      · intro h
        have hne : parO c.p ≠ ByteArray.empty := by rw [h]; exact h0
        have h1 := (deep_kid hcp).1
        rw [hdeep c hcp, h] at h1
        refine ⟨h1, ?_⟩
        rw [← h, ups_of_par hcp hne]
        exact List.mem_cons_self ..
  unfold dirT walkT dirP
  rw [← key]
  generalize allT (visT LL) q = T
  induction T with
  | nil => rfl
  | cons a t ih =>
    rw [List.map_cons, List.filter_cons, List.filter_cons]
    split
    · rw [List.map_cons, List.map_cons, ih]
    · exact ih
end Go.Proofs.YtibekkfbpmloiaaGreatDoor.Recs

/- Queries: Walk, ReadDir, of the model. -/
namespace Go.Proofs.YtibekkfbpmloiaaGreatDoor.Recs
set_option maxRecDepth 100000
open Go.RowKit Paths

def ReadDirL (LL : List (List R)) (q : ByteArray) : List (List UInt8) := if wkC (qR LL q) = 0 then bts (dirT LL q) else []
theorem dirT_80 {LL : List (List R)} {q : ByteArray} (h : codeQ LL q = 0) : (dirT LL q).length ≤ 80 := by
  have h1 := vis_80 h
  have h2 : (kids (visT LL) q).length ≤ (visT LL).length := List.length_filter_le _ _
  unfold dirT
  rw [List.length_map]
  omega
theorem ReadDirL_len (LL : List (List R)) (q : ByteArray) : (ReadDirL LL q).length ≤ 1048576 := by
  unfold ReadDirL
  split
  · rename_i h
    have := dirT_80 (wk_code h)
    rw [bts_len]; omega
  · exact Nat.zero_le _
set_option maxHeartbeats 1600000 in
theorem ReadDir_spec (v : Value) (LL : List (List R)) (q : ByteArray) (w : World) (h : StkSl w v LL) (hl : LL.length ≤ 1048576) (hll : ∀ l ∈ LL, l.length ≤ 1048576) :
    Calls Tryz.prog 15 #[v, .string q] w fun e w' => ∃ z, e = .returned (.tuple #[z, .int .i64 (wkC (qR LL q))]) ∧ Below w.heap.size w w' ∧ w'.ownsRow w.heap.size 9 1 z (ReadDirL LL q).length ((ReadDirL LL q).map strV) := by
  have HA := fun W hb => l10Ask_any v LL q W (h.below hb) hl hll
  have HF := fun W hb hc => l10Find_any v LL q W (h.below hb) hc
  have HI := fun W (hb : Below w.heap.size w W) h5 hok (_ : q.size = 0 ∨ pathB q.data.toList = true) => l10Names_any v LL q W (h.below hb) h5 hok
  have HBAD : Hid (∀ c : Int, wkC (qR LL q) = c → c ≠ 0 → ReadDirL LL q = []) := fun c h1 h2 => if_neg (by rw [h1]; exact h2)
  have hb0 : Below w.heap.size w w := Below.refl _ _
  obtain ⟨vA, vcap, rfl⟩ := h.form
  by_cases h1 : 4096 < LL.length
  · have hd : decide ((4096 : Int) < (LL.length : Int)) = true := decide_eq_true (by omega)
    have HE : Hid (wkC (qR LL q) = 2) := wk_bad (congrArg Prod.snd (qR_bad (cq_bad (st_long (LL := LL) (q := q) (.inl h1)) (by decide)) (by decide))) (by decide)
    have HN := Lib.hid (HBAD.out _ HE.out (by decide))
    clear h1
    go_enter Tryz.func15, Tryz.ntmps15
    go_wp2_with fail
    go_ret2
    exact ⟨_, by rw [HE.out]; rfl, (hb0).alloc (hb0).size _, by rw [HN.out]; exact row_lit (hb0)⟩
  have hd4096 : decide ((4096 : Int) < (LL.length : Int)) = false := decide_eq_false (by omega)
  clear h1
  by_cases h1 : 65536 < q.size
  · have hd : decide ((65536 : Int) < (q.size : Int)) = true := decide_eq_true (by omega)
    have HE : Hid (wkC (qR LL q) = 2) := wk_bad (congrArg Prod.snd (qR_bad (cq_bad (st_long (LL := LL) (q := q) (.inr h1)) (by decide)) (by decide))) (by decide)
    have HN := Lib.hid (HBAD.out _ HE.out (by decide))
    clear h1
    go_enter Tryz.func15, Tryz.ntmps15
    go_wp2_with fail
    go_ret2
    exact ⟨_, by rw [HE.out]; rfl, (hb0).alloc (hb0).size _, by rw [HN.out]; exact row_lit (hb0)⟩
  have hd65536 : decide ((65536 : Int) < (q.size : Int)) = false := decide_eq_false (by omega)
  clear h1
  by_cases h0 : codeQ LL q = 0
  case neg =>
    have HE : Hid (wkC (qR LL q) = codeQ LL q) := wk_bad (congrArg Prod.snd (qR_bad (LL := LL) (q := q) rfl h0)) h0
    have HN := Lib.hid (HBAD.out _ HE.out h0)
    have hd : (codeQ LL q != 0) = true := by simpa using h0
    clear HF HI HBAD
    generalize codeQ LL q = C at *
    clear h0
    go_enter Tryz.func15, Tryz.ntmps15
    go_wp2_with fail
    refine (HA _ hb0).mono ?_
    rintro e w1 ⟨rfl, hb1⟩
    go_wp2_with fail
    go_ret2
    exact ⟨_, by rw [HE.out]; rfl, (hb1).alloc (hb1).size _, by rw [HN.out]; exact row_lit (hb1)⟩
  obtain ⟨ho, hq⟩ := cq_ok h0
  have hst := stack_of ho
  have HQ := Lib.hid (qR_ok h0)
  have HF1 := fun W hb => HF W hb h0
  have HI1 := fun W hb => HI W hb hst.1 hst.2 hq
  rw [h0] at HA
  unfold resQ R.nod at HF1
  clear HF HI h0 ho hq hst
  generalize findQ LL q = F at *
  obtain ⟨⟨r, m⟩, c⟩ := F
  dsimp only at HF1
  by_cases hc : c = 0
  case neg =>
    have HE : Hid (wkC (qR LL q) = c) := wk_bad (by rw [HQ.out]) hc
    have HN := Lib.hid (HBAD.out _ HE.out hc)
    have hd : (c != 0) = true := by simpa using hc
    clear hc HI1 HBAD
    go_enter Tryz.func15, Tryz.ntmps15
    go_wp2_with fail
    refine (HA _ hb0).mono ?_
    rintro e w1 ⟨rfl, hb1⟩
    go_wp2_with fail
    refine (HF1 _ hb1).mono ?_
    rintro e w2 ⟨rfl, hb2⟩
    have c2 := hb1.trans (hb2.mono hb1.size)
    have c3 := c2.alloc c2.size (.cells #[.int .i64 r.k, .string r.p, .string r.b, .int .i64 r.m] 25)
    go_wp2_with fail
    go_ret2
    exact ⟨_, by rw [HE.out]; rfl, c3.alloc c3.size _, by rw [HN.out]; have := row_lit c3; rw [World.size_alloc] at this; exact this⟩
  subst hc
  by_cases hk : r.k = 3
  · have HE : Hid (wkC (qR LL q) = 0) := wk_dir (by rw [HQ.out]) (by rw [HQ.out]; exact hk)
    have HN : Hid (ReadDirL LL q = bts (dirT LL q)) := if_pos HE.out
    have hd : (r.k != 3) = false := by simpa using hk
    clear hk HBAD
    go_enter Tryz.func15, Tryz.ntmps15
    go_wp2_with fail
    refine (HA _ hb0).mono ?_
    rintro e w1 ⟨rfl, hb1⟩
    go_wp2_with fail
    refine (HF1 _ hb1).mono ?_
    rintro e w2 ⟨rfl, hb2⟩
    have c2 := hb1.trans (hb2.mono hb1.size)
    have c3 := c2.alloc c2.size (.cells #[.int .i64 r.k, .string r.p, .string r.b, .int .i64 r.m] 25)
    go_wp2_with fail
    refine (HI1 _ c3).mono ?_
    rintro e w4 ⟨z, rfl, hb4, hz, -⟩
    have HZ := Lib.hid hz
    obtain ⟨zA, zc, hze⟩ := own_form hz
    subst hze
    clear hz
    go_wp2_with fail
    go_ret2
    exact ⟨_, by rw [HE.out]; rfl, c3.trans (hb4.mono c3.size), by rw [HN.out]; exact own_low HZ.out c3.size⟩
  · have HE : Hid (wkC (qR LL q) = 13) := wk_file (by rw [HQ.out]) (by rw [HQ.out]; exact hk)
    have HN := Lib.hid (HBAD.out _ HE.out (by decide))
    have hd : (r.k != 3) = true := by simpa using hk
    clear hk HI1 HBAD
    go_enter Tryz.func15, Tryz.ntmps15
    go_wp2_with fail
    refine (HA _ hb0).mono ?_
    rintro e w1 ⟨rfl, hb1⟩
    go_wp2_with fail
    refine (HF1 _ hb1).mono ?_
    rintro e w2 ⟨rfl, hb2⟩
    have c2 := hb1.trans (hb2.mono hb1.size)
    have c3 := c2.alloc c2.size (.cells #[.int .i64 r.k, .string r.p, .string r.b, .int .i64 r.m] 25)
    go_wp2_with fail
    go_ret2
    exact ⟨_, by rw [HE.out]; rfl, c3.alloc c3.size _, by rw [HN.out]; have := row_lit c3; rw [World.size_alloc] at this; exact this⟩
end Go.Proofs.YtibekkfbpmloiaaGreatDoor.Recs

/- Queries: Walk, ReadDir, of the program. Conditions: the table of kinds, the two sentinels. -/
namespace Go.Proofs.YtibekkfbpmloiaaGreatDoor.Recs
set_option maxRecDepth 100000
open Go.RowKit Paths Errs

theorem parts_deep {q : ByteArray} (hq : q.size = 0 ∨ pathB q.data.toList = true) : (partsOf q.data.toList).length = deep q := by
  unfold partsOf deep
  rcases hq with h | h
  · have : q = ByteArray.empty := ByteArray.ext (Array.eq_empty_of_size_eq_zero h)
    subst this
    rfl
  · rw [h, if_pos rfl, if_neg (path_nonempty h)]
    rfl
theorem walkT_path {LL : List (List R)} (hs : ∀ l ∈ LL, Fine l) {q p : ByteArray} (h : p ∈ walkT LL q) : pathB p.data.toList = true := by
  unfold walkT at h
  obtain ⟨r, hr, rfl⟩ := List.mem_map.1 h
  have : r ∈ visT LL := by
    unfold allT at hr
    split at hr
    · exact hr
    · exact (mem_sub.1 hr).1
  exact (vis_tree hs).path r this
theorem dirP_len (B : List ByteArray) (d : Nat) : (dirP B d).length ≤ B.length := by
  unfold dirP
  rw [List.length_map]
  exact List.length_filter_le _ _
set_option maxHeartbeats 3200000 in
theorem ReadDir_impl (v : Value) (LL : List (List R)) (q : ByteArray) (x y : Addr) (w : World) (h : StkSl w v LL) (hl : LL.length ≤ 1048576) (hr : ∀ l ∈ LL, l.length ≤ 1048576 ∧ ∀ r ∈ l, r.p.size ≤ maxLen) (hqm : q.size ≤ maxLen) (hT : Three w x y) :
    Calls Tryz.prog 16 #[v, .string q] w fun e w' => ∃ z, e = .returned (.tuple #[z, .int .i64 (wkC (qR LL q))]) ∧ Below w.heap.size w w' ∧ w'.ownsRow w.heap.size 9 1 z (ReadDirL LL q).length ((ReadDirL LL q).map strV) := by
  obtain ⟨i0, hi, hz0, hz1, hz2⟩ := info_parts strInfo
  have HW := Walk_impl v LL q x y w h hl hr hqm hT
  have HSP := fun W => splitPath_any q W hqm
  -- the rows of Walk, as paths; none where the code says so
  obtain ⟨B, hB, hBL, hBP, hB80⟩ : ∃ B : List ByteArray, WalkL LL q = bts B ∧ bts (dirP B (partsOf q.data.toList).length) = ReadDirL LL q ∧ (∀ p ∈ B, pathB p.data.toList = true) ∧ B.length ≤ 80 := by
    by_cases h0 : wkC (qR LL q) = 0
    · have hcq := wk_code h0
      obtain ⟨ho, hq⟩ := cq_ok hcq
      have hs : ∀ l ∈ LL, Fine l := fun l hm => fine_layer ((stack_of ho).2 l hm)
      refine ⟨walkT LL q, if_pos h0, ?_, fun p hp => walkT_path hs hp, walkT_80 hcq⟩
      rw [parts_deep hq, dir_all hs hq]
      exact (if_pos h0).symm
    · exact ⟨[], if_neg h0, (if_neg h0 : ReadDirL LL q = []).symm, (fun p hp => by cases hp), Nat.zero_le _⟩
  have HBL := Lib.hid hBL
  have HBP := Lib.hid hBP
  rw [hB] at HW
  have hd4 : (partsOf q.data.toList).length ≤ 4 := by
    unfold partsOf
    split
    · exact (pathB_parts (by assumption)).1
    · simp
  have HDL := Lib.hid (fun k => dirP_len (B.take k) (partsOf q.data.toList).length)
  obtain ⟨vA, vcap, rfl⟩ := h.form
  clear hB hBL hBP h
  generalize wkC (qR LL q) = C at *
  go_enter Tryz.func16, Tryz.ntmps16
  go_wp2_with fail
  refine HW.mono ?_
  rintro e w1 ⟨z, rfl, hb1, hz⟩
  have HKC : Hid (∀ W, Below w1.heap.size w1 W → ∀ i (hi : i < B.length), ∃ g cap, z = .slice (some ⟨g, 0, none⟩) (bts B).length cap ∧ W.cell? ⟨g, i, none⟩ = some (.string B[i])) := fun W hW i hi => by
    have ho := own_below hz hW
    obtain ⟨A2, c2, e2, _, hc2⟩ := part_sl ho
    obtain ⟨g, eg, _, hcell⟩ := hc2 (by rw [bts_len]; omega)
    refine ⟨g, c2, by rw [e2, eg], ?_⟩
    have := hcell i (by rw [bts_len]; exact hi)
    rw [this]
    unfold bts
    simp only [List.getElem_map]
    rfl
  obtain ⟨zA, zc, hze⟩ := own_form hz
  subst hze
  have HBN : Hid ((bts B).length = B.length) := bts_len B
  clear hz
  rw [HBN.out]
  go_wp2_with fail
  refine (HSP _).mono ?_
  rintro e w2 ⟨v2, rfl, hb2, hown2, -, -⟩
  obtain ⟨pA, pc, hve⟩ := own_form hown2
  subst hve
  have c2 := hb1.trans (hb2.mono hb1.size)
  clear hown2 HSP
  generalize (partsOf q.data.toList).length = D at *
  go_wp2_with fail
  go_loopw [9, 24] (fun f i wr => ∃ (k : Nat) (M : List ByteArray), k ≤ B.length ∧ i = .int .i64 k ∧ Hid (M = dirP (B.take k) D) ∧ Hid (wr.ownsRow w2.heap.size 9 1 f (bts M).length ((bts M).map strV)) ∧ Below w2.heap.size w2 wr) (fun _ i _ => B.length - (intOf i).toNat)
  case atStart => exact ⟨0, [], by omega, rfl, rfl, row_none _, Below.refl _ _⟩
  case round =>
    obtain ⟨k, M, hk, rfl, HM, HRO, hbw⟩ := hrel
    have hbv := c2.trans (hbw.mono c2.size)
    have hbz := hb2.trans (hbw.mono hb2.size)
    obtain ⟨fA, fcap, hfe⟩ := own_form HRO.out
    subst hfe
    by_cases hlt : k < B.length
    · obtain ⟨g, cap, hge, e1⟩ := HKC.out wr hbz k hlt
      cases hge
      have HST := Lib.hid (dir_step hlt D)
      have hp := HBP.out _ (List.getElem_mem hlt)
      have hMl : (bts M).length ≤ 80 := by
        rw [bts_len, HM.out]
        have := HDL.out k
        rw [List.length_take] at this
        omega
      have hi1 : (k : Int) < (B.length : Int) := by omega
      have hi0 : (0 : Int) ≤ (k : Int) := by omega
      have hK1 : k + 1 ≤ B.length := hlt
      generalize B[k] = p at *
      have HSPp := fun W => splitPath_any p W (path_max hp)
      have hpe : partsOf p.data.toList = cutAt 47 p.data.toList := by unfold partsOf; rw [hp, if_pos rfl]
      have h4 := (pathB_parts hp).1
      have hcp := cutAt_pos 47 p.data.toList
      clear hlt hp
      go_wp2_with fail
      refine (HSPp _).mono ?_
      rintro e w3 ⟨v3, rfl, hb3, hown3, -, -⟩
      rw [hpe] at hown3
      have c3 := hbw.trans (hb3.mono hbw.size)
      obtain ⟨qA, qc, rfl, hqc, hpv⟩ := part_sl hown3
      obtain ⟨g3, rfl, hg3, hpcell⟩ := hpv hcp
      have cl := cut_last hpcell
      have HR3 := Lib.hid (own_below HRO.out hb3)
      have HNPx : Hid (nparts p = (cutAt 47 p.data.toList).length) := rfl
      clear hpcell hpv hown3 hpe HSPp
      generalize (cutAt 47 p.data.toList).length = L at *
      by_cases hL : L = D + 1
      · have HNX : Hid (M ++ [lastB p] = dirP (B.take (k + 1)) D) := by show _ = _; rw [HST.out, if_pos (by rw [HNPx.out]; exact hL), HM.out]
        have hdl : ((L : Int) == (D : Int) + 1) = true := by simp; omega
        have hcl : w3.cell? ⟨g3, D, none⟩ = some (.string (lastB p)) := by rw [← cl]; congr 2; omega
        have hi2 : (D : Int) < (L : Int) := by omega
        have hi3 : (0 : Int) ≤ (D : Int) := by omega
        have hzz := c3.size
        clear cl hL
        go_wp2_with (first
          | (at_builtin; refine wpList_append_own _ rfl _ _ 33 rfl w2.heap.size 9 i0 (.string ByteArray.empty) 1 16 Tryz.underlying33 hi hz0 hz1 hz2 rfl (by decide) _ _ _ rfl (HR3.out.alloc _) ⟨w3.heap.size, 0, none⟩ 1 1 [.string (lastB p)] rfl rfl (cell_one_new _ _ _) (fun x hx => by simp at hx; subst hx; rfl) (by unfold maxLen; omega) (by omega) (by simp; omega) ?_; intro v' w9 hown' hgrow9 hnil9))
        exact ⟨⟨k + 1, M ++ [lastB p], by omega, by go_num, HNX, by
          show World.ownsRow _ _ _ _ _ _ _
          rw [bts_snoc]
          exact own_snoc hown', (c3.alloc c3.size _).grown hgrow9 (c3.alloc c3.size _).size (fun j hj => (HR3.out.lt j hj).1)⟩, by simp [intOf]; omega⟩
      · have HNX : Hid (M = dirP (B.take (k + 1)) D) := by show _ = _; rw [HST.out, if_neg (by rw [HNPx.out]; exact hL), HM.out]
        have hdl : ((L : Int) == (D : Int) + 1) = false := by simp; omega
        clear cl hL
        go_wp2_with fail
        exact ⟨⟨k + 1, M, by omega, by go_num, HNX, HR3.out, c3⟩, by simp [intOf]; omega⟩
    · have HFI : Hid (bts M = ReadDirL LL q) := by show _ = _; rw [← HBL.out, HM.out, List.take_of_length_le (by omega)]
      have hi1 : ¬ ((k : Int) < (B.length : Int)) := by omega
      go_wp2
      go_ret2
      exact ⟨_, rfl, hbv, by rw [← HFI.out]; exact own_low HRO.out c2.size⟩
end Go.Proofs.YtibekkfbpmloiaaGreatDoor.Recs
