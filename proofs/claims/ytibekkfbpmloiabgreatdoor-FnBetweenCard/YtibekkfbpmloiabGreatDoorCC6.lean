/- Parts of several texts of mine in one file (each begins with its own remark). -/
import Derived.Test.YtibekkfbpmloiabGreatDoorCA1
import Derived.Test.YtibekkfbpmloiabGreatDoorCA10
import Derived.Test.YtibekkfbpmloiabGreatDoorCA15
import Derived.Test.YtibekkfbpmloiabGreatDoorCA17
import Derived.Test.YtibekkfbpmloiabGreatDoorCA2
import Derived.Test.YtibekkfbpmloiabGreatDoorCA3
import Derived.Test.YtibekkfbpmloiabGreatDoorCA4
import Derived.Test.YtibekkfbpmloiabGreatDoorCA5
import Derived.Test.YtibekkfbpmloiabGreatDoorCA6
import Derived.Test.YtibekkfbpmloiabGreatDoorCA7
import Derived.Test.YtibekkfbpmloiabGreatDoorCA9
import Derived.Test.YtibekkfbpmloiabGreatDoorCC1
import Derived.Test.YtibekkfbpmloiabGreatDoorCC2
import Derived.Test.YtibekkfbpmloiabGreatDoorCC4
import Derived.Test.YtibekkfbpmloiabGreatDoorChecked
import Derived.Test.YtibekkfbpmloiabGreatDoorRows
import Derived.Test.YtibekkfbpmloiabGreatDoorProg
import Derived.Test.YtibekkfbpmloiabGreatDoorShelf
import Derived.Test.YtibekkfbpmloiabGreatDoorShelf2
import Derived.Deep.RegionHeld3
import Derived.Deep.RegionWith
import Derived.OneCell
import Derived.Lib.SliceRun
import Derived.Laws.OwnMore
import Derived.Deep.Slices
import Derived.OpenShut
import Derived.ShutString
import Derived.ChangeArms
import Derived.WideShapes
import Derived.Lib.LaidTab
import Derived.BigQuiet
import Derived.Deep.QuietTactic
import Derived.StillTailTactics
import Derived.Deep.Draws
import Derived.Deep.LoopGhost
import Derived.WalkKit
import Derived.WalkSpells
import Derived.WalkSmall
import Derived.Lib.OthersKept
import Derived.Lib.Hide
import Derived.Lib.Strings
import Derived.Lib.Join
import Derived.Laws.BytesArg
import Derived.BigRegion
import Derived.Lib.Overlaps
import Derived.Lib.AppendZerosOnto
import Derived.Laws.NewBlocks
import Derived.Laws.IdiomCopy
import Derived.Deep.RegionLaw
import Derived.ChangeVars
import Derived.Deep.DeepHandedRow
import Derived.LaidEql
import Derived.Stop.Asserts
import Derived.Below
import Derived.Stop.LaidErr
import Derived.Stop.LaidTwo
import Derived.WalkLawsBesides
import Derived.Shelf.SlSortCmp.NoneTotal
import Derived.Sort.OwnSorted
import Derived.RangeFuncNested
import Derived.RangeFuncBound
import Derived.RangeFuncCalls
import Derived.RangeFuncLeaves
import Derived.RangeFuncBox
import Derived.Shelf.Abstract
import Derived.Shelf.RegionOpen
import Derived.OwnWalkIn
import Derived.TacticsInMore
import Derived.LoopNIn
import Derived.LoopIn
import Derived.Maps.OwnIn
import Derived.Maps.AppendAt
import Derived.Sort.MapsRangeIn
import Derived.Sort.KeysCollected
import Derived.Laws.IdiomRangeMap
import Derived.Maps.RangeWalk
import Derived.Maps.Ext
import Derived.Lib.SlMapFilter
import Derived.Deep.Cut
import Derived.Deep.CutRange
import Derived.Deep.CutBlock
import Derived.Sort.Grow
import Derived.Deep.AppendLies
import Derived.Laws.EntriesVeiled
/- growTree, of the program: the errors, or the tree in memory. Conditions: the table of kinds, the two sentinels. -/
namespace Go.Proofs.YtibekkfbpmloiabGreatDoor.Recs
set_option maxRecDepth 100000
open Go.RowKit Paths Errs

def growK (l : List R) : EN := if 4096 < l.length then .long else if treeOK l then .fine else .inv
theorem grow_long {l : List R} (h : 4096 < l.length) : growK l = .long := if_pos h
theorem grow_inv {l : List R} (h : ¬ 4096 < l.length) (hb : ¬ Tree l) : growK l = .inv := by
  unfold growK
  rw [if_neg h, if_neg (fun e => hb (tree_of e))]
theorem grow_fine {l : List R} (h : Tree l) : growK l = .fine := by
  unfold growK
  have := h.len
  rw [if_neg (by omega), if_pos (treeOK_of h)]
/-- What growTree leaves. -/
def GrowPost (l : List R) (x y : Addr) (w : World) (e : Ending) (w' : World) : Prop :=
  Below w.heap.size w w' ∧ ((growK l ≠ .fine ∧ e = .returned (.tuple #[.pointer none, (growK l).val x y])) ∨
    (growK l = .fine ∧ ∃ A S, e = .returned (.tuple #[ptr (A ByteArray.empty), .nilIface]) ∧ Tr w' w.heap.size A S l))
theorem tr_start (w : World) : Tr (w.alloc (.cells #[.string ⟨#[]⟩, .int .i64 3, .string ⟨#[]⟩, .string ⟨#[]⟩, .int .i64 0, .slice none 0 0] 197)) w.heap.size (fun _ => w.heap.size) (fun _ => .slice none 0 0) [] := by
  have one : ∀ r ∈ rootR :: ([] : List R), r = rootR := fun r hr => by simpa using hr
  refine ⟨fun r hr => ?_, fun _ _ => Nat.le_refl _, fun r hr => World.ownsRow_nil _ _ _ _, fun r hr x hx hne => absurd (by rw [one r hr, one x hx]) hne⟩
  rw [one r hr]
  exact alloc_at w _
set_option maxHeartbeats 3200000 in
theorem growTree_any (v : Value) (l : List R) (x y : Addr) (w : World) (h : NodSl w v l) (hl : l.length ≤ 1048576) (hr : ∀ r ∈ l, r.p.size ≤ maxLen) (hT : Three w x y) :
    Calls Tryz.prog 130 #[v] w (GrowPost l x y w) := by
  obtain ⟨ho, sA, cap, rfl, hcap, h⟩ := h
  have hx := hT.long
  have hy := hT.bad
  unfold errV at hx hy
  by_cases h4 : 4096 < l.length
  · have HP : Hid (∀ w', Below w.heap.size w w' → GrowPost l x y w (.returned (.tuple #[.pointer none, errV x])) w') := fun w' hb => ⟨hb, .inl ⟨by rw [grow_long h4]; simp, by rw [grow_long h4]; rfl⟩⟩
    have hd : decide ((4096 : Int) < (l.length : Int)) = true := by simp; omega
    go_enter Tryz.func130, Tryz.ntmps130
    go_wp2
    go_quiet (fail)
    go_wp2
    go_ret2
    exact HP.out _ (below_drewN (Below.refl _ _) _)
  have hd4 : decide ((4096 : Int) < (l.length : Int)) = false := by simp; omega
  by_cases h24 : 24 < l.length
  · have hg := grow_inv h4 (fun h : Tree l => by have := h.len; omega)
    have HP : Hid (∀ w', Below w.heap.size w w' → GrowPost l x y w (.returned (.tuple #[.pointer none, errV y])) w') := fun w' hb => ⟨hb, .inl ⟨by rw [hg]; simp, by rw [hg]; rfl⟩⟩
    have hd : decide ((24 : Int) < (l.length : Int)) = true := by simp; omega
    clear hg
    go_enter Tryz.func130, Tryz.ntmps130
    go_wp2
    go_quiet (fail)
    go_wp2
    go_ret2
    exact HP.out _ (below_drewN (Below.refl _ _) _)
  have hd24 : decide ((24 : Int) < (l.length : Int)) = false := by simp; omega
  have HP : Hid (∀ w', ¬ Tree l → Below w.heap.size w w' → GrowPost l x y w (.returned (.tuple #[.pointer none, errV y])) w') := fun w' hb hbw => by
    have hg := grow_inv h4 hb
    exact ⟨hbw, .inl ⟨by rw [hg]; simp, by rw [hg]; rfl⟩⟩
  have H := Lib.hid h
  have HO := Lib.hid ho
  have HT := Lib.hid hT
  have HR := Lib.hid hr
  have h24' : l.length ≤ 24 := by omega
  have hb0 : Below w.heap.size w (w.alloc (.cells #[.string ⟨#[]⟩, .int .i64 3, .string ⟨#[]⟩, .string ⟨#[]⟩, .int .i64 0, .slice none 0 0] 197)) := (Below.refl _ _).alloc (Nat.le_refl _) _
  clear h ho hT hr h4 h24 hx hy
  go_enter Tryz.func130, Tryz.ntmps130
  go_wp2
  go_loopw [23] (fun i wr => ∃ (k : Nat) (A : ByteArray → Nat) (S : ByteArray → Value), k ≤ l.length ∧ i = .int .i64 k ∧ Hid (Tree (l.take k)) ∧ Hid (Tr wr w.heap.size A S (l.take k)) ∧ Hid (A ByteArray.empty = w.heap.size) ∧ Below w.heap.size w wr) (fun i _ => l.length - (intOf i).toNat)
  case atStart => exact ⟨0, _, _, by omega, rfl, tree_nil, tr_start w, rfl, hb0⟩
  case round =>
    obtain ⟨k, A, S, hk, rfl, HTk, HTr, HA, hbw⟩ := hrel
    by_cases hlt : k < l.length
    · obtain ⟨b, off, rfl, hb, hcell⟩ := H.out (by omega)
      obtain ⟨c0, c1, c2, c3⟩ := (hcell k l[k] (by simp [hlt])).below hbw hb
      have hi1 : (k : Int) < (l.length : Int) := by omega
      have hi0 : (0 : Int) ≤ (k : Int) := by omega
      have hm := List.getElem_mem hlt
      have hq := HR.out _ hm
      have hko := HO.out _ hm
      go_wp2_with fail
      have a0 : (wr.alloc (.cells #[.int .i64 l[k].k, .string l[k].p, .string l[k].b, .int .i64 l[k].m] 68)).cell? ⟨wr.heap.size, 0, none⟩ = some (.int .i64 l[k].k) := by go_simp
      have a1 : (wr.alloc (.cells #[.int .i64 l[k].k, .string l[k].p, .string l[k].b, .int .i64 l[k].m] 68)).cell? ⟨wr.heap.size, 1, none⟩ = some (.string l[k].p) := by go_simp
      have a2 : (wr.alloc (.cells #[.int .i64 l[k].k, .string l[k].p, .string l[k].b, .int .i64 l[k].m] 68)).cell? ⟨wr.heap.size, 2, none⟩ = some (.string l[k].b) := by go_simp
      have a3 : (wr.alloc (.cells #[.int .i64 l[k].k, .string l[k].p, .string l[k].b, .int .i64 l[k].m] 68)).cell? ⟨wr.heap.size, 3, none⟩ = some (.int .i64 l[k].m) := by go_simp
      have hbA : Below wr.heap.size wr (wr.alloc (.cells #[.int .i64 l[k].k, .string l[k].p, .string l[k].b, .int .i64 l[k].m] 68)) := (Below.refl _ _).alloc (Nat.le_refl _) _
      have hzA : (wr.alloc (.cells #[.int .i64 l[k].k, .string l[k].p, .string l[k].b, .int .i64 l[k].m] 68)).heap.size = wr.heap.size + 1 := by simp
      generalize wr.alloc (.cells #[.int .i64 l[k].k, .string l[k].p, .string l[k].b, .int .i64 l[k].m] 68) = W at *
      clear c0 c1 c2 c3
      rcases Nat.eq_zero_or_pos k with h0 | h0
      · have hgt0 : decide ((0 : Int) < (k : Int)) = false := by simp; omega
        have hgt1 : decide (0 < k) = false := by simp; omega
        have hgt2 : ¬ 0 < k := by omega
        have H0 := Lib.hid h0
        clear h0
        go_wp2
        go_quiet (fail)
        have hbD : Below W.heap.size W (W.drewN nq) := below_drewN (Below.refl _ _) nq
        have hTW := HT.out.below (hbw.trans ((hbA.trans (hbD.mono hbA.size)).mono hbw.size)) (Nat.le_refl _)
        have hzW : wr.heap.size < W.heap.size := by omega
        have b0 := (hbD.cell (p := ⟨wr.heap.size, 0, none⟩) hzW).trans a0
        have b1 := (hbD.cell (p := ⟨wr.heap.size, 1, none⟩) hzW).trans a1
        have b2 := (hbD.cell (p := ⟨wr.heap.size, 2, none⟩) hzW).trans a2
        have b3 := (hbD.cell (p := ⟨wr.heap.size, 3, none⟩) hzW).trans a3
        have d1 := hbA.trans (hbD.mono hbA.size)
        have HCN := checkNode_any l[k] hko hq x y _ hTW
        unfold R.nod at HCN
        clear hTW
        go_wp2_with fail
        refine HCN.mono ?_
        rintro e w2 ⟨rfl, hb2⟩
        have d2 := d1.trans (hb2.mono d1.size)
        have e2 := hbw.trans (d2.mono hbw.size)
        rcases Bool.eq_false_or_eq_true (nodeK l[k]) with hnk | hnk
        case inr =>
          have HV : Hid (nodeV l[k] y = errV y) := by show _ = _; unfold nodeV; rw [hnk]; rfl
          have HB : Hid (¬ Tree l) := fun ht => by
            obtain ⟨_, g1, g2, _⟩ := grow_all ht hlt
            unfold nodeK at hnk
            rw [decide_eq_true g1, g2] at hnk
            cases hnk
          have HPF := Lib.hid (HP.out w2 HB.out e2)
          rw [HV.out]
          unfold errV at HPF ⊢
          clear hnk
          go_wp2_with fail
          go_ret2
          exact HPF.out
        have HV : Hid (nodeV l[k] y = .nilIface) := by show _ = _; unfold nodeV; rw [hnk]; rfl
        have hnk4 : l[k].k ≠ 4 ∧ l[k].fault = 0 := by
          unfold nodeK at hnk
          simpa using hnk
        have HNK := Lib.hid hnk4
        have hpath := (fault_path hnk4.2).1
        clear hnk hnk4
        rw [HV.out]
        have hzw2 : wr.heap.size < W.heap.size := by omega
        have r1 := (hb2.cell (p := ⟨wr.heap.size, 1, none⟩) (Nat.lt_of_lt_of_le hzW hbD.size)).trans b1
        have hTr2 := HTr.out.below d2
        have HPL := placeFor_any hTr2 HTk.out.is (by rw [List.length_take]; omega) l[k].p hq hpath
        rw [HA.out] at HPL
        unfold ptr at HPL
        clear b0 b2 b3
        go_wp2_with fail
        refine HPL.mono ?_
        rintro e w3 ⟨rfl, hb3⟩
        have d3 := d2.trans (hb3.mono d2.size)
        have e3 := hbw.trans (d3.mono hbw.size)
        by_cases hpc : placeC (l.take k) l[k].p = 0
        case neg =>
          have HB : Hid (¬ Tree l) := fun ht => hpc (grow_all ht hlt).2.2.2
          have HPF := Lib.hid (HP.out w3.drew HB.out e3.drew)
          have hd : (placeC (l.take k) l[k].p != 0) = true := by simpa using hpc
          have hy3 := (HT.out.below e3 (Nat.le_refl _)).bad
          unfold placeV
          rw [if_neg hpc]
          unfold errV at hy3 HPF
          clear hpc
          go_wp2
          go_quiet (fail)
          go_wp2
          go_ret2
          exact ⟨⟨HPF.out.1.os, HPF.out.1.tape, HPF.out.1.output, HPF.out.1.size, HPF.out.1.block⟩, HPF.out.2.imp id (fun h => by have h1 := h.2; obtain ⟨_, _, h2, _⟩ := h1; cases h2)⟩
        obtain ⟨xr, hxm, hxp⟩ := (place_home hpath hpc).1
        obtain ⟨hTk1, hput⟩ := grow_good hlt HTk.out h24' (.inl H0.out) HNK.out.1 HNK.out.2 hpc
        have hnew := (place_ok hpc).1
        have s0 := (hbD.cell (p := ⟨wr.heap.size, 0, none⟩) hzW).trans a0
        have hTr3 := hTr2.below hb3
        have hzw3 : wr.heap.size < w2.heap.size := Nat.lt_of_lt_of_le hzW (Nat.le_trans hbD.size hb2.size)
        have hww : W.heap.size ≤ w3.heap.size := Nat.le_trans hbD.size (Nat.le_trans hb2.size hb3.size)
        have hbW3 : Below W.heap.size W w3 := (hbD.trans (hb2.mono hbD.size)).trans (hb3.mono (Nat.le_trans hbD.size hb2.size))
        have q0 := (hbW3.cell (p := ⟨wr.heap.size, 0, none⟩) hzW).trans a0
        have q1 := (hbW3.cell (p := ⟨wr.heap.size, 1, none⟩) hzW).trans a1
        have q2 := (hbW3.cell (p := ⟨wr.heap.size, 2, none⟩) hzW).trans a2
        have q3 := (hbW3.cell (p := ⟨wr.heap.size, 3, none⟩) hzW).trans a3
        have HAT := attach_any hTr3 HTk.out.is (by rw [List.length_take]; omega) hpath hq hxm hxp hnew
        rw [hxp] at HAT
        unfold ptr R.nod at HAT
        have HPUT := Lib.hid hput
        have HTK1 := Lib.hid hTk1
        unfold placeV
        rw [hpc, if_pos rfl]
        clear hpc hput hTk1 hxm hxp hnew s0
        go_wp2_with fail
        refine HAT.mono ?_
        rintro e w4 ⟨⟨v4, rfl⟩, A', S', hTr4, hb4, hA4⟩
        rw [HPUT.out] at hTr4
        go_wp2_with fail
        exact ⟨⟨k + 1, A', S', by omega, by go_num, HTK1, hTr4, hA4.trans HA.out, e3.trans hb4⟩, by simp [intOf]; omega⟩
      · obtain ⟨j, rfl⟩ : ∃ j, k = j + 1 := ⟨k - 1, by omega⟩
        obtain ⟨_, p1, _, _⟩ := (hcell j (l[j]'(by omega)) (List.getElem?_eq_getElem (by omega))).below (hbw.trans (hbA.mono hbw.size)) hb
        have hq0 := HR.out _ (List.getElem_mem (show j < l.length by omega))
        have HPL := fun w' => pathLess_impl (l[j]'(by omega)).p l[j + 1].p w' hq0 hq
        have hbl : b < W.heap.size := Nat.lt_of_lt_of_le hb (hbw.trans (hbA.mono hbw.size)).size
        have hzl : wr.heap.size < W.heap.size := by omega
        have hj1 : (j : Int) < (l.length : Int) := by omega
        have hj0 : (0 : Int) ≤ (j : Int) := by omega
        have hgt : decide ((0 : Int) < (j : Int) + 1) = true := decide_eq_true (by omega)
        have hw1 : IntKind.i64.wrap ((j : Int) + 1 - 1) = (j : Int) := by rw [IntKind.wrap_i64]; omega
        have hw2 : IntKind.i64.wrap (j : Int) = (j : Int) := by rw [IntKind.wrap_i64]; omega
        rcases Bool.eq_false_or_eq_true (lessB (l[j]'(by omega)).p l[j + 1].p) with hls | hls
        case inr =>
          have HB : Hid (¬ Tree l) := fun ht => by
            rcases (grow_all ht hlt).1 with h | ⟨_, h⟩
            · omega
            · have e : (l[j + 1 - 1]'(by omega)) = l[j]'(by omega) := rfl
              rw [e, hls] at h; cases h
          rw [hls] at HPL
          go_wp2
          go_region_held3 (fun w' => w'.cell? ⟨b, off + j * 4 + 1, none⟩ = some (.string (l[j]'(by omega)).p) ∧ w'.cell? ⟨wr.heap.size, 1, none⟩ = some (.string l[j + 1].p)) (first | exact ⟨p1, a1⟩ | exact ⟨(hb1.cell (p := ⟨b, off + j * 4 + 1, none⟩) hbl).trans p1, (hb1.cell (p := ⟨wr.heap.size, 1, none⟩) hzl).trans a1⟩ | go_keep) (first | (go_at_call 44; refine (HPL _).mono ?_; rintro e w1 ⟨rfl, hb1⟩))
          replace hb1 : Below W.heap.size W w1 := ((Below.refl W.heap.size W).drew).trans hb1
          have d1 := hbA.trans (hb1.mono hbA.size)
          have e1 := hbw.trans (d1.mono hbw.size)
          have hy1 := (HT.out.below e1 (Nat.le_refl _)).bad
          have HPF := Lib.hid (HP.out w1.drew HB.out e1.drew)
          unfold errV at hy1 HPF
          go_wp2
          go_quiet (fail)
          go_wp2
          go_ret2
          exact ⟨⟨HPF.out.1.os, HPF.out.1.tape, HPF.out.1.output, HPF.out.1.size, HPF.out.1.block⟩, HPF.out.2.imp id (fun h => by have h1 := h.2; obtain ⟨_, _, h2, _⟩ := h1; cases h2)⟩
        rw [hls] at HPL
        have HLS : Hid (j + 1 = 0 ∨ ∃ h : 0 < j + 1, lessB (l[j + 1 - 1]'(by omega)).p l[j + 1].p = true) := .inr ⟨by omega, hls⟩
        clear hls
        go_wp2
        go_region_held3 (fun w' => w'.cell? ⟨b, off + j * 4 + 1, none⟩ = some (.string (l[j]'(by omega)).p) ∧ w'.cell? ⟨wr.heap.size, 1, none⟩ = some (.string l[j + 1].p)) (first | exact ⟨p1, a1⟩ | exact ⟨(hb1.cell (p := ⟨b, off + j * 4 + 1, none⟩) hbl).trans p1, (hb1.cell (p := ⟨wr.heap.size, 1, none⟩) hzl).trans a1⟩ | go_keep) (first | (go_at_call 44; refine (HPL _).mono ?_; rintro e w1 ⟨rfl, hb1⟩))
        replace hb1 : Below W.heap.size W w1 := ((Below.refl W.heap.size W).drew).trans hb1
        have hTW := HT.out.below (hbw.trans ((hbA.trans (hb1.mono hbA.size)).mono hbw.size)) (Nat.le_refl _)
        have hzW : wr.heap.size < W.heap.size := by omega
        have b0 := (hb1.cell (p := ⟨wr.heap.size, 0, none⟩) hzW).trans a0
        have b1 := (hb1.cell (p := ⟨wr.heap.size, 1, none⟩) hzW).trans a1
        have b2 := (hb1.cell (p := ⟨wr.heap.size, 2, none⟩) hzW).trans a2
        have b3 := (hb1.cell (p := ⟨wr.heap.size, 3, none⟩) hzW).trans a3
        have d1 := hbA.trans (hb1.mono hbA.size)
        have HCN := checkNode_any l[j + 1] hko hq x y _ hTW
        unfold R.nod at HCN
        clear hTW
        go_wp2_with fail
        refine HCN.mono ?_
        rintro e w2 ⟨rfl, hb2⟩
        have d2 := d1.trans (hb2.mono d1.size)
        have e2 := hbw.trans (d2.mono hbw.size)
        rcases Bool.eq_false_or_eq_true (nodeK l[j + 1]) with hnk | hnk
        case inr =>
          have HV : Hid (nodeV l[j + 1] y = errV y) := by show _ = _; unfold nodeV; rw [hnk]; rfl
          have HB : Hid (¬ Tree l) := fun ht => by
            obtain ⟨_, g1, g2, _⟩ := grow_all ht hlt
            unfold nodeK at hnk
            rw [decide_eq_true g1, g2] at hnk
            cases hnk
          have HPF := Lib.hid (HP.out w2 HB.out e2)
          rw [HV.out]
          unfold errV at HPF ⊢
          clear hnk
          go_wp2_with fail
          go_ret2
          exact HPF.out
        have HV : Hid (nodeV l[j + 1] y = .nilIface) := by show _ = _; unfold nodeV; rw [hnk]; rfl
        have hnk4 : l[j + 1].k ≠ 4 ∧ l[j + 1].fault = 0 := by
          unfold nodeK at hnk
          simpa using hnk
        have HNK := Lib.hid hnk4
        have hpath := (fault_path hnk4.2).1
        clear hnk hnk4
        rw [HV.out]
        have hzw2 : wr.heap.size < W.heap.size := by omega
        have r1 := (hb2.cell (p := ⟨wr.heap.size, 1, none⟩) (Nat.lt_of_lt_of_le hzW hb1.size)).trans b1
        have hTr2 := HTr.out.below d2
        have HPL := placeFor_any hTr2 HTk.out.is (by rw [List.length_take]; omega) l[j + 1].p hq hpath
        rw [HA.out] at HPL
        unfold ptr at HPL
        clear b0 b2 b3
        go_wp2_with fail
        refine HPL.mono ?_
        rintro e w3 ⟨rfl, hb3⟩
        have d3 := d2.trans (hb3.mono d2.size)
        have e3 := hbw.trans (d3.mono hbw.size)
        by_cases hpc : placeC (l.take (j + 1)) l[j + 1].p = 0
        case neg =>
          have HB : Hid (¬ Tree l) := fun ht => hpc (grow_all ht hlt).2.2.2
          have HPF := Lib.hid (HP.out w3.drew HB.out e3.drew)
          have hd : (placeC (l.take (j + 1)) l[j + 1].p != 0) = true := by simpa using hpc
          have hy3 := (HT.out.below e3 (Nat.le_refl _)).bad
          unfold placeV
          rw [if_neg hpc]
          unfold errV at hy3 HPF
          clear hpc
          go_wp2
          go_quiet (fail)
          go_wp2
          go_ret2
          exact ⟨⟨HPF.out.1.os, HPF.out.1.tape, HPF.out.1.output, HPF.out.1.size, HPF.out.1.block⟩, HPF.out.2.imp id (fun h => by have h1 := h.2; obtain ⟨_, _, h2, _⟩ := h1; cases h2)⟩
        obtain ⟨xr, hxm, hxp⟩ := (place_home hpath hpc).1
        obtain ⟨hTk1, hput⟩ := grow_good hlt HTk.out h24' HLS.out HNK.out.1 HNK.out.2 hpc
        have hnew := (place_ok hpc).1
        have s0 := (hb1.cell (p := ⟨wr.heap.size, 0, none⟩) hzW).trans a0
        have hTr3 := hTr2.below hb3
        have hzw3 : wr.heap.size < w2.heap.size := Nat.lt_of_lt_of_le hzW (Nat.le_trans hb1.size hb2.size)
        have hww : W.heap.size ≤ w3.heap.size := Nat.le_trans hb1.size (Nat.le_trans hb2.size hb3.size)
        have hbW3 : Below W.heap.size W w3 := (hb1.trans (hb2.mono hb1.size)).trans (hb3.mono (Nat.le_trans hb1.size hb2.size))
        have q0 := (hbW3.cell (p := ⟨wr.heap.size, 0, none⟩) hzW).trans a0
        have q1 := (hbW3.cell (p := ⟨wr.heap.size, 1, none⟩) hzW).trans a1
        have q2 := (hbW3.cell (p := ⟨wr.heap.size, 2, none⟩) hzW).trans a2
        have q3 := (hbW3.cell (p := ⟨wr.heap.size, 3, none⟩) hzW).trans a3
        have HAT := attach_any hTr3 HTk.out.is (by rw [List.length_take]; omega) hpath hq hxm hxp hnew
        rw [hxp] at HAT
        unfold ptr R.nod at HAT
        have HPUT := Lib.hid hput
        have HTK1 := Lib.hid hTk1
        unfold placeV
        rw [hpc, if_pos rfl]
        clear hpc hput hTk1 hxm hxp hnew s0
        go_wp2_with fail
        refine HAT.mono ?_
        rintro e w4 ⟨⟨v4, rfl⟩, A', S', hTr4, hb4, hA4⟩
        rw [HPUT.out] at hTr4
        go_wp2_with fail
        exact ⟨⟨j + 1 + 1, A', S', by omega, by go_num, HTK1, hTr4, hA4.trans HA.out, e3.trans hb4⟩, by simp [intOf]; omega⟩
    · obtain rfl : k = l.length := by omega
      have hTl : Tree l := by have := HTk.out; rwa [List.take_length] at this
      have hTrl : Tr wr w.heap.size A S l := by have := HTr.out; rwa [List.take_length] at this
      have HF : Hid (GrowPost l x y w (.returned (.tuple #[.pointer (some ⟨w.heap.size, 0, none⟩), .nilIface])) wr) := by
        refine ⟨hbw, .inr ⟨grow_fine hTl, A, S, ?_, hTrl⟩⟩
        unfold ptr
        rw [HA.out]
      clear hTl hTrl
      go_wp2
      go_ret2
      exact HF.out
end Go.Proofs.YtibekkfbpmloiabGreatDoor.Recs

/- Trees, of the program: TreeOK; the code of the errors of a call's arguments (a tree's, a text's, a node's). Conditions: the table of kinds, the two sentinels. -/
namespace Go.Proofs.YtibekkfbpmloiabGreatDoor.Recs
set_option maxRecDepth 100000
open Go.RowKit Paths Errs

theorem grow_ok {l : List R} : growK l = .fine ↔ treeOK l = true := by
  constructor
  · intro h
    unfold growK at h
    split at h
    · cases h
    · split at h
      · assumption
      · cases h
  · intro h
    exact grow_fine (tree_of h)
set_option maxHeartbeats 400000 in
theorem checkTree_any (v : Value) (l : List R) (x y : Addr) (w : World) (h : NodSl w v l) (hl : l.length ≤ 1048576) (hr : ∀ r ∈ l, r.p.size ≤ maxLen) (hT : Three w x y) :
    Calls Tryz.prog 70 #[v] w fun e w' => e = .returned ((growK l).val x y) ∧ Below w.heap.size w w' := by
  have HG := growTree_any v l x y w h hl hr hT
  obtain ⟨ho, sA, cap, rfl, hcap, h⟩ := h
  clear h
  go_enter Tryz.func70, Tryz.ntmps70
  go_wp2_with fail
  refine HG.mono ?_
  rintro e w1 ⟨hb1, (⟨hk, rfl⟩ | ⟨hk, A, S, rfl, hTr⟩)⟩
  · cases hg : growK l with
    | fine => exact absurd hg hk
    | long =>
      have HG2 := Lib.hid hg
      clear hg
      unfold EN.val errV
      go_wp2_with fail
      go_ret
      exact ⟨by rw [HG2.out]; rfl, hb1⟩
    | inv =>
      have HG2 := Lib.hid hg
      clear hg
      unfold EN.val errV
      go_wp2_with fail
      go_ret
      exact ⟨by rw [HG2.out]; rfl, hb1⟩
  · have HG2 := Lib.hid hk
    clear hk
    unfold ptr
    go_wp2_with fail
    go_ret
    exact ⟨by rw [HG2.out]; rfl, hb1⟩

/-- The code of a call's arguments' errors. -/
def enFrom : List EN → Int → Int
  | [], c => c
  | .fine :: t, c => enFrom t c
  | .long :: _, _ => 2
  | .inv :: t, _ => enFrom t 1
theorem en_end {L : List EN} {k : Nat} {c : Int} (h : L.length ≤ k) : enFrom (L.drop k) c = c := by rw [List.drop_eq_nil_of_le h]; rfl
theorem en_fine {L : List EN} {k : Nat} {c : Int} (h : k < L.length) (he : L[k] = .fine) : enFrom (L.drop k) c = enFrom (L.drop (k + 1)) c := by rw [List.drop_eq_getElem_cons h, he]; rfl
theorem en_long {L : List EN} {k : Nat} {c : Int} (h : k < L.length) (he : L[k] = .long) : enFrom (L.drop k) c = 2 := by rw [List.drop_eq_getElem_cons h, he]; rfl
theorem en_inv {L : List EN} {k : Nat} {c : Int} (h : k < L.length) (he : L[k] = .inv) : enFrom (L.drop k) c = enFrom (L.drop (k + 1)) 1 := by rw [List.drop_eq_getElem_cons h, he]; rfl

set_option maxHeartbeats 1600000 in
theorem argumentN_any (g : Nat) (L : List EN) (x y : Addr) (w : World) (hT : Three w x y) (hg : g < w.heap.size) (hn : L.length ≤ 1000) (hc : ∀ k (h : k < L.length), w.cell? ⟨g, k, none⟩ = some (L[k].val x y)) :
    Calls Tryz.prog 69 #[.slice (some ⟨g, 0, none⟩) L.length L.length] w fun e w' => e = .returned (.int .i64 (enFrom L 0)) ∧ Below w.heap.size w w' := by
  have HC := Lib.hid hc
  have HT := Lib.hid hT
  clear hc hT
  go_enter Tryz.func69, Tryz.ntmps69
  go_wp2
  go_loopw [3, 8] (fun c i wr => ∃ (k : Nat) (d : Int), k ≤ L.length ∧ i = .int .i64 k ∧ c = .int .i64 d ∧ Hid (enFrom L 0 = enFrom (L.drop k) d) ∧ Below w.heap.size w wr) (fun _ i _ => L.length - (intOf i).toNat)
  case atStart => exact ⟨0, 0, by omega, rfl, rfl, rfl, Below.refl _ _⟩
  case round =>
    obtain ⟨k, d, hk, rfl, rfl, HK, hbw⟩ := hrel
    by_cases hlt : k < L.length
    · have hcell : wr.cell? ⟨g, k, none⟩ = some (L[k].val x y) := (hbw.cell (p := ⟨g, k, none⟩) hg).trans (HC.out k hlt)
      have hTr := HT.out.below hbw (Nat.le_refl _)
      have hx := hTr.long
      have hy := hTr.bad
      have hi1 : (k : Int) < (L.length : Int) := by omega
      have hi0 : (0 : Int) ≤ (k : Int) := by omega
      cases hE : L[k] with
      | fine =>
        have HF := Lib.hid (HK.out.trans (en_fine hlt hE))
        rw [hE] at hcell
        unfold EN.val at hcell
        have H1 := is_nil x wr
        have H2 := is_nil y wr
        unfold errV at hx hy H1 H2
        go_wp2_with fail
        refine H1.mono ?_
        rintro e w1 ⟨rfl, rfl⟩
        go_wp2_with fail
        refine H2.mono ?_
        rintro e w2 ⟨rfl, rfl⟩
        go_wp2_with fail
        exact ⟨⟨k + 1, d, by omega, by go_num, rfl, HF, hbw⟩, by simp [intOf]; omega⟩
      | long =>
        have HF := Lib.hid (HK.out.trans (en_long hlt hE))
        rw [hE] at hcell
        unfold EN.val at hcell
        have H1 := is_same x wr
        unfold errV at hx hy H1 hcell
        go_wp2_with fail
        refine H1.mono ?_
        rintro e w1 ⟨rfl, rfl⟩
        go_wp2_with fail
        go_ret
        exact ⟨ret_int HF.out.symm, hbw⟩
      | inv =>
        have HF := Lib.hid (HK.out.trans (en_inv hlt hE))
        rw [hE] at hcell
        unfold EN.val at hcell
        obtain ⟨cx, tx, rx⟩ := hTr.rowx
        obtain ⟨cy, ty, ry⟩ := hTr.rowy
        have H1 := is_other y x _ _ _ _ wr (Ne.symm hTr.ne) ry rx
        have H2 := is_same y wr
        unfold errV at hx hy H1 H2 hcell
        go_wp2_with fail
        refine H1.mono ?_
        rintro e w1 ⟨rfl, rfl⟩
        go_wp2_with fail
        refine H2.mono ?_
        rintro e w2 ⟨rfl, rfl⟩
        go_wp2_with fail
        exact ⟨⟨k + 1, 1, by omega, by go_num, rfl, HF, hbw⟩, by simp [intOf]; omega⟩
    · have HE := Lib.hid (HK.out.trans (en_end (by omega)))
      go_wp2
      go_ret
      exact ⟨ret_int HE.out.symm, hbw⟩

/-- The arguments' errors, as the call of a variadic function lays them. -/
theorem argN2_any (a b : EN) (x y : Addr) (w : World) (hT : Three w x y) :
    Calls Tryz.prog 69 #[.slice (some ⟨w.heap.size, 0, none⟩) 2 2] (w.alloc (.cells #[a.val x y, b.val x y] 83)) fun e w' => e = .returned (.int .i64 (enFrom [a, b] 0)) ∧ Below w.heap.size w w' := by
  have hb0 : Below w.heap.size w (w.alloc (.cells #[a.val x y, b.val x y] 83)) := (Below.refl _ _).alloc (Nat.le_refl _) _
  have := argumentN_any w.heap.size [a, b] x y (w.alloc (.cells #[a.val x y, b.val x y] 83)) (hT.below hb0 (Nat.le_refl _)) (by simp) (by simp) (fun k hk => by
    have hk2 : k < 2 := hk
    match k, hk2 with
    | 0, _ => go_simp
    | 1, _ => go_simp)
  refine this.mono ?_
  rintro e w1 ⟨rfl, hb1⟩
  exact ⟨rfl, hb0.trans (hb1.mono hb0.size)⟩
end Go.Proofs.YtibekkfbpmloiabGreatDoor.Recs

/- The canonical form is told by the effect: two canonical layers that have the same effect on every tree are one. -/
namespace Go.Proofs.YtibekkfbpmloiabGreatDoor.Recs
open Go.RowKit Paths

def dirN (q : ByteArray) : R := ⟨3, 0, q, ⟨#[]⟩, false⟩
/-- The directories above a path, from the first part down. -/
def dirsOf (q : ByteArray) : List R := (ups q).reverse.map dirN
theorem dirs_step {q : ByteArray} (h : pathB q.data.toList = true) : dirsOf q = if parentL q.data.toList = [] then [] else dirsOf (parO q) ++ [dirN (parO q)] := by
  unfold dirsOf
  rw [ups_step h]
  split
  · rfl
  · simp
theorem mem_dirs {q : ByteArray} {x : R} : x ∈ dirsOf q ↔ ∃ c ∈ ups q, x = dirN c := by
  unfold dirsOf
  simp only [List.mem_map, List.mem_reverse]
  exact ⟨fun ⟨c, hc, e⟩ => ⟨c, hc, e.symm⟩, fun ⟨c, hc, e⟩ => ⟨c, hc, e.symm⟩⟩
theorem dirs_sorted {q : ByteArray} (h : pathB q.data.toList = true) : Sorted (dirsOf q) := by
  refine path_ind (P := fun q => Sorted (dirsOf q)) ?_ ?_ q h
  · intro q hq hp
    rw [dirs_step hq, if_pos hp]
    exact List.Pairwise.nil
  · intro q hq hp h1 ih
    rw [dirs_step hq, if_neg hp]
    unfold Sorted
    rw [List.pairwise_append]
    refine ⟨ih, List.pairwise_singleton _ _, fun x hx y hy => ?_⟩
    rw [List.mem_singleton.1 hy]
    obtain ⟨c, hc, rfl⟩ := mem_dirs.1 hx
    exact ups_less h1 c hc
/-! ### A name that is free -/
end Go.Proofs.YtibekkfbpmloiabGreatDoor.Recs

/- The canonical form is told by the effect: two canonical layers that have the same effect on every tree are one; so combining is associative. -/
namespace Go.Proofs.YtibekkfbpmloiabGreatDoor.Recs
open Go.RowKit Paths

theorem fault_more {r : R} (h : r.fault = 0) : (r.o = true → r.k = 3) ∧ (r.k = 4 → r.b.size = 0 ∧ r.m = 0 ∧ r.o = false) := by
  unfold R.fault faultI at h
  split at h
  · cases h
  split at h
  · cases h
  split at h
  · cases h
  split at h
  · cases h
  split at h
  · cases h
  rename_i h1 h2 h3 h4 h5
  have h6 : r.o = true → r.k = 3 := fun ho => by
    refine Classical.byContradiction fun hk => h4 (.inr ⟨ho, hk⟩)
  refine ⟨h6, fun hk => ⟨?_, ?_, ?_⟩⟩
  · refine Classical.byContradiction fun hz => h4 (.inl ⟨hz, .inr hk⟩)
  · refine Classical.byContradiction fun hz => h5 (.inr (.inr ⟨hz, .inl hk⟩))
  · cases ho : r.o with
    | false => rfl
    | true => have := h6 ho; omega
section
variable {a b : List R} (ha : Canon a) (hb : Canon b) (hlen : a.length + b.length < 4096) (he : ∀ t, IsTree t → applyL a t = applyL b t)
include ha hb he
include hlen
end
end Go.Proofs.YtibekkfbpmloiabGreatDoor.Recs

/- The program: layers applied to a tree (afterLayers), and the limit of nodes. -/
namespace Go.Proofs.YtibekkfbpmloiabGreatDoor.Recs
set_option maxRecDepth 100000
open Go.RowKit Paths

/-- What the limit leaves of a list of nodes. -/
def limL (T : List R) : List R := if 24 < T.length then [] else T
def limC (T : List R) : Int := if 24 < T.length then 7 else 0
theorem limitNodes_any (v : Value) (T : List R) (base : Nat) (w : World) (h : RowN w base v T.length T) :
    Calls Tryz.prog 78 #[v] w fun e w' => ∃ x, e = .returned (.tuple #[x, .int .i64 (limC T)]) ∧ w = w' ∧ RowN w base x (limL T).length (limL T) := by
  obtain ⟨vA, vcap, rfl⟩ := own_form h.2.1
  have HR := Lib.hid h
  clear h
  by_cases h24 : 24 < T.length
  · have hd : decide ((24 : Int) < (T.length : Int)) = true := by simp; omega
    have HC : Hid (limC T = 7) := if_pos h24
    have HL : Hid (limL T = []) := if_pos h24
    go_enter Tryz.func78, Tryz.ntmps78
    go_wp2_with fail
    go_ret2
    exact ⟨_, by rw [HC.out]; rfl, rfl, by rw [HL.out]; exact nilN _ _⟩
  · have hd : decide ((24 : Int) < (T.length : Int)) = false := by simp; omega
    have HC : Hid (limC T = 0) := if_neg h24
    have HL : Hid (limL T = T) := if_neg h24
    go_enter Tryz.func78, Tryz.ntmps78
    go_wp2_with fail
    go_ret2
    exact ⟨_, by rw [HC.out]; rfl, rfl, by rw [HL.out]; exact HR.out⟩
end Go.Proofs.YtibekkfbpmloiabGreatDoor.Recs

/- Layers: SameLayer, of the program and of its model. -/
namespace Go.Proofs.YtibekkfbpmloiabGreatDoor.Recs
set_option maxRecDepth 100000
open Go.RowKit Paths Errs

def okL (l : List R) : Bool := decide (l.length ≤ 4096) && layerOK l
end Go.Proofs.YtibekkfbpmloiabGreatDoor.Recs
