/- Parts of several texts of mine in one file (each begins with its own remark). -/
import Derived.Test.YtcbmnihepeefaaaGreatDoorCA1
import Derived.Test.YtcbmnihepeefaaaGreatDoorCA10
import Derived.Test.YtcbmnihepeefaaaGreatDoorCA2
import Derived.Test.YtcbmnihepeefaaaGreatDoorCA3
import Derived.Test.YtcbmnihepeefaaaGreatDoorCA4
import Derived.Test.YtcbmnihepeefaaaGreatDoorCA5
import Derived.Test.YtcbmnihepeefaaaGreatDoorCA6
import Derived.Test.YtcbmnihepeefaaaGreatDoorCA7
import Derived.Test.YtcbmnihepeefaaaGreatDoorCA8
import Derived.Test.YtcbmnihepeefaaaGreatDoorCA9
import Derived.Test.YtcbmnihepeefaaaGreatDoorCB1
import Derived.Test.YtcbmnihepeefaaaGreatDoorCB3
import Derived.Test.YtcbmnihepeefaaaGreatDoorCB4
import Derived.Test.YtcbmnihepeefaaaGreatDoorCB5
import Derived.Test.YtcbmnihepeefaaaGreatDoorChecked
import Derived.Test.YtcbmnihepeefaaaGreatDoorRows
import Derived.Test.YtcbmnihepeefaaaGreatDoorProg
import Derived.Test.YtcbmnihepeefaaaGreatDoorShelf
import Derived.Deep.RegionHeld3
import Derived.Deep.RegionWith
import Derived.OneCell
import Derived.Lib.SliceRun
import Derived.Laws.OwnMore
import Derived.Deep.Slices
import Derived.OpenShut
import Derived.ShutString
import Derived.ChangeArms
import Derived.WideShapes
import Derived.Lib.LaidTab
import Derived.BigQuiet
import Derived.Deep.QuietTactic
import Derived.StillTailTactics
import Derived.Deep.Draws
import Derived.Deep.LoopGhost
import Derived.WalkKit
import Derived.WalkSpells
import Derived.WalkSmall
import Derived.Lib.OthersKept
import Derived.Lib.Hide
import Derived.Lib.Strings
import Derived.Lib.Join
import Derived.Laws.BytesArg
import Derived.BigRegion
import Derived.Lib.Overlaps
import Derived.Lib.AppendZerosOnto
import Derived.Laws.NewBlocks
import Derived.Laws.IdiomCopy
import Derived.Deep.RegionLaw
import Derived.ChangeVars
import Derived.Deep.DeepHandedRow
import Derived.LaidEql
import Derived.Stop.Asserts
import Derived.Below
import Derived.Stop.LaidErr
import Derived.Stop.LaidTwo
import Derived.WalkLawsBesides
import Derived.Deep.AppendLies
import Derived.Laws.EntriesVeiled
/- growTree, of the program: the errors, or the tree in memory. Conditions: the table of kinds, the two sentinels. -/
namespace Go.Proofs.YtcbmnihepeefaaaGreatDoor.Recs
set_option maxRecDepth 100000
open Go.RowKit Paths Errs

def growK (l : List R) : EN := if 4096 < l.length then .long else if treeOK l then .fine else .inv
theorem grow_long {l : List R} (h : 4096 < l.length) : growK l = .long := if_pos h
theorem grow_inv {l : List R} (h : ¬ 4096 < l.length) (hb : ¬ Tree l) : growK l = .inv := by
  unfold growK
  rw [if_neg h, if_neg (fun e => hb (tree_of e))]
theorem grow_fine {l : List R} (h : Tree l) : growK l = .fine := by
  unfold growK
  have := h.len
  rw [if_neg (by omega), if_pos (treeOK_of h)]
/-- What growTree leaves. -/
def GrowPost (l : List R) (x y : Addr) (w : World) (e : Ending) (w' : World) : Prop :=
  Below w.heap.size w w' ∧ ((growK l ≠ .fine ∧ e = .returned (.tuple #[.pointer none, (growK l).val x y])) ∨
    (growK l = .fine ∧ ∃ A S, e = .returned (.tuple #[ptr (A ByteArray.empty), .nilIface]) ∧ Tr w' w.heap.size A S l))
theorem tr_start (w : World) : Tr (w.alloc (.cells #[.string ⟨#[]⟩, .int .i64 3, .string ⟨#[]⟩, .string ⟨#[]⟩, .int .i64 0, .slice none 0 0] 113)) w.heap.size (fun _ => w.heap.size) (fun _ => .slice none 0 0) [] := by
  have one : ∀ r ∈ rootR :: ([] : List R), r = rootR := fun r hr => by simpa using hr
  refine ⟨fun r hr => ?_, fun _ _ => Nat.le_refl _, fun r hr => World.ownsRow_nil _ _ _ _, fun r hr x hx hne => absurd (by rw [one r hr, one x hx]) hne⟩
  rw [one r hr]
  exact alloc_at w _
set_option maxHeartbeats 3200000 in
theorem growTree_any (v : Value) (l : List R) (x y : Addr) (w : World) (h : NodSl w v l) (hl : l.length ≤ 1048576) (hr : ∀ r ∈ l, r.p.size ≤ maxLen) (hT : Three w x y) :
    Calls Tryz.prog 88 #[v] w (GrowPost l x y w) := by
  obtain ⟨ho, sA, cap, rfl, hcap, h⟩ := h
  have hx := hT.long
  have hy := hT.bad
  unfold errV at hx hy
  by_cases h4 : 4096 < l.length
  · have HP : Hid (∀ w', Below w.heap.size w w' → GrowPost l x y w (.returned (.tuple #[.pointer none, errV x])) w') := fun w' hb => ⟨hb, .inl ⟨by rw [grow_long h4]; simp, by rw [grow_long h4]; rfl⟩⟩
    have hd : decide ((4096 : Int) < (l.length : Int)) = true := by simp; omega
    go_enter Tryz.func88, Tryz.ntmps88
    go_wp2
    go_quiet (fail)
    go_wp2
    go_ret2
    exact HP.out _ (below_drewN (Below.refl _ _) _)
  have hd4 : decide ((4096 : Int) < (l.length : Int)) = false := by simp; omega
  by_cases h24 : 24 < l.length
  · have hg := grow_inv h4 (fun h : Tree l => by have := h.len; omega)
    have HP : Hid (∀ w', Below w.heap.size w w' → GrowPost l x y w (.returned (.tuple #[.pointer none, errV y])) w') := fun w' hb => ⟨hb, .inl ⟨by rw [hg]; simp, by rw [hg]; rfl⟩⟩
    have hd : decide ((24 : Int) < (l.length : Int)) = true := by simp; omega
    clear hg
    go_enter Tryz.func88, Tryz.ntmps88
    go_wp2
    go_quiet (fail)
    go_wp2
    go_ret2
    exact HP.out _ (below_drewN (Below.refl _ _) _)
  have hd24 : decide ((24 : Int) < (l.length : Int)) = false := by simp; omega
  have HP : Hid (∀ w', ¬ Tree l → Below w.heap.size w w' → GrowPost l x y w (.returned (.tuple #[.pointer none, errV y])) w') := fun w' hb hbw => by
    have hg := grow_inv h4 hb
    exact ⟨hbw, .inl ⟨by rw [hg]; simp, by rw [hg]; rfl⟩⟩
  have H := Lib.hid h
  have HO := Lib.hid ho
  have HT := Lib.hid hT
  have HR := Lib.hid hr
  have h24' : l.length ≤ 24 := by omega
  have hb0 : Below w.heap.size w (w.alloc (.cells #[.string ⟨#[]⟩, .int .i64 3, .string ⟨#[]⟩, .string ⟨#[]⟩, .int .i64 0, .slice none 0 0] 113)) := (Below.refl _ _).alloc (Nat.le_refl _) _
  clear h ho hT hr h4 h24 hx hy
  go_enter Tryz.func88, Tryz.ntmps88
  go_wp2
  go_loopw [23] (fun i wr => ∃ (k : Nat) (A : ByteArray → Nat) (S : ByteArray → Value), k ≤ l.length ∧ i = .int .i64 k ∧ Hid (Tree (l.take k)) ∧ Hid (Tr wr w.heap.size A S (l.take k)) ∧ Hid (A ByteArray.empty = w.heap.size) ∧ Below w.heap.size w wr) (fun i _ => l.length - (intOf i).toNat)
  case atStart => exact ⟨0, _, _, by omega, rfl, tree_nil, tr_start w, rfl, hb0⟩
  case round =>
    obtain ⟨k, A, S, hk, rfl, HTk, HTr, HA, hbw⟩ := hrel
    by_cases hlt : k < l.length
    · obtain ⟨b, off, rfl, hb, hcell⟩ := H.out (by omega)
      obtain ⟨c0, c1, c2, c3⟩ := (hcell k l[k] (by simp [hlt])).below hbw hb
      have hi1 : (k : Int) < (l.length : Int) := by omega
      have hi0 : (0 : Int) ≤ (k : Int) := by omega
      have hm := List.getElem_mem hlt
      have hq := HR.out _ hm
      have hko := HO.out _ hm
      go_wp2_with fail
      have a0 : (wr.alloc (.cells #[.int .i64 l[k].k, .string l[k].p, .string l[k].b, .int .i64 l[k].m] 29)).cell? ⟨wr.heap.size, 0, none⟩ = some (.int .i64 l[k].k) := by go_simp
      have a1 : (wr.alloc (.cells #[.int .i64 l[k].k, .string l[k].p, .string l[k].b, .int .i64 l[k].m] 29)).cell? ⟨wr.heap.size, 1, none⟩ = some (.string l[k].p) := by go_simp
      have a2 : (wr.alloc (.cells #[.int .i64 l[k].k, .string l[k].p, .string l[k].b, .int .i64 l[k].m] 29)).cell? ⟨wr.heap.size, 2, none⟩ = some (.string l[k].b) := by go_simp
      have a3 : (wr.alloc (.cells #[.int .i64 l[k].k, .string l[k].p, .string l[k].b, .int .i64 l[k].m] 29)).cell? ⟨wr.heap.size, 3, none⟩ = some (.int .i64 l[k].m) := by go_simp
      have hbA : Below wr.heap.size wr (wr.alloc (.cells #[.int .i64 l[k].k, .string l[k].p, .string l[k].b, .int .i64 l[k].m] 29)) := (Below.refl _ _).alloc (Nat.le_refl _) _
      have hzA : (wr.alloc (.cells #[.int .i64 l[k].k, .string l[k].p, .string l[k].b, .int .i64 l[k].m] 29)).heap.size = wr.heap.size + 1 := by simp
      generalize wr.alloc (.cells #[.int .i64 l[k].k, .string l[k].p, .string l[k].b, .int .i64 l[k].m] 29) = W at *
      clear c0 c1 c2 c3
      rcases Nat.eq_zero_or_pos k with h0 | h0
      · have hgt0 : decide ((0 : Int) < (k : Int)) = false := by simp; omega
        have hgt1 : decide (0 < k) = false := by simp; omega
        have hgt2 : ¬ 0 < k := by omega
        have H0 := Lib.hid h0
        clear h0
        go_wp2
        go_quiet (fail)
        have hbD : Below W.heap.size W (W.drewN nq) := below_drewN (Below.refl _ _) nq
        have hTW := HT.out.below (hbw.trans ((hbA.trans (hbD.mono hbA.size)).mono hbw.size)) (Nat.le_refl _)
        have hzW : wr.heap.size < W.heap.size := by omega
        have b0 := (hbD.cell (p := ⟨wr.heap.size, 0, none⟩) hzW).trans a0
        have b1 := (hbD.cell (p := ⟨wr.heap.size, 1, none⟩) hzW).trans a1
        have b2 := (hbD.cell (p := ⟨wr.heap.size, 2, none⟩) hzW).trans a2
        have b3 := (hbD.cell (p := ⟨wr.heap.size, 3, none⟩) hzW).trans a3
        have d1 := hbA.trans (hbD.mono hbA.size)
        have HCN := checkNode_any l[k] hko hq x y _ hTW
        unfold R.nod at HCN
        clear hTW
        go_wp2_with fail
        refine HCN.mono ?_
        rintro e w2 ⟨rfl, hb2⟩
        have d2 := d1.trans (hb2.mono d1.size)
        have e2 := hbw.trans (d2.mono hbw.size)
        rcases Bool.eq_false_or_eq_true (nodeK l[k]) with hnk | hnk
        case inr =>
          have HV : Hid (nodeV l[k] y = errV y) := by show _ = _; unfold nodeV; rw [hnk]; rfl
          have HB : Hid (¬ Tree l) := fun ht => by
            obtain ⟨_, g1, g2, _⟩ := grow_all ht hlt
            unfold nodeK at hnk
            rw [decide_eq_true g1, g2] at hnk
            cases hnk
          have HPF := Lib.hid (HP.out w2 HB.out e2)
          rw [HV.out]
          unfold errV at HPF ⊢
          clear hnk
          go_wp2_with fail
          go_ret2
          exact HPF.out
        have HV : Hid (nodeV l[k] y = .nilIface) := by show _ = _; unfold nodeV; rw [hnk]; rfl
        have hnk4 : l[k].k ≠ 4 ∧ l[k].fault = 0 := by
          unfold nodeK at hnk
          simpa using hnk
        have HNK := Lib.hid hnk4
        have hpath := (fault_path hnk4.2).1
        clear hnk hnk4
        rw [HV.out]
        have hzw2 : wr.heap.size < W.heap.size := by omega
        have r1 := (hb2.cell (p := ⟨wr.heap.size, 1, none⟩) (Nat.lt_of_lt_of_le hzW hbD.size)).trans b1
        have hTr2 := HTr.out.below d2
        have HPL := placeFor_any hTr2 HTk.out.is (by rw [List.length_take]; omega) l[k].p hq hpath
        rw [HA.out] at HPL
        unfold ptr at HPL
        clear b0 b2 b3
        go_wp2_with fail
        refine HPL.mono ?_
        rintro e w3 ⟨rfl, hb3⟩
        have d3 := d2.trans (hb3.mono d2.size)
        have e3 := hbw.trans (d3.mono hbw.size)
        by_cases hpc : placeC (l.take k) l[k].p = 0
        case neg =>
          have HB : Hid (¬ Tree l) := fun ht => hpc (grow_all ht hlt).2.2.2
          have HPF := Lib.hid (HP.out w3.drew HB.out e3.drew)
          have hd : (placeC (l.take k) l[k].p != 0) = true := by simpa using hpc
          have hy3 := (HT.out.below e3 (Nat.le_refl _)).bad
          unfold placeV
          rw [if_neg hpc]
          unfold errV at hy3 HPF
          clear hpc
          go_wp2
          go_quiet (fail)
          go_wp2
          go_ret2
          exact ⟨⟨HPF.out.1.os, HPF.out.1.tape, HPF.out.1.output, HPF.out.1.size, HPF.out.1.block⟩, HPF.out.2.imp id (fun h => by have h1 := h.2; obtain ⟨_, _, h2, _⟩ := h1; cases h2)⟩
        obtain ⟨xr, hxm, hxp⟩ := (place_home hpath hpc).1
        obtain ⟨hTk1, hput⟩ := grow_good hlt HTk.out h24' (.inl H0.out) HNK.out.1 HNK.out.2 hpc
        have hnew := (place_ok hpc).1
        have s0 := (hbD.cell (p := ⟨wr.heap.size, 0, none⟩) hzW).trans a0
        have hTr3 := hTr2.below hb3
        have hzw3 : wr.heap.size < w2.heap.size := Nat.lt_of_lt_of_le hzW (Nat.le_trans hbD.size hb2.size)
        have hww : W.heap.size ≤ w3.heap.size := Nat.le_trans hbD.size (Nat.le_trans hb2.size hb3.size)
        have hbW3 : Below W.heap.size W w3 := (hbD.trans (hb2.mono hbD.size)).trans (hb3.mono (Nat.le_trans hbD.size hb2.size))
        have q0 := (hbW3.cell (p := ⟨wr.heap.size, 0, none⟩) hzW).trans a0
        have q1 := (hbW3.cell (p := ⟨wr.heap.size, 1, none⟩) hzW).trans a1
        have q2 := (hbW3.cell (p := ⟨wr.heap.size, 2, none⟩) hzW).trans a2
        have q3 := (hbW3.cell (p := ⟨wr.heap.size, 3, none⟩) hzW).trans a3
        have HAT := attach_any hTr3 HTk.out.is (by rw [List.length_take]; omega) hpath hq hxm hxp hnew
        rw [hxp] at HAT
        unfold ptr R.nod at HAT
        have HPUT := Lib.hid hput
        have HTK1 := Lib.hid hTk1
        unfold placeV
        rw [hpc, if_pos rfl]
        clear hpc hput hTk1 hxm hxp hnew s0
        go_wp2_with fail
        refine HAT.mono ?_
        rintro e w4 ⟨⟨v4, rfl⟩, A', S', hTr4, hb4, hA4⟩
        rw [HPUT.out] at hTr4
        go_wp2_with fail
        exact ⟨⟨k + 1, A', S', by omega, by go_num, HTK1, hTr4, hA4.trans HA.out, e3.trans hb4⟩, by simp [intOf]; omega⟩
      · obtain ⟨j, rfl⟩ : ∃ j, k = j + 1 := ⟨k - 1, by omega⟩
        obtain ⟨_, p1, _, _⟩ := (hcell j (l[j]'(by omega)) (List.getElem?_eq_getElem (by omega))).below (hbw.trans (hbA.mono hbw.size)) hb
        have hq0 := HR.out _ (List.getElem_mem (show j < l.length by omega))
        have HPL := fun w' => pathLess_impl (l[j]'(by omega)).p l[j + 1].p w' hq0 hq
        have hbl : b < W.heap.size := Nat.lt_of_lt_of_le hb (hbw.trans (hbA.mono hbw.size)).size
        have hzl : wr.heap.size < W.heap.size := by omega
        have hj1 : (j : Int) < (l.length : Int) := by omega
        have hj0 : (0 : Int) ≤ (j : Int) := by omega
        have hgt : decide ((0 : Int) < (j : Int) + 1) = true := decide_eq_true (by omega)
        have hw1 : IntKind.i64.wrap ((j : Int) + 1 - 1) = (j : Int) := by rw [IntKind.wrap_i64]; omega
        have hw2 : IntKind.i64.wrap (j : Int) = (j : Int) := by rw [IntKind.wrap_i64]; omega
        rcases Bool.eq_false_or_eq_true (lessB (l[j]'(by omega)).p l[j + 1].p) with hls | hls
        case inr =>
          have HB : Hid (¬ Tree l) := fun ht => by
            rcases (grow_all ht hlt).1 with h | ⟨_, h⟩
            · omega
            · have e : (l[j + 1 - 1]'(by omega)) = l[j]'(by omega) := rfl
              rw [e, hls] at h; cases h
          rw [hls] at HPL
          go_wp2
          go_region_held3 (fun w' => w'.cell? ⟨b, off + j * 4 + 1, none⟩ = some (.string (l[j]'(by omega)).p) ∧ w'.cell? ⟨wr.heap.size, 1, none⟩ = some (.string l[j + 1].p)) (first | exact ⟨p1, a1⟩ | exact ⟨(hb1.cell (p := ⟨b, off + j * 4 + 1, none⟩) hbl).trans p1, (hb1.cell (p := ⟨wr.heap.size, 1, none⟩) hzl).trans a1⟩ | go_keep) (first | (go_at_call 168; refine (HPL _).mono ?_; rintro e w1 ⟨rfl, hb1⟩))
          replace hb1 : Below W.heap.size W w1 := ((Below.refl W.heap.size W).drew).trans hb1
          have d1 := hbA.trans (hb1.mono hbA.size)
          have e1 := hbw.trans (d1.mono hbw.size)
          have hy1 := (HT.out.below e1 (Nat.le_refl _)).bad
          have HPF := Lib.hid (HP.out w1.drew HB.out e1.drew)
          unfold errV at hy1 HPF
          go_wp2
          go_quiet (fail)
          go_wp2
          go_ret2
          exact ⟨⟨HPF.out.1.os, HPF.out.1.tape, HPF.out.1.output, HPF.out.1.size, HPF.out.1.block⟩, HPF.out.2.imp id (fun h => by have h1 := h.2; obtain ⟨_, _, h2, _⟩ := h1; cases h2)⟩
        rw [hls] at HPL
        have HLS : Hid (j + 1 = 0 ∨ ∃ h : 0 < j + 1, lessB (l[j + 1 - 1]'(by omega)).p l[j + 1].p = true) := .inr ⟨by omega, hls⟩
        clear hls
        go_wp2
        go_region_held3 (fun w' => w'.cell? ⟨b, off + j * 4 + 1, none⟩ = some (.string (l[j]'(by omega)).p) ∧ w'.cell? ⟨wr.heap.size, 1, none⟩ = some (.string l[j + 1].p)) (first | exact ⟨p1, a1⟩ | exact ⟨(hb1.cell (p := ⟨b, off + j * 4 + 1, none⟩) hbl).trans p1, (hb1.cell (p := ⟨wr.heap.size, 1, none⟩) hzl).trans a1⟩ | go_keep) (first | (go_at_call 168; refine (HPL _).mono ?_; rintro e w1 ⟨rfl, hb1⟩))
        replace hb1 : Below W.heap.size W w1 := ((Below.refl W.heap.size W).drew).trans hb1
        have hTW := HT.out.below (hbw.trans ((hbA.trans (hb1.mono hbA.size)).mono hbw.size)) (Nat.le_refl _)
        have hzW : wr.heap.size < W.heap.size := by omega
        have b0 := (hb1.cell (p := ⟨wr.heap.size, 0, none⟩) hzW).trans a0
        have b1 := (hb1.cell (p := ⟨wr.heap.size, 1, none⟩) hzW).trans a1
        have b2 := (hb1.cell (p := ⟨wr.heap.size, 2, none⟩) hzW).trans a2
        have b3 := (hb1.cell (p := ⟨wr.heap.size, 3, none⟩) hzW).trans a3
        have d1 := hbA.trans (hb1.mono hbA.size)
        have HCN := checkNode_any l[j + 1] hko hq x y _ hTW
        unfold R.nod at HCN
        clear hTW
        go_wp2_with fail
        refine HCN.mono ?_
        rintro e w2 ⟨rfl, hb2⟩
        have d2 := d1.trans (hb2.mono d1.size)
        have e2 := hbw.trans (d2.mono hbw.size)
        rcases Bool.eq_false_or_eq_true (nodeK l[j + 1]) with hnk | hnk
        case inr =>
          have HV : Hid (nodeV l[j + 1] y = errV y) := by show _ = _; unfold nodeV; rw [hnk]; rfl
          have HB : Hid (¬ Tree l) := fun ht => by
            obtain ⟨_, g1, g2, _⟩ := grow_all ht hlt
            unfold nodeK at hnk
            rw [decide_eq_true g1, g2] at hnk
            cases hnk
          have HPF := Lib.hid (HP.out w2 HB.out e2)
          rw [HV.out]
          unfold errV at HPF ⊢
          clear hnk
          go_wp2_with fail
          go_ret2
          exact HPF.out
        have HV : Hid (nodeV l[j + 1] y = .nilIface) := by show _ = _; unfold nodeV; rw [hnk]; rfl
        have hnk4 : l[j + 1].k ≠ 4 ∧ l[j + 1].fault = 0 := by
          unfold nodeK at hnk
          simpa using hnk
        have HNK := Lib.hid hnk4
        have hpath := (fault_path hnk4.2).1
        clear hnk hnk4
        rw [HV.out]
        have hzw2 : wr.heap.size < W.heap.size := by omega
        have r1 := (hb2.cell (p := ⟨wr.heap.size, 1, none⟩) (Nat.lt_of_lt_of_le hzW hb1.size)).trans b1
        have hTr2 := HTr.out.below d2
        have HPL := placeFor_any hTr2 HTk.out.is (by rw [List.length_take]; omega) l[j + 1].p hq hpath
        rw [HA.out] at HPL
        unfold ptr at HPL
        clear b0 b2 b3
        go_wp2_with fail
        refine HPL.mono ?_
        rintro e w3 ⟨rfl, hb3⟩
        have d3 := d2.trans (hb3.mono d2.size)
        have e3 := hbw.trans (d3.mono hbw.size)
        by_cases hpc : placeC (l.take (j + 1)) l[j + 1].p = 0
        case neg =>
          have HB : Hid (¬ Tree l) := fun ht => hpc (grow_all ht hlt).2.2.2
          have HPF := Lib.hid (HP.out w3.drew HB.out e3.drew)
          have hd : (placeC (l.take (j + 1)) l[j + 1].p != 0) = true := by simpa using hpc
          have hy3 := (HT.out.below e3 (Nat.le_refl _)).bad
          unfold placeV
          rw [if_neg hpc]
          unfold errV at hy3 HPF
          clear hpc
          go_wp2
          go_quiet (fail)
          go_wp2
          go_ret2
          exact ⟨⟨HPF.out.1.os, HPF.out.1.tape, HPF.out.1.output, HPF.out.1.size, HPF.out.1.block⟩, HPF.out.2.imp id (fun h => by have h1 := h.2; obtain ⟨_, _, h2, _⟩ := h1; cases h2)⟩
        obtain ⟨xr, hxm, hxp⟩ := (place_home hpath hpc).1
        obtain ⟨hTk1, hput⟩ := grow_good hlt HTk.out h24' HLS.out HNK.out.1 HNK.out.2 hpc
        have hnew := (place_ok hpc).1
        have s0 := (hb1.cell (p := ⟨wr.heap.size, 0, none⟩) hzW).trans a0
        have hTr3 := hTr2.below hb3
        have hzw3 : wr.heap.size < w2.heap.size := Nat.lt_of_lt_of_le hzW (Nat.le_trans hb1.size hb2.size)
        have hww : W.heap.size ≤ w3.heap.size := Nat.le_trans hb1.size (Nat.le_trans hb2.size hb3.size)
        have hbW3 : Below W.heap.size W w3 := (hb1.trans (hb2.mono hb1.size)).trans (hb3.mono (Nat.le_trans hb1.size hb2.size))
        have q0 := (hbW3.cell (p := ⟨wr.heap.size, 0, none⟩) hzW).trans a0
        have q1 := (hbW3.cell (p := ⟨wr.heap.size, 1, none⟩) hzW).trans a1
        have q2 := (hbW3.cell (p := ⟨wr.heap.size, 2, none⟩) hzW).trans a2
        have q3 := (hbW3.cell (p := ⟨wr.heap.size, 3, none⟩) hzW).trans a3
        have HAT := attach_any hTr3 HTk.out.is (by rw [List.length_take]; omega) hpath hq hxm hxp hnew
        rw [hxp] at HAT
        unfold ptr R.nod at HAT
        have HPUT := Lib.hid hput
        have HTK1 := Lib.hid hTk1
        unfold placeV
        rw [hpc, if_pos rfl]
        clear hpc hput hTk1 hxm hxp hnew s0
        go_wp2_with fail
        refine HAT.mono ?_
        rintro e w4 ⟨⟨v4, rfl⟩, A', S', hTr4, hb4, hA4⟩
        rw [HPUT.out] at hTr4
        go_wp2_with fail
        exact ⟨⟨j + 1 + 1, A', S', by omega, by go_num, HTK1, hTr4, hA4.trans HA.out, e3.trans hb4⟩, by simp [intOf]; omega⟩
    · obtain rfl : k = l.length := by omega
      have hTl : Tree l := by have := HTk.out; rwa [List.take_length] at this
      have hTrl : Tr wr w.heap.size A S l := by have := HTr.out; rwa [List.take_length] at this
      have HF : Hid (GrowPost l x y w (.returned (.tuple #[.pointer (some ⟨w.heap.size, 0, none⟩), .nilIface])) wr) := by
        refine ⟨hbw, .inr ⟨grow_fine hTl, A, S, ?_, hTrl⟩⟩
        unfold ptr
        rw [HA.out]
      clear hTl hTrl
      go_wp2
      go_ret2
      exact HF.out
end Go.Proofs.YtcbmnihepeefaaaGreatDoor.Recs

/- Trees, of the program: TreeOK; the code of the errors of a call's arguments (a tree's, a text's, a node's). Conditions: the table of kinds, the two sentinels. -/
namespace Go.Proofs.YtcbmnihepeefaaaGreatDoor.Recs
set_option maxRecDepth 100000
open Go.RowKit Paths Errs

set_option maxHeartbeats 400000 in
theorem checkTree_any (v : Value) (l : List R) (x y : Addr) (w : World) (h : NodSl w v l) (hl : l.length ≤ 1048576) (hr : ∀ r ∈ l, r.p.size ≤ maxLen) (hT : Three w x y) :
    Calls Tryz.prog 101 #[v] w fun e w' => e = .returned ((growK l).val x y) ∧ Below w.heap.size w w' := by
  have HG := growTree_any v l x y w h hl hr hT
  obtain ⟨ho, sA, cap, rfl, hcap, h⟩ := h
  clear h
  go_enter Tryz.func101, Tryz.ntmps101
  go_wp2_with fail
  refine HG.mono ?_
  rintro e w1 ⟨hb1, (⟨hk, rfl⟩ | ⟨hk, A, S, rfl, hTr⟩)⟩
  · cases hg : growK l with
    | fine => exact absurd hg hk
    | long =>
      have HG2 := Lib.hid hg
      clear hg
      unfold EN.val errV
      go_wp2_with fail
      go_ret
      exact ⟨by rw [HG2.out]; rfl, hb1⟩
    | inv =>
      have HG2 := Lib.hid hg
      clear hg
      unfold EN.val errV
      go_wp2_with fail
      go_ret
      exact ⟨by rw [HG2.out]; rfl, hb1⟩
  · have HG2 := Lib.hid hk
    clear hk
    unfold ptr
    go_wp2_with fail
    go_ret
    exact ⟨by rw [HG2.out]; rfl, hb1⟩

end Go.Proofs.YtcbmnihepeefaaaGreatDoor.Recs

/- Trees: ListDir, of the program and of its model. Conditions (of the program's): the table of kinds, the two sentinels. -/
namespace Go.Proofs.YtcbmnihepeefaaaGreatDoor.Recs
set_option maxRecDepth 100000
open Go.RowKit Paths Errs

theorem cut_last {p : ByteArray} {w : World} {g : Nat} (h : ∀ i (hi : i < (cutAt 47 p.data.toList).length), w.cell? ⟨g, i, none⟩ = some (strV (cutAt 47 p.data.toList)[i])) : w.cell? ⟨g, (cutAt 47 p.data.toList).length - 1, none⟩ = some (.string (lastB p)) := by
  have hp := cutAt_pos 47 p.data.toList
  rw [h _ (by omega), last_cell hp]

end Go.Proofs.YtcbmnihepeefaaaGreatDoor.Recs

/- A tree in memory: a node taken out, with all that is below it. -/
namespace Go.Proofs.YtcbmnihepeefaaaGreatDoor.Recs
set_option maxRecDepth 100000
open Go.RowKit Paths

theorem ups_nil : ups ByteArray.empty = [] := by decide
section
variable {base : Nat} {A : ByteArray → Nat} {S : ByteArray → Value} {t : List R} {x : R} {q : ByteArray}
/-- Those directly below one that stay without a last part. -/
def kidsBut (t : List R) (p q : ByteArray) : List R := (kids t p).filter fun c => !decide (lastB c.p = lastB q)
theorem Tr.cut {W w9 : World} (h : Tr W base A S t) (ht : IsTree t) (hq : pathB q.data.toList = true) (hx : x ∈ rootR :: t) (hxp : x.p = parO q) {v' : Value}
    (hown : w9.ownsRow base 94 1 v' (kidsBut t x.p q).length (ptrs A (kidsBut t x.p q)))
    (hgrow : W.grownBy w9 (S x.p).ownBlock) (hwh : v'.ownBlock = (S x.p).ownBlock) :
    Tr (w9.setCell ⟨A x.p, 5, none⟩ v') base A (fun p => if p = x.p then v' else S p) (withoutL t q true) := by
  have hs := ht.sorted
  have hpath := ht.path
  have hmem : ∀ r, r ∈ rootR :: withoutL t q true → r ∈ rootR :: t ∧ r.p ≠ q ∧ q ∉ ups r.p := fun r hr => by
    rcases List.mem_cons.1 hr with rfl | hr
    · refine ⟨root_mem, fun e => path_nonempty hq e.symm, ?_⟩
      rw [rootR_p, ups_nil]
      simp
    · obtain ⟨h1, h2, h3⟩ := mem_without.1 hr
      exact ⟨List.mem_cons_of_mem _ h1, h3 rfl, h2⟩
  have hb9 : ∀ r ∈ rootR :: t, w9.heap[A r.p]? = W.heap[A r.p]? := fun r hr => hgrow.block _ (h.lt hr) (fun e => h.apart_row hr hx e.symm)
  have hvx : v'.ownBlock ≠ some (A x.p) := by rw [hwh]; exact h.apart_row hx hx
  have hkid : ∀ r ∈ rootR :: withoutL t q true, kids (withoutL t q true) r.p = if r.p = x.p then kidsBut t x.p q else kids t r.p := fun r hr => by
    obtain ⟨_, h2, h3⟩ := hmem r hr
    rw [kids_without hpath hq ⟨h2, h3⟩]
    by_cases he : r.p = x.p
    · rw [if_pos he, he, hxp]
      unfold kidsBut
      simp
    · rw [if_neg he]
      have : ¬ parO q = r.p := fun e => he (by rw [hxp, e])
      simp [this]
  refine ⟨fun r hr => ?_, fun r hr => h.own r (hmem r hr).1, fun r hr => ?_, fun r hr y hy hne g hg => ?_⟩
  · have hrt := (hmem r hr).1
    by_cases he : r.p = x.p
    · obtain rfl := dom_once hs hpath hrt hx he
      rw [if_pos rfl, setCell_block ((hb9 r hrt).trans (h.block r hrt)) 5 v']
      rfl
    · rw [if_neg he, Below.heap_setCell _ _ _ _ (fun e => he (h.inj hrt hx e)), hb9 r hrt]
      exact h.block r hrt
  · have hrt := (hmem r hr).1
    rw [hkid r hr]
    by_cases he : r.p = x.p
    · rw [if_pos he, if_pos he]
      exact ownsRow_setCell_other hown hvx _
    · rw [if_neg he, if_neg he]
      have hk := (h.row r hrt).kept hgrow (by
        cases hc : (S r.p).ownBlock with
        | none => exact .inl rfl
        | some g => exact .inr fun e => h.apart r hrt x hx he g hc e.symm)
      exact ownsRow_setCell_other hk (h.apart_row hx hrt) _
  · have hrt := (hmem r hr).1
    have hyt := (hmem y hy).1
    by_cases her : r.p = x.p
    · have hey : y.p ≠ x.p := fun e => hne (her.trans e.symm)
      rw [if_pos her, hwh] at hg
      rw [if_neg hey]
      exact h.apart x hx y hyt (fun e => hey e.symm) g hg
    · rw [if_neg her] at hg
      by_cases hey : y.p = x.p
      · rw [if_pos hey, hwh]
        exact h.apart r hrt x hx her g hg
      · rw [if_neg hey]
        exact h.apart r hrt y hyt hne g hg
end
end Go.Proofs.YtcbmnihepeefaaaGreatDoor.Recs

/- A tree in memory: remove, of the program. -/
namespace Go.Proofs.YtcbmnihepeefaaaGreatDoor.Recs
set_option maxRecDepth 100000
open Go.RowKit Paths

theorem str_eq_dec (a b : ByteArray) : (a.toList == b.toList) = decide (a = b) := by
  by_cases h : a = b
  · subst h; simp
  · rw [decide_eq_false h, Bool.eq_false_iff]
    exact fun e => h (str_eq_of e)
end Go.Proofs.YtcbmnihepeefaaaGreatDoor.Recs
