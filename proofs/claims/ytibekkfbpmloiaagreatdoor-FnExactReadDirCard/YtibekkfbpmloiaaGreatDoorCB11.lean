/- Parts of several texts of mine in one file (each begins with its own remark). -/
import Derived.Test.YtibekkfbpmloiaaGreatDoorCA1
import Derived.Test.YtibekkfbpmloiaaGreatDoorCA10
import Derived.Test.YtibekkfbpmloiaaGreatDoorCA11
import Derived.Test.YtibekkfbpmloiaaGreatDoorCA12
import Derived.Test.YtibekkfbpmloiaaGreatDoorCA14
import Derived.Test.YtibekkfbpmloiaaGreatDoorCA15
import Derived.Test.YtibekkfbpmloiaaGreatDoorCA17
import Derived.Test.YtibekkfbpmloiaaGreatDoorCA18
import Derived.Test.YtibekkfbpmloiaaGreatDoorCA19
import Derived.Test.YtibekkfbpmloiaaGreatDoorCA2
import Derived.Test.YtibekkfbpmloiaaGreatDoorCA3
import Derived.Test.YtibekkfbpmloiaaGreatDoorCA4
import Derived.Test.YtibekkfbpmloiaaGreatDoorCA5
import Derived.Test.YtibekkfbpmloiaaGreatDoorCA6
import Derived.Test.YtibekkfbpmloiaaGreatDoorCA8
import Derived.Test.YtibekkfbpmloiaaGreatDoorCB10
import Derived.Test.YtibekkfbpmloiaaGreatDoorCB3
import Derived.Test.YtibekkfbpmloiaaGreatDoorCB4
import Derived.Test.YtibekkfbpmloiaaGreatDoorCB5
import Derived.Test.YtibekkfbpmloiaaGreatDoorCB8
import Derived.Test.YtibekkfbpmloiaaGreatDoorCB9
import Derived.Test.YtibekkfbpmloiaaGreatDoorChecked
import Derived.Test.YtibekkfbpmloiaaGreatDoorShelf
import Derived.Test.YtibekkfbpmloiaaGreatDoorProg
import Derived.Test.YtibekkfbpmloiaaGreatDoorRows
import Derived.Laws.EntriesVeiled
import Derived.Deep.Slices
import Derived.OpenShut
import Derived.ShutString
import Derived.ChangeArms
import Derived.WideShapes
import Derived.Lib.LaidTab
import Derived.BigQuiet
import Derived.Deep.QuietTactic
import Derived.Deep.RegionHeld3
import Derived.StillTailTactics
import Derived.Deep.Draws
import Derived.Deep.LoopGhost
import Derived.WalkKit
import Derived.WalkSpells
import Derived.WalkSmall
import Derived.Lib.OthersKept
import Derived.Lib.Hide
import Derived.Lib.Strings
import Derived.Lib.Join
import Derived.Laws.OwnMore
import Derived.BigRegion
import Derived.Laws.BytesArg
import Derived.WalkLawsBesides
import Derived.RangeFuncNested
import Derived.RangeFuncBound
import Derived.RangeFuncCalls
import Derived.RangeFuncLeaves
import Derived.RangeFuncBox
import Derived.Shelf.Abstract
import Derived.Shelf.RegionOpen
import Derived.OwnWalkIn
import Derived.TacticsInMore
import Derived.LoopNIn
import Derived.LoopIn
import Derived.Stop.LaidErr
import Derived.LaidEql
import Derived.Stop.Asserts
import Derived.Below
import Derived.Stop.LaidTwo
import Derived.ChangeVars
import Derived.Deep.DeepHandedRow
import Derived.Deep.RegionWith
import Derived.OneCell
import Derived.Lib.SliceRun
import Derived.Lib.Overlaps
import Derived.Lib.AppendZerosOnto
import Derived.Laws.NewBlocks
import Derived.Laws.IdiomCopy
import Derived.Deep.RegionLaw
import Derived.Deep.AppendLies
import Derived.Laws.AppendOwn
/- Queries: Walk, ReadDir, of the program. Conditions: the table of kinds, the two sentinels. -/
namespace Go.Proofs.YtibekkfbpmloiaaGreatDoor.Recs
set_option maxRecDepth 100000
open Go.RowKit Paths Errs

theorem walkP_len (W : List (R × Nat)) (q : ByteArray) : (walkP W q).length ≤ W.length := by
  unfold walkP
  rw [List.length_map]
  exact List.length_filter_le _ _
set_option maxHeartbeats 3200000 in
theorem Walk_impl (v : Value) (LL : List (List R)) (q : ByteArray) (x y : Addr) (w : World) (h : StkSl w v LL) (hl : LL.length ≤ 1048576) (hr : ∀ l ∈ LL, l.length ≤ 1048576 ∧ ∀ r ∈ l, r.p.size ≤ maxLen) (hqm : q.size ≤ maxLen) (hT : Three w x y) :
    Calls Tryz.prog 26 #[v, .string q] w fun e w' => ∃ z, e = .returned (.tuple #[z, .int .i64 (wkC (qR LL q))]) ∧ Below w.heap.size w w' ∧ w'.ownsRow w.heap.size 9 1 z (WalkL LL q).length ((WalkL LL q).map strV) := by
  obtain ⟨i0, hi, hz0, hz1, hz2⟩ := info_parts strInfo
  have HF := findPlace_any v LL q x y _ h hl hr hqm hT
  have HBAD : Hid (∀ c : Int, wkC (qR LL q) = c → c ≠ 0 → WalkL LL q = []) := fun c h1 h2 => if_neg (by rw [h1]; exact h2)
  have HOKQ : Hid (wkC (qR LL q) = 0 → WalkL LL q = bts (walkT LL q) ∧ stackOK LL = true ∧ (q.size = 0 ∨ pathB q.data.toList = true)) := fun h => ⟨if_pos h, cq_ok (wk_code h)⟩
  have HWIN : Hid (∀ W, Below w.heap.size w W → LL.length ≤ 5 → (∀ l ∈ LL, layerOK l = true) → Calls Tryz.prog 41 #[v] W fun e w' => ∃ x, e = .returned x ∧ Below W.heap.size W w' ∧ RowP w' W.heap.size x (wins LL).length (wins LL)) := fun W hb h5 hok => winnersOf_any v LL W (h.below hb) h5 hok
  have HALL : Hid (stackOK LL = true → (q.size = 0 ∨ pathB q.data.toList = true) → walkP (wins LL) q = walkT LL q) := fun ho hq => walk_all (fun l hm => fine_layer ((stack_of ho).2 l hm)) hq
  have HPA : Hid (stackOK LL = true → ∀ p ∈ wins LL, p.1.p.size ≤ maxLen) := fun ho p hp => by
    have hfine : ∀ l ∈ LL, Fine l := fun l hm => fine_layer ((stack_of ho).2 l hm)
    have := winL_fault hfine p.1 (List.mem_map.2 ⟨p, hp, rfl⟩)
    exact path_max (fault_path this).1
  obtain ⟨vA, vcap, rfl⟩ := h.form
  clear h
  generalize hF : qR LL q = F at *
  obtain ⟨⟨r, n⟩, c⟩ := F
  unfold plV at HF
  dsimp only at HF
  clear hF
  by_cases hc : c = 0
  case neg =>
    have HE : Hid (wkC ((r, n), c) = c) := wk_bad rfl hc
    have HN := Lib.hid (HBAD.out _ HE.out hc)
    have hd : (c != 0) = true := by simpa using hc
    clear hc HBAD HOKQ HWIN HALL
    go_enter Tryz.func26, Tryz.ntmps26
    go_wp2_with fail
    refine HF.mono ?_
    rintro e w1 ⟨hb1, o, rfl⟩
    rcases o with _ | ⟨a, b⟩ <;> (
      unfold fnV
      try unfold entV
      go_wp2_with fail
      go_ret2
      exact ⟨_, by rw [HE.out]; rfl, hb1.alloc hb1.size _, by rw [HN.out]; exact row_none _⟩)
  subst hc
  by_cases hk : r.k = 3
  case neg =>
    have HE : Hid (wkC ((r, n), 0) = 13) := wk_file rfl hk
    have HN := Lib.hid (HBAD.out _ HE.out (by decide))
    have hd : (r.k != 3) = true := by simpa using hk
    clear hk HBAD HOKQ HWIN HALL
    go_enter Tryz.func26, Tryz.ntmps26
    go_wp2_with fail
    refine HF.mono ?_
    rintro e w1 ⟨hb1, o, rfl⟩
    rcases o with _ | ⟨a, b⟩ <;> (
      unfold fnV
      try unfold entV
      go_wp2_with fail
      go_ret2
      exact ⟨_, by rw [HE.out]; rfl, hb1.alloc hb1.size _, by rw [HN.out]; exact row_none _⟩)
  have HE : Hid (wkC ((r, n), 0) = 0) := wk_dir rfl hk
  obtain ⟨hWL, hso, hq⟩ := HOKQ.out HE.out
  have hst := stack_of hso
  have HN := Lib.hid hWL
  have HA2 := Lib.hid (HALL.out hso hq)
  have HP2 := Lib.hid (HPA.out hso)
  have HW2 := fun W hb => HWIN.out W hb hst.1 hst.2
  have hW80 := wins_80 hso
  have hd : (r.k != 3) = false := by simpa using hk
  clear hk HBAD HOKQ HWIN HALL HPA hWL hso hq hst
  go_enter Tryz.func26, Tryz.ntmps26
  go_wp2_with fail
  refine HF.mono ?_
  rintro e w1 ⟨hb1, o, rfl⟩
  have c2 : Hid (∀ f, Below w.heap.size w (w1.alloc (.cells #[.int .i64 r.k, .string r.p, .string r.b, .int .i64 r.m, .bool r.o, .int .i64 (n : Int), f] 58))) := fun f => hb1.alloc hb1.size _
  generalize hWW : wins LL = WW at *
  clear hWW
  rcases o with _ | ⟨a, b⟩
  · unfold fnV
    try unfold entV
    have hc2 := c2.out .nilFunc
    go_wp2_with fail
    refine (HW2 _ hc2).mono ?_
    rintro e w4 ⟨gv, rfl, hb4, hg4⟩
    have c4 := hc2.trans (hb4.mono hc2.size)
    obtain ⟨gA, gcap, rfl⟩ := hg4.form
    have HG4 := Lib.hid hg4
    clear hg4 HW2
    go_wp2_with fail
    go_loopw [8, 30] (fun f i wr => ∃ (k : Nat) (M : List ByteArray), k ≤ WW.length ∧ i = .int .i64 k ∧ Hid (M = walkP (WW.take k) q) ∧ Hid (wr.ownsRow w4.heap.size 9 1 f (bts M).length ((bts M).map strV)) ∧ Below w4.heap.size w4 wr) (fun _ i _ => WW.length - (intOf i).toNat)
    case atStart => exact ⟨0, [], by omega, rfl, rfl, row_none _, Below.refl _ _⟩
    case round =>
      obtain ⟨k, M, hk, rfl, HM, HRO, hbw⟩ := hrel
      have hbv := c4.trans (hbw.mono c4.size)
      obtain ⟨fA, fcap, hfe⟩ := own_form HRO.out
      subst hfe
      by_cases hlt : k < WW.length
      · obtain ⟨g, cap, hge, hpc⟩ := win_cells (HG4.out.below hbw) hlt
        cases hge
        have HST := Lib.hid (walk_step hlt q)
        obtain ⟨⟨p0, p1, p2, p3, p4⟩, p5⟩ := hpc
        have hMl : (bts M).length ≤ 80 := by
          rw [bts_len, HM.out]
          have := walkP_len (WW.take k) q
          rw [List.length_take] at this
          omega
        have hi1 : (k : Int) < (WW.length : Int) := by omega
        have hi0 : (0 : Int) ≤ (k : Int) := by omega
        have hps := HP2.out _ (List.getElem_mem hlt)
        generalize hP : WW[k] = P at *
        clear hP
        have cA := hbw.alloc hbw.size (.cells #[.int .i64 P.1.k, .string P.1.p, .string P.1.b, .int .i64 P.1.m, .bool P.1.o, .int .i64 (P.2 : Int)] 55)
        have bA : Below wr.heap.size wr (wr.alloc (.cells #[.int .i64 P.1.k, .string P.1.p, .string P.1.b, .int .i64 P.1.m, .bool P.1.o, .int .i64 (P.2 : Int)] 55)) := (Below.refl _ _).alloc (Nat.le_refl _) _
        have HBX : Hid (Pbox (wr.alloc (.cells #[.int .i64 P.1.k, .string P.1.p, .string P.1.b, .int .i64 P.1.m, .bool P.1.o, .int .i64 (P.2 : Int)] 55)) wr.heap.size P) := alloc_here _ _
        have hsA : wr.heap.size < (wr.alloc (.cells #[.int .i64 P.1.k, .string P.1.p, .string P.1.b, .int .i64 P.1.m, .bool P.1.o, .int .i64 (P.2 : Int)] 55)).heap.size := by simp
        have HV := fun W => isVisible_any P W
        unfold pv at HV
        have HIB := fun W => isBelow_impl P.1.p q W hps hqm
        have HRA := Lib.hid (own_below HRO.out bA)
        have hK1 : k + 1 ≤ WW.length := hlt
        clear hlt
        go_wp2_with fail
        refine (HV _).mono ?_
        rintro e w5 ⟨rfl, hb5⟩
        have c5 := cA.trans (hb5.mono cA.size)
        have HBX5 := Lib.hid (HBX.out.below hb5 hsA)
        obtain ⟨⟨x0, x1, _⟩, _⟩ := HBX5.out.cells
        simp only [Nat.zero_add] at x1
        have s5 := Nat.lt_of_lt_of_le hsA hb5.size
        have HR5 := Lib.hid (own_below HRA.out hb5)
        clear p0 p1 p2 p3 p4 p5 x0 HV
        cases hs : seenP P with
        | false =>
          have HNX : Hid (M = walkP (WW.take (k + 1)) q) := by show _ = _; rw [HST.out, hs, HM.out]; rfl
          clear hs
          go_wp2_with fail
          exact ⟨⟨k + 1, M, by omega, by go_num, HNX, HR5.out, c5⟩, by simp [intOf]; omega⟩
        | true =>
          have HS := Lib.hid hs
          clear hs
          go_wp2_with fail
          refine (HIB _).mono ?_
          rintro e w6 ⟨rfl, hb6⟩
          have c6 := c5.trans (hb6.mono c5.size)
          obtain ⟨⟨x0, y1, _⟩, _⟩ := (HBX5.out.below hb6 s5).cells
          simp only [Nat.zero_add] at y1
          have HR6 := Lib.hid (own_below HR5.out hb6)
          clear x1 x0
          cases hb : isBelowB P.1.p q with
          | false =>
            have HNX : Hid (M = walkP (WW.take (k + 1)) q) := by show _ = _; rw [HST.out, HS.out, hb, HM.out]; rfl
            clear hb
            go_wp2_with fail
            exact ⟨⟨k + 1, M, by omega, by go_num, HNX, HR6.out, c6⟩, by simp [intOf]; omega⟩
          | true =>
            have HNX : Hid (M ++ [P.1.p] = walkP (WW.take (k + 1)) q) := by show _ = _; rw [HST.out, HS.out, hb, HM.out]; rfl
            have hzz := c6.size
            clear hb
            go_wp2_with (first
              | (at_builtin; refine wpList_append_own _ rfl _ _ 33 rfl w4.heap.size 9 i0 (.string ByteArray.empty) 1 16 Tryz.underlying33 hi hz0 hz1 hz2 rfl (by decide) _ _ _ rfl (HR6.out.alloc _) ⟨w6.heap.size, 0, none⟩ 1 1 [.string P.1.p] rfl rfl (cell_one_new _ _ _) (fun x hx => by simp at hx; subst hx; rfl) (by unfold maxLen; omega) (by omega) (by simp; omega) ?_; intro v' w9 hown' hgrow9 hnil9))
            exact ⟨⟨k + 1, M ++ [P.1.p], by omega, by go_num, HNX, by
              show World.ownsRow _ _ _ _ _ _ _
              rw [bts_snoc]
              exact str_snoc hown', (c6.alloc c6.size _).grown hgrow9 (c6.alloc c6.size _).size (fun j hj => (HR6.out.lt j hj).1)⟩, by simp [intOf]; omega⟩
      · have HFI : Hid (bts M = WalkL LL q) := by show _ = _; rw [HN.out, HM.out, List.take_of_length_le (by omega), HA2.out]
        have hi1 : ¬ ((k : Int) < (WW.length : Int)) := by omega
        go_wp2
        go_ret2
        exact ⟨_, by rw [HE.out]; rfl, hbv, by rw [← HFI.out]; exact own_low HRO.out c4.size⟩
  · unfold fnV
    try unfold entV
    have hc2 := c2.out (entV a b)
    unfold entV at hc2
    go_wp2_with fail
    refine (HW2 _ hc2).mono ?_
    rintro e w4 ⟨gv, rfl, hb4, hg4⟩
    have c4 := hc2.trans (hb4.mono hc2.size)
    obtain ⟨gA, gcap, rfl⟩ := hg4.form
    have HG4 := Lib.hid hg4
    clear hg4 HW2
    go_wp2_with fail
    go_loopw [8, 30] (fun f i wr => ∃ (k : Nat) (M : List ByteArray), k ≤ WW.length ∧ i = .int .i64 k ∧ Hid (M = walkP (WW.take k) q) ∧ Hid (wr.ownsRow w4.heap.size 9 1 f (bts M).length ((bts M).map strV)) ∧ Below w4.heap.size w4 wr) (fun _ i _ => WW.length - (intOf i).toNat)
    case atStart => exact ⟨0, [], by omega, rfl, rfl, row_none _, Below.refl _ _⟩
    case round =>
      obtain ⟨k, M, hk, rfl, HM, HRO, hbw⟩ := hrel
      have hbv := c4.trans (hbw.mono c4.size)
      obtain ⟨fA, fcap, hfe⟩ := own_form HRO.out
      subst hfe
      by_cases hlt : k < WW.length
      · obtain ⟨g, cap, hge, hpc⟩ := win_cells (HG4.out.below hbw) hlt
        cases hge
        have HST := Lib.hid (walk_step hlt q)
        obtain ⟨⟨p0, p1, p2, p3, p4⟩, p5⟩ := hpc
        have hMl : (bts M).length ≤ 80 := by
          rw [bts_len, HM.out]
          have := walkP_len (WW.take k) q
          rw [List.length_take] at this
          omega
        have hi1 : (k : Int) < (WW.length : Int) := by omega
        have hi0 : (0 : Int) ≤ (k : Int) := by omega
        have hps := HP2.out _ (List.getElem_mem hlt)
        generalize hP : WW[k] = P at *
        clear hP
        have cA := hbw.alloc hbw.size (.cells #[.int .i64 P.1.k, .string P.1.p, .string P.1.b, .int .i64 P.1.m, .bool P.1.o, .int .i64 (P.2 : Int)] 55)
        have bA : Below wr.heap.size wr (wr.alloc (.cells #[.int .i64 P.1.k, .string P.1.p, .string P.1.b, .int .i64 P.1.m, .bool P.1.o, .int .i64 (P.2 : Int)] 55)) := (Below.refl _ _).alloc (Nat.le_refl _) _
        have HBX : Hid (Pbox (wr.alloc (.cells #[.int .i64 P.1.k, .string P.1.p, .string P.1.b, .int .i64 P.1.m, .bool P.1.o, .int .i64 (P.2 : Int)] 55)) wr.heap.size P) := alloc_here _ _
        have hsA : wr.heap.size < (wr.alloc (.cells #[.int .i64 P.1.k, .string P.1.p, .string P.1.b, .int .i64 P.1.m, .bool P.1.o, .int .i64 (P.2 : Int)] 55)).heap.size := by simp
        have HV := fun W => isVisible_any P W
        unfold pv at HV
        have HIB := fun W => isBelow_impl P.1.p q W hps hqm
        have HRA := Lib.hid (own_below HRO.out bA)
        have hK1 : k + 1 ≤ WW.length := hlt
        clear hlt
        go_wp2_with fail
        refine (HV _).mono ?_
        rintro e w5 ⟨rfl, hb5⟩
        have c5 := cA.trans (hb5.mono cA.size)
        have HBX5 := Lib.hid (HBX.out.below hb5 hsA)
        obtain ⟨⟨x0, x1, _⟩, _⟩ := HBX5.out.cells
        simp only [Nat.zero_add] at x1
        have s5 := Nat.lt_of_lt_of_le hsA hb5.size
        have HR5 := Lib.hid (own_below HRA.out hb5)
        clear p0 p1 p2 p3 p4 p5 x0 HV
        cases hs : seenP P with
        | false =>
          have HNX : Hid (M = walkP (WW.take (k + 1)) q) := by show _ = _; rw [HST.out, hs, HM.out]; rfl
          clear hs
          go_wp2_with fail
          exact ⟨⟨k + 1, M, by omega, by go_num, HNX, HR5.out, c5⟩, by simp [intOf]; omega⟩
        | true =>
          have HS := Lib.hid hs
          clear hs
          go_wp2_with fail
          refine (HIB _).mono ?_
          rintro e w6 ⟨rfl, hb6⟩
          have c6 := c5.trans (hb6.mono c5.size)
          obtain ⟨⟨x0, y1, _⟩, _⟩ := (HBX5.out.below hb6 s5).cells
          simp only [Nat.zero_add] at y1
          have HR6 := Lib.hid (own_below HR5.out hb6)
          clear x1 x0
          cases hb : isBelowB P.1.p q with
          | false =>
            have HNX : Hid (M = walkP (WW.take (k + 1)) q) := by show _ = _; rw [HST.out, HS.out, hb, HM.out]; rfl
            clear hb
            go_wp2_with fail
            exact ⟨⟨k + 1, M, by omega, by go_num, HNX, HR6.out, c6⟩, by simp [intOf]; omega⟩
          | true =>
            have HNX : Hid (M ++ [P.1.p] = walkP (WW.take (k + 1)) q) := by show _ = _; rw [HST.out, HS.out, hb, HM.out]; rfl
            have hzz := c6.size
            clear hb
            go_wp2_with (first
              | (at_builtin; refine wpList_append_own _ rfl _ _ 33 rfl w4.heap.size 9 i0 (.string ByteArray.empty) 1 16 Tryz.underlying33 hi hz0 hz1 hz2 rfl (by decide) _ _ _ rfl (HR6.out.alloc _) ⟨w6.heap.size, 0, none⟩ 1 1 [.string P.1.p] rfl rfl (cell_one_new _ _ _) (fun x hx => by simp at hx; subst hx; rfl) (by unfold maxLen; omega) (by omega) (by simp; omega) ?_; intro v' w9 hown' hgrow9 hnil9))
            exact ⟨⟨k + 1, M ++ [P.1.p], by omega, by go_num, HNX, by
              show World.ownsRow _ _ _ _ _ _ _
              rw [bts_snoc]
              exact str_snoc hown', (c6.alloc c6.size _).grown hgrow9 (c6.alloc c6.size _).size (fun j hj => (HR6.out.lt j hj).1)⟩, by simp [intOf]; omega⟩
      · have HFI : Hid (bts M = WalkL LL q) := by show _ = _; rw [HN.out, HM.out, List.take_of_length_le (by omega), HA2.out]
        have hi1 : ¬ ((k : Int) < (WW.length : Int)) := by omega
        go_wp2
        go_ret2
        exact ⟨_, by rw [HE.out]; rfl, hbv, by rw [← HFI.out]; exact own_low HRO.out c4.size⟩

end Go.Proofs.YtibekkfbpmloiaaGreatDoor.Recs
