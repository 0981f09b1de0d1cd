/- Parts of several texts of mine in one file (each begins with its own remark). -/
import Derived.Test.YtibekkfbpmloiabGreatDoorHA1
import Derived.Test.YtibekkfbpmloiabGreatDoorHA10
import Derived.Test.YtibekkfbpmloiabGreatDoorHA11
import Derived.Test.YtibekkfbpmloiabGreatDoorHA12
import Derived.Test.YtibekkfbpmloiabGreatDoorHA14
import Derived.Test.YtibekkfbpmloiabGreatDoorHA15
import Derived.Test.YtibekkfbpmloiabGreatDoorHA16
import Derived.Test.YtibekkfbpmloiabGreatDoorHA17
import Derived.Test.YtibekkfbpmloiabGreatDoorHA19
import Derived.Test.YtibekkfbpmloiabGreatDoorHA2
import Derived.Test.YtibekkfbpmloiabGreatDoorHA20
import Derived.Test.YtibekkfbpmloiabGreatDoorHA21
import Derived.Test.YtibekkfbpmloiabGreatDoorHA22
import Derived.Test.YtibekkfbpmloiabGreatDoorHA23
import Derived.Test.YtibekkfbpmloiabGreatDoorHA24
import Derived.Test.YtibekkfbpmloiabGreatDoorHA3
import Derived.Test.YtibekkfbpmloiabGreatDoorHA4
import Derived.Test.YtibekkfbpmloiabGreatDoorHA5
import Derived.Test.YtibekkfbpmloiabGreatDoorHA6
import Derived.Test.YtibekkfbpmloiabGreatDoorHA7
import Derived.Test.YtibekkfbpmloiabGreatDoorHA8
import Derived.Test.YtibekkfbpmloiabGreatDoorHA9
import Derived.Test.YtibekkfbpmloiabGreatDoorChecked
import Derived.Test.YtibekkfbpmloiabGreatDoorShelf
import Derived.Test.YtibekkfbpmloiabGreatDoorProg
import Derived.Test.YtibekkfbpmloiabGreatDoorRows
import Derived.Deep.AppendLies
import Derived.Laws.IdiomCopy
import Derived.BigRegion
import Derived.StillTailTactics
import Derived.Deep.Slices
import Derived.OpenShut
import Derived.ShutString
import Derived.ChangeArms
import Derived.WideShapes
import Derived.Lib.LaidTab
import Derived.BigQuiet
import Derived.Deep.QuietTactic
import Derived.Deep.RegionHeld3
import Derived.Deep.Draws
import Derived.Deep.LoopGhost
import Derived.WalkKit
import Derived.WalkSpells
import Derived.WalkSmall
import Derived.Lib.OthersKept
import Derived.Lib.Hide
import Derived.Lib.Strings
import Derived.Lib.Join
import Derived.Laws.OwnMore
import Derived.Laws.BytesArg
import Derived.Stop.LaidErr
import Derived.WalkLawsBesides
import Derived.LaidEql
import Derived.Stop.Asserts
import Derived.Below
import Derived.Stop.LaidTwo
import Derived.ChangeVars
import Derived.Deep.DeepHandedRow
import Derived.Deep.RegionWith
import Derived.OneCell
import Derived.Lib.SliceRun
import Derived.Lib.Overlaps
import Derived.Lib.AppendZerosOnto
import Derived.Laws.NewBlocks
import Derived.Deep.RegionLaw
import Derived.RangeFuncNested
import Derived.RangeFuncBound
import Derived.RangeFuncCalls
import Derived.RangeFuncLeaves
import Derived.RangeFuncBox
import Derived.Shelf.Abstract
import Derived.Shelf.RegionOpen
import Derived.OwnWalkIn
import Derived.TacticsInMore
import Derived.LoopNIn
import Derived.LoopIn
/- PathsOf, of the program. Conditions: the table of kinds, the two sentinels. -/
namespace Go.Proofs.YtibekkfbpmloiabGreatDoor.Recs
set_option maxRecDepth 100000
open Go.RowKit Paths Errs

def bts (P : List ByteArray) : List (List UInt8) := P.map fun q => q.data.toList
theorem bts_step {P : List ByteArray} {k : Nat} (hk : k < P.length) : bts (P.take (k + 1)) = bts (P.take k) ++ [P[k].data.toList] := by
  unfold bts
  rw [List.take_add_one, List.getElem?_eq_getElem hk, List.map_append]
  rfl
def poR (LL : List (List R)) : List (List UInt8) := if codeS LL = 0 then bts (pathsL LL) else []
theorem po_ok {LL : List (List R)} (h : codeS LL = 0) : poR LL = bts (pathsL LL) := if_pos h
theorem po_bad {LL : List (List R)} {c : Int} (h : codeS LL = c) (hc : c ≠ 0) : poR LL = [] := if_neg (by rw [h]; exact hc)
theorem grp_head {LL : List (List R)} (hs : ∀ l ∈ LL, layerOK l = true) {q : ByteArray} (hq : q ∈ pathsL LL) : ∃ a t, grp LL q = a :: t ∧ a.1.p = q := by
  have hsr : ∀ l ∈ LL, Sorted l := fun l hm => layer_sorted (hs l hm)
  obtain ⟨l, hl, r, hr, hrp⟩ := (pathsL_mem LL q).1 hq
  obtain ⟨i, hi, rfl⟩ := List.getElem_of_mem hl
  have hm : (r, i + 1) ∈ grp LL q := (grp_all hsr q (r, i + 1)).2 ⟨hrp, LL[i], by omega, by rw [Nat.add_sub_cancel]; exact List.getElem?_eq_getElem hi, hr⟩
  cases hg : grp LL q with
  | nil => rw [hg] at hm; cases hm
  | cons a t => exact ⟨a, t, rfl, ((grp_all hsr q a).1 (by rw [hg]; exact List.mem_cons_self ..)).1⟩

theorem row_apart {w : World} {b b' : Nat} {T T' : TypeId} {k k' : Nat} {u v : Value} {n m : Nat} {xs ys : List Value} (hT : T ≠ T') (h : w.ownsRow b T k u n xs) (hk : w.ownsRow b' T' k' v m ys) : u.ownBlock = none ∨ u.ownBlock ≠ v.ownBlock := by
  rcases hk.2 with ⟨rfl, _⟩ | ⟨g, cap, cur, rfl, _, hg, _⟩
  · cases hu : u.ownBlock with
    | none => exact .inl rfl
    | some c => exact .inr (fun e => by cases e)
  · exact .inr (own_not h hT hg)
theorem GrpOwn.keptS {w w' : World} {b b' n : Nat} {v f : Value} {us xs : List Value} {Gs : List (List (R × Nat))} (h : GrpOwn w b v us Gs) (hg : w.grownBy w' f.ownBlock) (ho : w.ownsRow b' 9 1 f n xs) : GrpOwn w' b v us Gs :=
  ⟨h.len, h.own.kept hg (row_apart (by decide) h.own ho), fun i u g hi hq => RowG.kept (h.rows i u g hi hq) hg (row_apart (by decide) (h.rows i u g hi hq).2 ho), h.apart⟩

set_option maxHeartbeats 1600000 in
theorem pathsOf_impl (v : Value) (LL : List (List R)) (x y : Addr) (w : World) (h : StkSl w v LL) (hl : LL.length ≤ 1048576) (hr : ∀ l ∈ LL, l.length ≤ 1048576 ∧ ∀ r ∈ l, r.p.size ≤ maxLen) (hT : Three w x y) :
    Calls Tryz.prog 36 #[v] w fun e w' => ∃ z, e = .returned (.tuple #[z, .int .i64 (codeS LL)]) ∧ Below w.heap.size w w' ∧ w'.ownsRow w.heap.size 9 1 z (poR LL).length ((poR LL).map strV) := by
  obtain ⟨i0, hi, hz0, hz1, hz2⟩ := info_parts strInfo
  have HARG : euFrom [(stkE LL).u] 0 = codeS LL := arg_s LL
  by_cases h0 : codeS LL = 0
  · obtain ⟨hc, hSO⟩ := fine_s h0
    have H0 := Lib.hid h0
    have HC := stackU_any v LL x y w h hl hr hT
    rw [hc] at HC
    unfold EN.u EU.val at HC
    have hst := stack_of hSO
    have hP80 := pathsL_len (LL := LL) (fun l hm => layer_len (hst.2 l hm)) hst.1
    have HGH : Hid (∀ q ∈ pathsL LL, ∃ a t, grp LL q = a :: t ∧ a.1.p = q) := fun q hq => grp_head hst.2 hq
    have HGO := fun w1 hb => groupsOf_any v LL w1 (h.below hb) hst.1 hst.2
    clear HARG h0 hst h
    go_enter Tryz.func36, Tryz.ntmps36
    go_wp2_with fail
    refine HC.mono ?_
    rintro e w1 ⟨rfl, hb1⟩
    have hT1 := hT.below hb1 (Nat.le_refl _)
    have HA := argU1_any .fine x y w1 hT1
    unfold EU.val at HA
    go_wp2_with fail
    refine HA.mono ?_
    rintro e w3 ⟨rfl, hb3⟩
    have c3 := hb1.trans (hb3.mono hb1.size)
    have hcode : euFrom [.fine] 0 = 0 := rfl
    rw [hcode]
    clear hcode
    go_wp2_with fail
    refine (HGO w3 c3).mono ?_
    rintro e w4 ⟨gv, us, rfl, hb4, hg4⟩
    have c4 := c3.trans (hb4.mono c3.size)
    obtain ⟨gA, gcap, rfl⟩ := own_form hg4.own
    have hgl : Hid (((pathsL LL).map (grp LL)).length = (pathsL LL).length) := List.length_map _
    have hul : us.length = (pathsL LL).length := hg4.len.trans hgl.out
    have HG4 := Lib.hid hg4
    clear HGO hg4
    rw [hgl.out]
    go_wp2_with fail
    go_loopw [5, 18] (fun f i wr => ∃ (k : Nat) (M : List (List UInt8)), k ≤ (pathsL LL).length ∧ i = .int .i64 k ∧ Hid (M = bts ((pathsL LL).take k)) ∧ Hid (M.length = k) ∧ wr.ownsRow w.heap.size 9 1 f M.length (M.map strV) ∧ Below w.heap.size w wr ∧ Hid (GrpOwn wr w3.heap.size (.slice gA (pathsL LL).length gcap) us ((pathsL LL).map (grp LL)))) (fun _ i _ => (pathsL LL).length - (intOf i).toNat)
    case atStart => exact ⟨0, [], by omega, rfl, rfl, rfl, World.ownsRow_nil _ _ _ _, c4, by have := HG4.out; rw [hgl.out] at this; exact this⟩
    case round =>
      obtain ⟨k, M, hk, rfl, HM, hMk, hown, hbw, HG⟩ := hrel
      by_cases hlt : k < (pathsL LL).length
      · obtain ⟨a, t, hg, hap⟩ := HGH.out _ (List.getElem_mem hlt)
        have hgk : ((pathsL LL).map (grp LL))[k]? = some (a :: t) := by rw [List.getElem?_map, List.getElem?_eq_getElem hlt, Option.map_some, hg]
        have huk : us[k]? = some (us[k]'(by omega)) := List.getElem?_eq_getElem _
        have hru := HG.out.rows k _ (a :: t) huk hgk
        obtain ⟨gu, c, hue, _, hgu, _, _⟩ := RowG.atom hru (by simp)
        have hown0 := HG.out.own
        rw [hgl.out] at hown0
        obtain ⟨go, cap, hve, hgo⟩ : ∃ go cap, (Value.slice gA (pathsL LL).length gcap) = .slice (some ⟨go, 0, none⟩) (pathsL LL).length cap ∧ go < wr.heap.size := by
          rcases hown0.2 with ⟨_, h0⟩ | ⟨g, cap, cur, e, _, h2, _⟩
          · omega
          · exact ⟨g, cap, e, (Array.getElem?_eq_some_iff.1 h2).1⟩
        have hcu : wr.cell? ⟨go, k, none⟩ = some (us[k]'(by omega)) := by
          rw [hve] at hown0
          have := hown0.cellAt k (by omega)
          rw [huk] at this
          exact this
        rw [hue] at hru hcu
        have hca := RowG.cell csP_len hru (i := 0) (c := 1) (by simp) (by omega)
        simp only [csP, List.getElem?_cons_zero, List.getElem?_cons_succ, List.getElem_cons_zero, Nat.zero_mul, Nat.zero_add] at hca
        cases hve
        have hi1 : (k : Int) < ((pathsL LL).length : Int) := by omega
        have hi0 : (0 : Int) ≤ (k : Int) := by omega
        obtain ⟨fA, fcap, rfl⟩ := own_form hown
        have HN : Hid (M ++ [a.1.p.data.toList] = bts ((pathsL LL).take (k + 1))) := by show _ = _; rw [bts_step hlt, ← HM.out, hap]
        clear hru hown0 huk hgk hg hap
        have BW : Hid (Below wr.heap.size wr (wr.alloc (.cells #[.string a.1.p] 9))) := (Below.refl _ _).alloc (Nat.le_refl _) _
        have hMl : M.length ≤ 1000 := by have := hMk.out; omega
        have ho1 := hown
        have hsz1 := hbw.size
        go_wp2_with (first
          | (at_builtin; refine wpList_append_own _ rfl _ _ 32 rfl w.heap.size 9 i0 (.string ByteArray.empty) 1 16 Tryz.underlying32 hi hz0 hz1 hz2 rfl (by decide) _ _ _ rfl (ho1.alloc _) ⟨wr.heap.size, 0, none⟩ 1 1 [.string a.1.p] rfl rfl (cell_one_new _ _ _) (fun x hx => by simp at hx; subst hx; rfl) (by unfold maxLen; omega) (by omega) (by simp; omega) ?_; intro v' w9 hown' hgrow9 hnil9))
        exact ⟨⟨k + 1, _, by omega, by go_num, HN, by show _ = _; simp [hMk.out], str_snoc hown', (hbw.alloc hbw.size _).grown hgrow9 (hbw.alloc hbw.size _).size (fun j hj => (hown.lt j hj).1), (HG.out.below BW.out).keptS hgrow9 (ho1.alloc _)⟩, by simp [intOf]; omega⟩
      · have HF : Hid (M = bts (pathsL LL)) := by show _ = _; rw [HM.out, List.take_of_length_le (by omega)]
        go_wp2
        go_ret2
        exact ⟨_, by rw [H0.out]; rfl, hbw, by rw [po_ok H0.out, ← HF.out]; exact hown⟩
  · cases hc : stkE LL <;> (
      rw [hc] at HARG
      first
      | exact absurd (HARG.symm.trans rfl) h0
      | (have HC := stackU_any v LL x y w h hl hr hT
         rw [hc] at HC
         unfold EN.u EU.val at HC
         try unfold errV at HC
         try unfold recV at HC
         obtain ⟨vA, vcap, rfl⟩ := h.form
         go_enter Tryz.func36, Tryz.ntmps36
         go_wp2_with fail
         refine HC.mono ?_
         rintro e w1 ⟨rfl, hb1⟩
         have hT1 := hT.below hb1 (Nat.le_refl _)
         have HA := argU1_any ((stkE LL).u) x y w1 hT1
         rw [hc] at HA
         have hne : (codeS LL != 0) = true := (by simpa using h0)
         have HQ := Lib.hid (po_bad (LL := LL) rfl h0)
         rw [HARG] at HA
         try unfold EN.u at HA
         unfold EU.val at HA
         try unfold errV at HA
         try unfold recV at HA
         generalize hC : codeS LL = C at *
         have HCC := Lib.hid hC
         clear HARG h0 hC
         go_wp2_with fail
         refine HA.mono ?_
         rintro e w3 ⟨rfl, hb3⟩
         have c3 := hb1.trans (hb3.mono hb1.size)
         go_wp2_with fail
         go_ret2
         exact ⟨.slice none 0 0, by first | rfl | (rw [HCC.out]; rfl) | (rw [← HCC.out]; rfl), c3, by rw [HQ.out]; exact World.ownsRow_nil _ _ _ _⟩))
end Go.Proofs.YtibekkfbpmloiabGreatDoor.Recs

/- The winners of all paths, of the program. Conditions: none but a valid stack. -/
namespace Go.Proofs.YtibekkfbpmloiabGreatDoor.Recs
set_option maxRecDepth 100000
open Go.RowKit Paths Errs

def winsOf (LL : List (List R)) (P : List ByteArray) : List (R × Nat) := (P.map (winC LL)).filter fun p => decide (0 < p.2)
theorem wins_of (LL : List (List R)) : wins LL = winsOf LL (pathsL LL) := rfl
theorem wins_step {LL : List (List R)} {P : List ByteArray} {k : Nat} (hk : k < P.length) : winsOf LL (P.take (k + 1)) = if 0 < (winC LL P[k]).2 then winsOf LL (P.take k) ++ [winC LL P[k]] else winsOf LL (P.take k) := by
  unfold winsOf
  rw [List.take_add_one, List.getElem?_eq_getElem hk, Option.toList_some, List.map_append, List.filter_append]
  split
  · rename_i h
    rw [List.map_singleton, List.filter_cons_of_pos (by simpa using h)]
    rfl
  · rename_i h
    rw [List.map_singleton, List.filter_cons_of_neg (by simpa using h)]
    simp
theorem winsOf_len (LL : List (List R)) (P : List ByteArray) : (winsOf LL P).length ≤ P.length := by
  unfold winsOf
  have := List.length_filter_le (fun p : R × Nat => decide (0 < p.2)) (P.map (winC LL))
  rw [List.length_map] at this
  exact this

set_option maxHeartbeats 3200000 in
theorem winnersOf_any (v : Value) (LL : List (List R)) (w : World) (h : StkSl w v LL) (hl : LL.length ≤ 5) (hok : ∀ l ∈ LL, layerOK l = true) :
    Calls Tryz.prog 88 #[v] w fun e w' => ∃ x, e = .returned x ∧ Below w.heap.size w w' ∧ RowP w' w.heap.size x (wins LL).length (wins LL) := by
  obtain ⟨i0, hi, hI0, hI1, hI2⟩ := info_parts placedInfo
  have hfine : ∀ l ∈ LL, Fine l := fun l hm => fine_layer (hok l hm)
  have hP80 := pathsL_len (LL := LL) (fun l hm => layer_len (hok l hm)) hl
  have HGH : Hid (∀ q ∈ pathsL LL, ∃ a t, grp LL q = a :: t ∧ a.1.p = q) := fun q hq => grp_head hok hq
  have HGO := groupsOf_any v LL w h hl hok
  have HCD : Hid (∀ q ∈ pathsL LL, ∀ W, Below w.heap.size w W → Calls Tryz.prog 98 #[v, .string q] W fun e w'' => e = .returned (.int .i64 (cutD LL q)) ∧ Below W.heap.size W w'') := fun q hq W hW => by
    have hp := path_of_path hfine hq
    exact cutDepth_any v LL q W (h.below hW) (by omega) hok hp (path_max hp) (fun l hm r hr => path_max (fault_path (layer_rec (hok l hm) hr)).1)
  have HWN : Hid (∀ q u W, PSl W u (grp LL q) → Calls Tryz.prog 147 #[u, .int .i64 (cutD LL q : Int)] W fun e w'' => e = .returned (pv (winC LL q)) ∧ Below W.heap.size W w'') := fun q u W hu => by
    rw [← overP_win]
    exact winnerOf_any u (grp LL q) (cutD LL q) W hu (by have := grp_len LL q; omega)
  obtain ⟨vA, vcap, rfl⟩ := h.form
  clear hfine
  go_enter Tryz.func88, Tryz.ntmps88
  go_wp2_with fail
  refine HGO.mono ?_
  rintro e w2 ⟨gv, us, rfl, hb2, hg2⟩
  obtain ⟨gA, gcap, rfl⟩ := own_form hg2.own
  have hgl : Hid (((pathsL LL).map (grp LL)).length = (pathsL LL).length) := List.length_map _
  have hul : us.length = (pathsL LL).length := hg2.len.trans hgl.out
  have HG2 := Lib.hid hg2
  clear HGO hg2
  rw [hgl.out]
  go_wp2_with fail
  go_loopw [3, 10] (fun f i wr => ∃ (k : Nat) (M : List (R × Nat)), k ≤ (pathsL LL).length ∧ i = .int .i64 k ∧ Hid (M = winsOf LL ((pathsL LL).take k)) ∧ RowP wr w2.heap.size f M.length M ∧ Below w2.heap.size w2 wr) (fun _ i _ => (pathsL LL).length - (intOf i).toNat)
  case atStart => exact ⟨0, [], by omega, rfl, rfl, RowG.nil, Below.refl _ _⟩
  case round =>
    obtain ⟨k, M, hk, rfl, HM, hrow, hbw⟩ := hrel
    obtain ⟨fA, fcap, rfl⟩ := hrow.form
    have hbv := hb2.trans (hbw.mono hb2.size)
    by_cases hlt : k < (pathsL LL).length
    · have hq := List.getElem_mem hlt
      obtain ⟨a, t, hg, hap⟩ := HGH.out _ hq
      have hgk : ((pathsL LL).map (grp LL))[k]? = some (a :: t) := by rw [List.getElem?_map, List.getElem?_eq_getElem hlt, Option.map_some, hg]
      have huk : us[k]? = some (us[k]'(by omega)) := List.getElem?_eq_getElem _
      have HG := HG2.out.below hbw
      have hru := HG.rows k _ (a :: t) huk hgk
      have HPS : Hid (PSl wr (us[k]'(by omega)) (grp LL (pathsL LL)[k])) := by show PSl _ _ _; rw [hg]; exact RowP.sl hru
      obtain ⟨gu, c, hue, _, hgu, _, _⟩ := RowG.atom hru (by simp)
      have hown0 := HG.own
      rw [hgl.out] at hown0
      obtain ⟨go, cap, hve, hgo⟩ : ∃ go cap, (Value.slice gA (pathsL LL).length gcap) = .slice (some ⟨go, 0, none⟩) (pathsL LL).length cap ∧ go < wr.heap.size := by
        rcases hown0.2 with ⟨_, h0⟩ | ⟨g, cap, cur, e, _, h2, _⟩
        · omega
        · exact ⟨g, cap, e, (Array.getElem?_eq_some_iff.1 h2).1⟩
      have hcu : wr.cell? ⟨go, k, none⟩ = some (us[k]'(by omega)) := by
        rw [hve] at hown0
        have := hown0.cellAt k (by omega)
        rw [huk] at this
        exact this
      rw [hue] at hru hcu HPS
      have hca := RowG.cell csP_len hru (i := 0) (c := 1) (by simp) (by omega)
      simp only [csP, List.getElem?_cons_zero, List.getElem?_cons_succ, List.getElem_cons_zero, Nat.zero_mul, Nat.zero_add] at hca
      rw [hap] at hca
      cases hve
      have hi1 : (k : Int) < ((pathsL LL).length : Int) := by omega
      have hi0 : (0 : Int) ≤ (k : Int) := by omega
      have HCDk := HCD.out _ hq wr hbv
      have HST := Lib.hid (wins_step (LL := LL) hlt)
      have HW := HWN.out (pathsL LL)[k]
      have hMl : M.length ≤ 80 := by
        rw [HM.out]
        have := winsOf_len LL ((pathsL LL).take k)
        rw [List.length_take] at this
        omega
      unfold pv at HW
      generalize hQ : (pathsL LL)[k] = q at *
      generalize hP : winC LL q = P at *
      have HPQ := Lib.hid hP
      clear hru hown0 huk hgk hg hap hQ hP hq
      go_wp2_with fail
      refine HCDk.mono ?_
      rintro e w3 ⟨rfl, hb3⟩
      have c3 := hbw.trans (hb3.mono hbw.size)
      go_wp2_with fail
      refine (HW _ _ (HPS.out.below hb3)).mono ?_
      rintro e w4 ⟨rfl, hb4⟩
      have c4 := c3.trans (hb4.mono c3.size)
      have hr4 := (RowG.below (hrow.below hb3) hb4)
      have cA := c4.alloc c4.size (.cells #[.int .i64 P.1.k, .string P.1.p, .string P.1.b, .int .i64 P.1.m, .bool P.1.o, .int .i64 (P.2 : Int)] 103)
      have hrA := hr4.2.alloc (.cells #[.int .i64 P.1.k, .string P.1.p, .string P.1.b, .int .i64 P.1.m, .bool P.1.o, .int .i64 (P.2 : Int)] 103)
      by_cases hpos : 0 < P.2
      · have HN : Hid (M ++ [P] = winsOf LL ((pathsL LL).take (k + 1))) := by show _ = _; rw [HST.out, if_pos hpos, ← HM.out]
        have hd : decide ((0 : Int) < (P.2 : Int)) = true := decide_eq_true (by omega)
        have hd' : decide (0 < P.2) = true := decide_eq_true hpos
        have HNW : Hid (∀ j u, (csP P)[j]? = some u → ((w4.alloc (.cells #[.int .i64 P.1.k, .string P.1.p, .string P.1.b, .int .i64 P.1.m, .bool P.1.o, .int .i64 (P.2 : Int)] 103)).alloc (.cells #[.int .i64 P.1.k, .string P.1.p, .string P.1.b, .int .i64 P.1.m, .bool P.1.o, .int .i64 (P.2 : Int)] 103)).cell? ((⟨w4.heap.size + 1, 0, none⟩ : Addr).add j) = some u) := by
          have h := csP_new (w4.alloc (.cells #[.int .i64 P.1.k, .string P.1.p, .string P.1.b, .int .i64 P.1.m, .bool P.1.o, .int .i64 (P.2 : Int)] 103)) P 103
          rw [World.size_alloc] at h
          exact h
        have HZ : Hid (w2.heap.size ≤ (w4.alloc (.cells #[.int .i64 P.1.k, .string P.1.p, .string P.1.b, .int .i64 P.1.m, .bool P.1.o, .int .i64 (P.2 : Int)] 103)).heap.size) := cA.size
        have HBX : Hid (Pbox (w4.alloc (.cells #[.int .i64 P.1.k, .string P.1.p, .string P.1.b, .int .i64 P.1.m, .bool P.1.o, .int .i64 (P.2 : Int)] 103)) w4.heap.size P) := alloc_here _ _
        clear HST HCDk HW
        go_wp2_with (first
          | (at_builtin; refine wpList_append_own _ rfl _ _ 100 rfl w2.heap.size 103 i0 (.agg #[.int .i64 0, .string ByteArray.empty, .string ByteArray.empty, .int .i64 0, .bool false, .int .i64 0]) 6 64 Tryz.underlying100 hi hI0 hI1 hI2 rfl (by decide) _ _ _ rfl (hrA.alloc _) ⟨w4.heap.size + 1, 0, none⟩ 1 1 (csP P) rfl rfl HNW.out (csP_one _) (by unfold maxLen; omega) (by omega) (by have := c4.size; simp; omega) ?_; intro v' w9 hown' hgrow9 hnil9))
        exact ⟨⟨k + 1, _, by omega, by go_num, HN, rowP_snoc hown', (cA.alloc cA.size _).grown hgrow9 (cA.alloc cA.size _).size (fun j hj => (hrA.lt j hj).1)⟩, by simp [intOf]; omega⟩
      · have HN : Hid (M = winsOf LL ((pathsL LL).take (k + 1))) := by show _ = _; rw [HST.out, if_neg hpos, ← HM.out]
        have hd : decide ((0 : Int) < (P.2 : Int)) = false := decide_eq_false (by omega)
        have hd' : decide (0 < P.2) = false := decide_eq_false hpos
        clear HST HCDk HW
        go_wp2_with fail
        exact ⟨⟨k + 1, M, by omega, by go_num, HN, ⟨rfl, hrA⟩, cA⟩, by simp [intOf]; omega⟩
    · have HF : Hid (M = wins LL) := by show _ = _; rw [wins_of, HM.out, List.take_of_length_le (by omega)]
      go_wp2
      go_ret
      exact ⟨_, rfl, hbv, by rw [← HF.out]; exact hrow.down hb2.size⟩
end Go.Proofs.YtibekkfbpmloiabGreatDoor.Recs

/- MergeTrace, MergeMany of the program. Conditions: the table of kinds, the two sentinels. -/
namespace Go.Proofs.YtibekkfbpmloiabGreatDoor.Recs
set_option maxRecDepth 100000
open Go.RowKit Paths Errs

/-- A path and the number of a layer. -/
def csK (p : ByteArray × Int) : List Value := [.string p.1, .int .i64 p.2]
theorem csK_one (p : ByteArray × Int) : ∀ u ∈ csK p, u.oneCell' = true := by
  intro u hu
  simp only [csK, List.mem_cons, List.not_mem_nil, or_false] at hu
  rcases hu with rfl | rfl <;> rfl
theorem csK_new (w : World) (p : ByteArray × Int) (t : TypeId) (j : Nat) (u : Value) (h : (csK p)[j]? = some u) : (w.alloc (.cells #[.string p.1, .int .i64 p.2] t)).cell? ((⟨w.heap.size, 0, none⟩ : Addr).add j) = some u := by
  rw [Addr.add_lit]
  match j, h with
  | 0, h => cases h; go_simp
  | 1, h => cases h; go_simp
  | j + 2, h => simp [csK] at h
abbrev RowK (w : World) (base : Nat) (v : Value) (n : Nat) (G : List (ByteArray × Int)) : Prop := RowG csK 2 59 w base v n G
theorem rowK_snoc {w : World} {base : Nat} {v : Value} {M : List (ByteArray × Int)} {p : ByteArray × Int} (h : w.ownsRow base 59 2 v (M.length + 1) (flatG csK M ++ csK p)) : RowK w base v (M ++ [p]).length (M ++ [p]) :=
  ⟨rfl, by rw [flatG_snoc, List.length_append]; exact h⟩
theorem pickInfo : (Tryz.prog.info? 59).map (fun i => (i.zero, i.size, i.bytes)) = some (some (.agg #[.string ByteArray.empty, .int .i64 0]), 2, 24) := by kernel_rfl

def picksL (W : List (R × Nat)) : List (ByteArray × Int) := W.map fun p => (p.1.p, (p.2 : Int))
theorem picks_step {W : List (R × Nat)} {k : Nat} (hk : k < W.length) : picksL (W.take (k + 1)) = picksL (W.take k) ++ [(W[k].1.p, (W[k].2 : Int))] := by
  unfold picksL
  rw [List.take_add_one, List.getElem?_eq_getElem hk, List.map_append]
  rfl
def trR (LL : List (List R)) : List (ByteArray × Int) := if codeS LL = 0 then picksL (wins LL) else []
theorem tr_ok {LL : List (List R)} (h : codeS LL = 0) : trR LL = picksL (wins LL) := if_pos h
theorem tr_bad {LL : List (List R)} {c : Int} (h : codeS LL = c) (hc : c ≠ 0) : trR LL = [] := if_neg (by rw [h]; exact hc)
theorem wins_80 {LL : List (List R)} (h : stackOK LL = true) : (wins LL).length ≤ 80 := by
  have hst := stack_of h
  have := pathsL_len (LL := LL) (fun l hm => layer_len (hst.2 l hm)) hst.1
  have := wins_len LL
  omega
/-- One of the program's winners, in its row. -/
theorem win_cells {wr : World} {b : Nat} {gA : Option Addr} {gcap : Nat} {W : List (R × Nat)} {k : Nat} (h : RowP wr b (.slice gA W.length gcap) W.length W) (hk : k < W.length) : ∃ g cap, Value.slice gA W.length gcap = .slice (some ⟨g, 0, none⟩) W.length cap ∧ PCells wr g (k * 6) W[k] := by
  obtain ⟨g, cap, e, _, hg, _, _⟩ := RowG.atom h (by omega)
  refine ⟨g, cap, e, ?_⟩
  rw [e] at h
  have one : ∀ c, c < 6 → wr.cell? ⟨g, k * 6 + c, none⟩ = (csP W[k])[c]? := fun c hc => RowG.cell csP_len h hk hc
  exact ⟨⟨one 0 (by omega), one 1 (by omega), one 2 (by omega), one 3 (by omega), one 4 (by omega)⟩, one 5 (by omega)⟩

set_option maxHeartbeats 3200000 in
theorem mergeTrace_impl (v : Value) (LL : List (List R)) (x y : Addr) (w : World) (h : StkSl w v LL) (hl : LL.length ≤ 1048576) (hr : ∀ l ∈ LL, l.length ≤ 1048576 ∧ ∀ r ∈ l, r.p.size ≤ maxLen) (hT : Three w x y) :
    Calls Tryz.prog 38 #[v] w fun e w' => ∃ z, e = .returned (.tuple #[z, .int .i64 (codeS LL)]) ∧ Below w.heap.size w w' ∧ RowK w' w.heap.size z (trR LL).length (trR LL) := by
  obtain ⟨i0, hi, hI0, hI1, hI2⟩ := info_parts pickInfo
  have HARG : euFrom [(stkE LL).u] 0 = codeS LL := arg_s LL
  by_cases h0 : codeS LL = 0
  · obtain ⟨hc, hSO⟩ := fine_s h0
    have H0 := Lib.hid h0
    have HC := stackU_any v LL x y w h hl hr hT
    rw [hc] at HC
    unfold EN.u EU.val at HC
    have hst := stack_of hSO
    have h80 := wins_80 hSO
    have HWO := fun w1 hb => winnersOf_any v LL w1 (h.below hb) hst.1 hst.2
    clear HARG h0 hst h
    go_enter Tryz.func38, Tryz.ntmps38
    go_wp2_with fail
    refine HC.mono ?_
    rintro e w1 ⟨rfl, hb1⟩
    have hT1 := hT.below hb1 (Nat.le_refl _)
    have HA := argU1_any .fine x y w1 hT1
    unfold EU.val at HA
    go_wp2_with fail
    refine HA.mono ?_
    rintro e w3 ⟨rfl, hb3⟩
    have c3 := hb1.trans (hb3.mono hb1.size)
    have hcode : euFrom [.fine] 0 = 0 := rfl
    rw [hcode]
    clear hcode
    go_wp2_with fail
    refine (HWO w3 c3).mono ?_
    rintro e w4 ⟨gv, rfl, hb4, hg4⟩
    have c4 := c3.trans (hb4.mono c3.size)
    obtain ⟨gA, gcap, rfl⟩ := hg4.form
    have HG4 := Lib.hid hg4
    clear HWO hg4
    have HWE : Hid (trR LL = picksL (wins LL)) := tr_ok H0.out
    generalize hWW : wins LL = WW at *
    clear hWW
    go_wp2_with fail
    go_loopw [5, 18] (fun f i wr => ∃ (k : Nat) (M : List (ByteArray × Int)), k ≤ WW.length ∧ i = .int .i64 k ∧ Hid (M = picksL (WW.take k)) ∧ Hid (M.length = k) ∧ RowK wr w4.heap.size f M.length M ∧ Below w4.heap.size w4 wr) (fun _ i _ => WW.length - (intOf i).toNat)
    case atStart => exact ⟨0, [], by omega, rfl, rfl, rfl, RowG.nil, Below.refl _ _⟩
    case round =>
      obtain ⟨k, M, hk, rfl, HM, hMk, hrow, hbw⟩ := hrel
      have hbv := c4.trans (hbw.mono c4.size)
      obtain ⟨fA, fcap, rfl⟩ := hrow.form
      by_cases hlt : k < WW.length
      · obtain ⟨g, cap, hge, hpc⟩ := win_cells (HG4.out.below hbw) hlt
        cases hge
        have HN : Hid (M ++ [(WW[k].1.p, (WW[k].2 : Int))] = picksL (WW.take (k + 1))) := by show _ = _; rw [picks_step hlt, ← HM.out]
        obtain ⟨⟨p0, p1, p2, p3, p4⟩, p5⟩ := hpc
        have hMl : M.length ≤ 80 := by have := hMk.out; omega
        have hi1 : (k : Int) < (WW.length : Int) := by omega
        have hi0 : (0 : Int) ≤ (k : Int) := by omega
        generalize hP : WW[k] = P at *
        clear hP
        have cA := hbw.alloc hbw.size (.cells #[.int .i64 P.1.k, .string P.1.p, .string P.1.b, .int .i64 P.1.m, .bool P.1.o, .int .i64 (P.2 : Int)] 103)
        have hrA := hrow.2.alloc (.cells #[.int .i64 P.1.k, .string P.1.p, .string P.1.b, .int .i64 P.1.m, .bool P.1.o, .int .i64 (P.2 : Int)] 103)
        have HNW : Hid (∀ j u, (csK (P.1.p, (P.2 : Int)))[j]? = some u → ((wr.alloc (.cells #[.int .i64 P.1.k, .string P.1.p, .string P.1.b, .int .i64 P.1.m, .bool P.1.o, .int .i64 (P.2 : Int)] 103)).alloc (.cells #[.string P.1.p, .int .i64 (P.2 : Int)] 59)).cell? ((⟨wr.heap.size + 1, 0, none⟩ : Addr).add j) = some u) := by
          have h := csK_new (wr.alloc (.cells #[.int .i64 P.1.k, .string P.1.p, .string P.1.b, .int .i64 P.1.m, .bool P.1.o, .int .i64 (P.2 : Int)] 103)) (P.1.p, (P.2 : Int)) 59
          rw [World.size_alloc] at h
          exact h
        have HZ : Hid (w4.heap.size ≤ (wr.alloc (.cells #[.int .i64 P.1.k, .string P.1.p, .string P.1.b, .int .i64 P.1.m, .bool P.1.o, .int .i64 (P.2 : Int)] 103)).heap.size) := cA.size
        go_wp2_with (first
          | (at_builtin; refine wpList_append_own _ rfl _ _ 49 rfl w4.heap.size 59 i0 (.agg #[.string ByteArray.empty, .int .i64 0]) 2 24 Tryz.underlying49 hi hI0 hI1 hI2 rfl (by decide) _ _ _ rfl (hrA.alloc _) ⟨wr.heap.size + 1, 0, none⟩ 1 1 (csK (P.1.p, (P.2 : Int))) rfl rfl HNW.out (csK_one _) (by unfold maxLen; omega) (by omega) (by have := hbw.size; simp; omega) ?_; intro v' w9 hown' hgrow9 hnil9))
        exact ⟨⟨k + 1, _, by omega, by go_num, HN, by show _ = _; simp [hMk.out], rowK_snoc hown', (cA.alloc cA.size _).grown hgrow9 (cA.alloc cA.size _).size (fun j hj => (hrA.lt j hj).1)⟩, by simp [intOf]; omega⟩
      · have HF : Hid (M = picksL WW) := by show _ = _; rw [HM.out, List.take_of_length_le (by omega)]
        go_wp2
        go_ret2
        exact ⟨_, by rw [H0.out]; rfl, hbv, by rw [HWE.out, ← HF.out]; exact hrow.down c4.size⟩
  · cases hc : stkE LL <;> (
      rw [hc] at HARG
      first
      | exact absurd (HARG.symm.trans rfl) h0
      | (have HC := stackU_any v LL x y w h hl hr hT
         rw [hc] at HC
         unfold EN.u EU.val at HC
         try unfold errV at HC
         try unfold recV at HC
         obtain ⟨vA, vcap, rfl⟩ := h.form
         go_enter Tryz.func38, Tryz.ntmps38
         go_wp2_with fail
         refine HC.mono ?_
         rintro e w1 ⟨rfl, hb1⟩
         have hT1 := hT.below hb1 (Nat.le_refl _)
         have HA := argU1_any ((stkE LL).u) x y w1 hT1
         rw [hc] at HA
         have hne : (codeS LL != 0) = true := (by simpa using h0)
         have HQ := Lib.hid (tr_bad (LL := LL) rfl h0)
         rw [HARG] at HA
         try unfold EN.u at HA
         unfold EU.val at HA
         try unfold errV at HA
         try unfold recV at HA
         generalize hC : codeS LL = C at *
         have HCC := Lib.hid hC
         clear HARG h0 hC
         go_wp2_with fail
         refine HA.mono ?_
         rintro e w3 ⟨rfl, hb3⟩
         have c3 := hb1.trans (hb3.mono hb1.size)
         go_wp2_with fail
         go_ret2
         exact ⟨.slice none 0 0, by first | rfl | (rw [HCC.out]; rfl) | (rw [← HCC.out]; rfl), c3, by rw [HQ.out]; exact RowG.nil⟩))

/-- What MergeMany answers. -/
def mmL (LL : List (List R)) : List R := canonL (winL LL)
end Go.Proofs.YtibekkfbpmloiabGreatDoor.Recs
