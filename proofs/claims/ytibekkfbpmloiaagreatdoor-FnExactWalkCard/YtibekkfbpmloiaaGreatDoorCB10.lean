/- Parts of several texts of mine in one file (each begins with its own remark). -/
import Derived.Test.YtibekkfbpmloiaaGreatDoorCA1
import Derived.Test.YtibekkfbpmloiaaGreatDoorCA10
import Derived.Test.YtibekkfbpmloiaaGreatDoorCA11
import Derived.Test.YtibekkfbpmloiaaGreatDoorCA12
import Derived.Test.YtibekkfbpmloiaaGreatDoorCA13
import Derived.Test.YtibekkfbpmloiaaGreatDoorCA14
import Derived.Test.YtibekkfbpmloiaaGreatDoorCA15
import Derived.Test.YtibekkfbpmloiaaGreatDoorCA16
import Derived.Test.YtibekkfbpmloiaaGreatDoorCA17
import Derived.Test.YtibekkfbpmloiaaGreatDoorCA2
import Derived.Test.YtibekkfbpmloiaaGreatDoorCA3
import Derived.Test.YtibekkfbpmloiaaGreatDoorCA4
import Derived.Test.YtibekkfbpmloiaaGreatDoorCA5
import Derived.Test.YtibekkfbpmloiaaGreatDoorCA6
import Derived.Test.YtibekkfbpmloiaaGreatDoorCA8
import Derived.Test.YtibekkfbpmloiaaGreatDoorCB3
import Derived.Test.YtibekkfbpmloiaaGreatDoorCB4
import Derived.Test.YtibekkfbpmloiaaGreatDoorCB5
import Derived.Test.YtibekkfbpmloiaaGreatDoorCB7
import Derived.Test.YtibekkfbpmloiaaGreatDoorCB8
import Derived.Test.YtibekkfbpmloiaaGreatDoorCB9
import Derived.Test.YtibekkfbpmloiaaGreatDoorChecked
import Derived.Test.YtibekkfbpmloiaaGreatDoorShelf
import Derived.Test.YtibekkfbpmloiaaGreatDoorProg
import Derived.Test.YtibekkfbpmloiaaGreatDoorRows
import Derived.Deep.Slices
import Derived.OpenShut
import Derived.ShutString
import Derived.ChangeArms
import Derived.WideShapes
import Derived.Lib.LaidTab
import Derived.BigQuiet
import Derived.Deep.QuietTactic
import Derived.Deep.RegionHeld3
import Derived.StillTailTactics
import Derived.Deep.Draws
import Derived.Deep.LoopGhost
import Derived.WalkKit
import Derived.WalkSpells
import Derived.WalkSmall
import Derived.Lib.OthersKept
import Derived.Lib.Hide
import Derived.Lib.Strings
import Derived.Lib.Join
import Derived.Laws.OwnMore
import Derived.BigRegion
import Derived.Laws.BytesArg
import Derived.WalkLawsBesides
import Derived.RangeFuncNested
import Derived.RangeFuncBound
import Derived.RangeFuncCalls
import Derived.RangeFuncLeaves
import Derived.RangeFuncBox
import Derived.Shelf.Abstract
import Derived.Shelf.RegionOpen
import Derived.OwnWalkIn
import Derived.TacticsInMore
import Derived.LoopNIn
import Derived.LoopIn
import Derived.Stop.LaidErr
import Derived.LaidEql
import Derived.Stop.Asserts
import Derived.Below
import Derived.Stop.LaidTwo
import Derived.ChangeVars
import Derived.Deep.DeepHandedRow
import Derived.Deep.RegionWith
import Derived.OneCell
import Derived.Lib.SliceRun
import Derived.Lib.Overlaps
import Derived.Lib.AppendZerosOnto
import Derived.Laws.NewBlocks
import Derived.Laws.IdiomCopy
import Derived.Deep.RegionLaw
import Derived.Deep.AppendLies
import Derived.Laws.EntriesVeiled
import Derived.Laws.AppendOwn
/- Queries: the names directly below a path, and all paths below it, of the model. -/
namespace Go.Proofs.YtibekkfbpmloiaaGreatDoor.Recs
set_option maxRecDepth 100000
open Go.RowKit Paths

theorem bts_len (P : List ByteArray) : (bts P).length = P.length := List.length_map _
theorem bts_snoc (P : List ByteArray) (p : ByteArray) : bts (P ++ [p]) = bts P ++ [p.data.toList] := by simp [bts]
theorem names_len (LL : List (List R)) (P : List ByteArray) (q : ByteArray) : (namesP LL P q).length ≤ P.length := by
  unfold namesP
  rw [List.length_map]
  exact List.length_filter_le _ _

/-- A row that was begun as an empty literal (in the block b0): still that, or a row of its own behind B. -/
def FirstRow (w : World) (b0 B : Nat) (v : Value) (L : List (List UInt8)) : Prop := (L = [] ∧ v = .slice (some ⟨b0, 0, none⟩) 0 0) ∨ (w.ownsRow B 9 1 v L.length (L.map strV) ∧ v ≠ .slice none 0 0)
theorem FirstRow.below {w w' : World} {b0 B : Nat} {v : Value} {L : List (List UInt8)} (h : FirstRow w b0 B v L) (hb : Below w.heap.size w w') : FirstRow w' b0 B v L := by
  rcases h with h | ⟨h1, h2⟩
  · exact .inl h
  · exact .inr ⟨own_below h1 hb, h2⟩
theorem FirstRow.form {w : World} {b0 B : Nat} {v : Value} {L : List (List UInt8)} (h : FirstRow w b0 B v L) : ∃ A cap, v = .slice A L.length cap := by
  rcases h with ⟨rfl, rfl⟩ | ⟨h1, _⟩
  · exact ⟨_, 0, rfl⟩
  · exact own_form h1
theorem FirstRow.done {w : World} {b0 B : Nat} {v : Value} {L : List (List UInt8)} (h : FirstRow w b0 B v L) (h0 : w.ownsRow b0 9 1 (.slice (some ⟨b0, 0, none⟩) 0 0) 0 []) (hB : b0 ≤ B) : w.ownsRow b0 9 1 v L.length (L.map strV) ∧ v ≠ .slice none 0 0 := by
  rcases h with ⟨rfl, rfl⟩ | ⟨h1, h2⟩
  · exact ⟨h0, by simp⟩
  · exact ⟨own_low h1 hB, h2⟩

set_option maxHeartbeats 3200000 in
theorem l10Names_any (v : Value) (LL : List (List R)) (q : ByteArray) (w : World) (h : StkSl w v LL) (hl : LL.length ≤ 5) (hok : ∀ l ∈ LL, layerOK l = true) :
    Calls Tryz.prog 36 #[v, .string q] w fun e w' => ∃ x, e = .returned x ∧ Below w.heap.size w w' ∧ w'.ownsRow w.heap.size 9 1 x (bts (dirT LL q)).length ((bts (dirT LL q)).map strV) ∧ x ≠ .slice none 0 0 := by
  obtain ⟨i0, hi, hz0, hz1, hz2⟩ := info_parts strInfo
  have hfine : ∀ l ∈ LL, Fine l := fun l hm => fine_layer (hok l hm)
  have hP80 := pathsL_len (LL := LL) (fun l hm => layer_len (hok l hm)) hl
  have hb0 : Below w.heap.size w (w.alloc (.cells #[] 9)) := (Below.refl _ _).alloc (Nat.le_refl _) _
  have hown0 : (w.alloc (.cells #[] 9)).ownsRow w.heap.size 9 1 (.slice (some ⟨w.heap.size, 0, none⟩) 0 0) 0 [] := World.ownsRow_lit w #[] 0 (Nat.le_refl _) (Nat.zero_le _) rfl
  have HPA := l07Paths_any v LL _ (h.below hb0) hl hok
  have HWI : Hid (∀ q ∈ pathsL LL, ∀ W, Below w.heap.size w W → Calls Tryz.prog 55 #[v, .string q] W fun e w'' => e = .returned (.tuple #[(winC LL q).1.val, .int .i64 ((winC LL q).2 : Int)]) ∧ Below W.heap.size W w'') := fun q hq W hW => l07Winner_any v LL q W (h.below hW) hl hok (path_of_path hfine hq)
  have HPH : Hid (∀ q ∈ pathsL LL, pathB q.data.toList = true) := fun q hq => path_of_path hfine hq
  have HALL := Lib.hid (names_all LL q)
  obtain ⟨vA, vcap, rfl⟩ := h.form
  clear hfine h
  go_enter Tryz.func36, Tryz.ntmps36
  go_wp2_with fail
  refine HPA.mono ?_
  rintro e w1 ⟨pv0, rfl, hb1, hp1⟩
  obtain ⟨hpo, g, pcap, rfl, _, hg1, hpc, hpm⟩ := hp1
  have HPO := Lib.hid hpo
  have c1 := hb0.trans (hb1.mono hb0.size)
  have HO0 := Lib.hid (own_below hown0 hb1)
  clear hpo HPA hown0
  go_wp2_with fail
  go_loopw [5, 7] (fun f i wr => ∃ (k : Nat) (M : List ByteArray), k ≤ (pathsL LL).length ∧ i = .int .i64 k ∧ Hid (M = namesP LL ((pathsL LL).take k) q) ∧ Hid (FirstRow wr w.heap.size w1.heap.size f (bts M)) ∧ Below w1.heap.size w1 wr) (fun _ i _ => (pathsL LL).length - (intOf i).toNat)
  case atStart => exact ⟨0, [], by omega, rfl, rfl, .inl ⟨rfl, rfl⟩, Below.refl _ _⟩
  case round =>
    obtain ⟨k, M, hk, rfl, HM, HRO, hbw⟩ := hrel
    have hbv := c1.trans (hbw.mono c1.size)
    by_cases hlt : k < (pathsL LL).length
    · have hq := List.getElem_mem hlt
      have hcu : wr.cell? ⟨g, k, none⟩ = some (.string (pathsL LL)[k]) := by
        have h1 := (own_below HPO.out hbw).cellAt k (by omega)
        rw [show (vS (pathsL LL))[k]? = some (.string (pathsL LL)[k]) by unfold vS; rw [List.getElem?_map, List.getElem?_eq_getElem hlt]; rfl] at h1
        simpa using h1
      have hi1 : (k : Int) < ((pathsL LL).length : Int) := by omega
      have hi0 : (0 : Int) ≤ (k : Int) := by omega
      have hp := HPH.out _ hq
      have hs : (pathsL LL)[k].size ≤ 35 := by rw [Lib.size_eq]; exact pathB_len hp
      have HPar := l01Parent_any (pathsL LL)[k] wr (by unfold maxLen; omega)
      unfold strV at HPar
      have HST := Lib.hid (names_step (LL := LL) (P := pathsL LL) hlt q)
      have hMl : M.length ≤ 80 := by
        rw [HM.out]
        have := names_len LL ((pathsL LL).take k) q
        rw [List.length_take] at this
        omega
      obtain ⟨fA, fcap, hfe⟩ := HRO.out.form
      subst hfe
      have HW := fun W hb => HWI.out _ hq W hb
      have HHP := Lib.hid hp
      generalize (pathsL LL)[k] = p at *
      generalize hP : winC LL p = P at *
      have hPL : k + 1 ≤ (pathsL LL).length := hlt
      unfold R.val at HW
      clear hP hq
      by_cases hpq : parO p = q
      · have heq : (parentL p.data.toList == q.toList) = true := by
          rw [Lib.toList_data, ← hpq, parO_data]; simp
        have HPQ := Lib.hid hpq
        clear hpq
        go_wp2_with fail
        refine HPar.mono ?_
        rintro e w2 ⟨rfl, rfl⟩
        go_wp2_with fail
        refine (HW _ hbv).mono ?_
        rintro e w3 ⟨rfl, hb3⟩
        have c3 := hbw.trans (hb3.mono hbw.size)
        have cA := c3.alloc c3.size (.cells #[.int .i64 P.1.k, .string P.1.p, .string P.1.b, .int .i64 P.1.m, .bool P.1.o] 53)
        have bA := hb3.alloc hb3.size (.cells #[.int .i64 P.1.k, .string P.1.p, .string P.1.b, .int .i64 P.1.m, .bool P.1.o] 53)
        have HRA := Lib.hid (HRO.out.below bA)
        have hcu3 := (bA.cell (p := ⟨g, k, none⟩) (Nat.lt_of_lt_of_le hg1 hbw.size)).trans hcu
        by_cases hpos : 0 < P.2
        · have hd : decide ((0 : Int) < (P.2 : Int)) = true := decide_eq_true (by omega)
          have hd' : decide (0 < P.2) = true := decide_eq_true hpos
          by_cases hk4 : P.1.k = 4
          · have hd4 : (P.1.k != 4) = false := by simpa using hk4
            have HN : Hid (M = namesP LL ((pathsL LL).take (k + 1)) q) := by show _ = _; rw [HST.out, if_neg (by rw [seen_white hk4]; simp), ← HM.out]
            clear hk4
            go_wp2_with fail
            exact ⟨⟨k + 1, M, by omega, by go_num, HN, HRA.out, cA⟩, by simp [intOf]; omega⟩
          · have hd4 : (P.1.k != 4) = true := by simpa using hk4
            have HN : Hid (M ++ [lastB p] = namesP LL ((pathsL LL).take (k + 1)) q) := by show _ = _; rw [HST.out, if_pos (by rw [seen_yes (by omega) hk4, HPQ.out]; simp), ← HM.out]
            clear hk4
            go_wp2_with fail
            refine (l00Cut_any p 47 47 rfl _ (by omega)).mono ?_
            rintro e w5 ⟨v5, rfl, hb5, hown5⟩
            obtain ⟨pA, pc, rfl, hpc5, hpv⟩ := part_sl hown5
            have hcp := cutAt_pos 47 p.data.toList
            have h4 := (pathB_parts HHP.out).1
            obtain ⟨g5, rfl, hg5, hpcell⟩ := hpv hcp
            have cl := cut_last hpcell
            have e5 := cA.trans (hb5.mono cA.size)
            have hown5' := HRA.out.below hb5
            have hsz5 := e5.size
            clear hpcell hpv hown5
            generalize (cutAt 47 p.data.toList).length = L at *
            have hw1 : IntKind.i64.wrap ((L : Int) - 1) = ((L - 1 : Nat) : Int) := by rw [IntKind.wrap_i64]; omega
            have hw2 : (L : Int) - 1 = ((L - 1 : Nat) : Int) := by omega
            have hii1 : ((L - 1 : Nat) : Int) < (L : Int) := by omega
            have hii0 : (0 : Int) ≤ ((L - 1 : Nat) : Int) := by omega
            have hbl : (bts M).length ≤ 80 := by rw [bts_len]; exact hMl
            rcases hown5' with ⟨hM0, hf0⟩ | ⟨hown5', hnn⟩
            · have HM0 := Lib.hid hM0
              rw [hf0]
              clear hM0 hf0
              go_wp2_with (first
                | (at_builtin; refine wpList_append_first rfl _ _ 33 rfl 9 i0 (.string ByteArray.empty) 1 16 Tryz.underlying33 hi hz0 hz1 hz2 rfl _ rfl ⟨w5.heap.size, 0, none⟩ 1 1 [.string (lastB p)] rfl rfl (cell_one_new _ _ _) (by omega) (by unfold maxLen; omega) (by omega) ?_; intro v' w9 hown' hgrow9 hnil9))
              exact ⟨⟨k + 1, M ++ [lastB p], by omega, by go_num, HN, by
                show FirstRow _ _ _ _ _
                rw [bts_snoc, HM0.out]
                exact .inr ⟨own_low hown' (by simp; omega), hnil9⟩, (e5.alloc e5.size _).grown hgrow9 (e5.alloc e5.size _).size (fun j hj => by cases hj)⟩, by simp [intOf]; omega⟩
            · go_wp2_with (first
                | (at_builtin; refine wpList_append_own _ rfl _ _ 33 rfl w1.heap.size 9 i0 (.string ByteArray.empty) 1 16 Tryz.underlying33 hi hz0 hz1 hz2 rfl (by decide) _ _ _ rfl (hown5'.alloc _) ⟨w5.heap.size, 0, none⟩ 1 1 [.string (lastB p)] rfl rfl (cell_one_new _ _ _) (fun x hx => by simp at hx; subst hx; rfl) (by unfold maxLen; omega) (by omega) (by simp; omega) ?_; intro v' w9 hown' hgrow9 hnil9))
              exact ⟨⟨k + 1, M ++ [lastB p], by omega, by go_num, HN, by
                show FirstRow _ _ _ _ _
                rw [bts_snoc]
                exact .inr ⟨own_snoc hown', fun e => hnn (hnil9.1 e).1⟩, (e5.alloc e5.size _).grown hgrow9 (e5.alloc e5.size _).size (fun j hj => (hown5'.lt j hj).1)⟩, by simp [intOf]; omega⟩
        · have hz : P.2 = 0 := by omega
          have HN : Hid (M = namesP LL ((pathsL LL).take (k + 1)) q) := by show _ = _; rw [HST.out, if_neg (by rw [seen_zero hz]; simp), ← HM.out]
          have hd : decide ((0 : Int) < (P.2 : Int)) = false := decide_eq_false (by omega)
          have hd' : decide (0 < P.2) = false := decide_eq_false hpos
          go_wp2_with fail
          exact ⟨⟨k + 1, M, by omega, by go_num, HN, HRA.out, cA⟩, by simp [intOf]; omega⟩
      · have HN : Hid (M = namesP LL ((pathsL LL).take (k + 1)) q) := by show _ = _; rw [HST.out, if_neg (by simp [hpq]), ← HM.out]
        have heq : (parentL p.data.toList == q.toList) = false := by
          rw [Bool.eq_false_iff, Lib.toList_data]
          intro e
          exact hpq (bytes_ext (by rw [parO_data]; exact of_decide_eq_true (by simpa using e)))
        clear hpq
        go_wp2_with fail
        refine HPar.mono ?_
        rintro e w2 ⟨rfl, rfl⟩
        go_wp2_with fail
        exact ⟨⟨k + 1, M, by omega, by go_num, HN, HRO.out, hbw⟩, by simp [intOf]; omega⟩
    · have HF : Hid (M = dirT LL q) := by show _ = _; rw [HM.out, List.take_of_length_le (by omega), HALL.out]
      go_wp2
      go_ret
      exact ⟨_, rfl, hbv, by rw [← HF.out]; exact HRO.out.done (own_below HO0.out hbw) c1.size⟩
end Go.Proofs.YtibekkfbpmloiaaGreatDoor.Recs

/- Queries: Walk, ReadDir, of the model. -/
namespace Go.Proofs.YtibekkfbpmloiaaGreatDoor.Recs
set_option maxRecDepth 100000
open Go.RowKit Paths

def wkC (F : (R × Nat) × Int) : Int := if F.2 ≠ 0 then F.2 else if F.1.1.k ≠ 3 then 13 else 0
theorem wk_bad {F : (R × Nat) × Int} {c : Int} (h : F.2 = c) (hc : c ≠ 0) : wkC F = c := by unfold wkC; rw [h, if_pos hc]
theorem wk_file {F : (R × Nat) × Int} (h : F.2 = 0) (hk : F.1.1.k ≠ 3) : wkC F = 13 := by unfold wkC; rw [if_neg (by simpa using h), if_pos hk]
theorem wk_dir {F : (R × Nat) × Int} (h : F.2 = 0) (hk : F.1.1.k = 3) : wkC F = 0 := by unfold wkC; rw [if_neg (by simpa using h), if_neg (by simpa using hk)]
theorem wk_code {LL : List (List R)} {q : ByteArray} (h : wkC (qR LL q) = 0) : codeQ LL q = 0 := by
  by_cases h0 : codeQ LL q = 0
  · exact h0
  · rw [qR_bad (c := codeQ LL q) rfl h0, wk_bad (c := codeQ LL q) rfl h0] at h
    exact absurd h h0
def WalkL (LL : List (List R)) (q : ByteArray) : List (List UInt8) := if wkC (qR LL q) = 0 then bts (walkT LL q) else []
theorem vis_80 {LL : List (List R)} {q : ByteArray} (h : codeQ LL q = 0) : (visT LL).length ≤ 80 := by
  have hst := stack_of (cq_ok h).1
  have h1 := pathsL_len (LL := LL) (fun l hm => layer_len (hst.2 l hm)) hst.1
  have h2 := vis_len (LL := LL)
  omega
theorem walkT_80 {LL : List (List R)} {q : ByteArray} (h : codeQ LL q = 0) : (walkT LL q).length ≤ 80 := by
  have h1 := vis_80 h
  have h2 : (allT (visT LL) q).length ≤ (visT LL).length := by
    unfold allT subT
    split
    · exact Nat.le_refl _
    · exact List.length_filter_le _ _
  unfold walkT
  rw [List.length_map]
  omega
theorem row_none {w : World} (b : Nat) : w.ownsRow b 9 1 (.slice none 0 0) ([] : List (List UInt8)).length (([] : List (List UInt8)).map strV) := World.ownsRow_nil _ _ _ _
theorem row_lit {w w1 : World} (hb : Below w.heap.size w w1) : (w1.alloc (.cells #[] 9)).ownsRow w.heap.size 9 1 (.slice (some ⟨w1.heap.size, 0, none⟩) 0 0) ([] : List (List UInt8)).length (([] : List (List UInt8)).map strV) := World.ownsRow_lit w1 #[] 0 hb.size (Nat.zero_le _) rfl

end Go.Proofs.YtibekkfbpmloiaaGreatDoor.Recs

/- The winners of all paths, of the program. Conditions: none but a valid stack. -/
namespace Go.Proofs.YtibekkfbpmloiaaGreatDoor.Recs
set_option maxRecDepth 100000
open Go.RowKit Paths Errs

def winsOf (LL : List (List R)) (P : List ByteArray) : List (R × Nat) := (P.map (winC LL)).filter fun p => decide (0 < p.2)
theorem wins_of (LL : List (List R)) : wins LL = winsOf LL (pathsL LL) := rfl
theorem wins_step {LL : List (List R)} {P : List ByteArray} {k : Nat} (hk : k < P.length) : winsOf LL (P.take (k + 1)) = if 0 < (winC LL P[k]).2 then winsOf LL (P.take k) ++ [winC LL P[k]] else winsOf LL (P.take k) := by
  unfold winsOf
  rw [List.take_add_one, List.getElem?_eq_getElem hk, Option.toList_some, List.map_append, List.filter_append]
  split
  · rename_i h
    rw [List.map_singleton, List.filter_cons_of_pos (by simpa using h)]
    rfl
  · rename_i h
    rw [List.map_singleton, List.filter_cons_of_neg (by simpa using h)]
    simp
theorem winsOf_len (LL : List (List R)) (P : List ByteArray) : (winsOf LL P).length ≤ P.length := by
  unfold winsOf
  have := List.length_filter_le (fun p : R × Nat => decide (0 < p.2)) (P.map (winC LL))
  rw [List.length_map] at this
  exact this

set_option maxHeartbeats 3200000 in
theorem winnersOf_any (v : Value) (LL : List (List R)) (w : World) (h : StkSl w v LL) (hl : LL.length ≤ 5) (hok : ∀ l ∈ LL, layerOK l = true) :
    Calls Tryz.prog 41 #[v] w fun e w' => ∃ x, e = .returned x ∧ Below w.heap.size w w' ∧ RowP w' w.heap.size x (wins LL).length (wins LL) := by
  obtain ⟨i0, hi, hI0, hI1, hI2⟩ := info_parts placedInfo
  have hfine : ∀ l ∈ LL, Fine l := fun l hm => fine_layer (hok l hm)
  have hP80 := pathsL_len (LL := LL) (fun l hm => layer_len (hok l hm)) hl
  have HGH : Hid (∀ q ∈ pathsL LL, ∃ a t, grp LL q = a :: t ∧ a.1.p = q) := fun q hq => grp_head hok hq
  have HGO := groupsOf_any v LL w h hl hok
  have HCD : Hid (∀ q ∈ pathsL LL, ∀ W, Below w.heap.size w W → Calls Tryz.prog 61 #[v, .string q] W fun e w'' => e = .returned (.int .i64 (cutD LL q)) ∧ Below W.heap.size W w'') := fun q hq W hW => by
    have hp := path_of_path hfine hq
    exact cutDepth_any v LL q W (h.below hW) (by omega) hok hp (path_max hp) (fun l hm r hr => path_max (fault_path (layer_rec (hok l hm) hr)).1)
  have HWN : Hid (∀ q u W, PSl W u (grp LL q) → Calls Tryz.prog 60 #[u, .int .i64 (cutD LL q : Int)] W fun e w'' => e = .returned (pv (winC LL q)) ∧ Below W.heap.size W w'') := fun q u W hu => by
    rw [← overP_win]
    exact winnerOf_any u (grp LL q) (cutD LL q) W hu (by have := grp_len LL q; omega)
  obtain ⟨vA, vcap, rfl⟩ := h.form
  clear hfine
  go_enter Tryz.func41, Tryz.ntmps41
  go_wp2_with fail
  refine HGO.mono ?_
  rintro e w2 ⟨gv, us, rfl, hb2, hg2⟩
  obtain ⟨gA, gcap, rfl⟩ := own_form hg2.own
  have hgl : Hid (((pathsL LL).map (grp LL)).length = (pathsL LL).length) := List.length_map _
  have hul : us.length = (pathsL LL).length := hg2.len.trans hgl.out
  have HG2 := Lib.hid hg2
  clear HGO hg2
  rw [hgl.out]
  go_wp2_with fail
  go_loopw [3, 10] (fun f i wr => ∃ (k : Nat) (M : List (R × Nat)), k ≤ (pathsL LL).length ∧ i = .int .i64 k ∧ Hid (M = winsOf LL ((pathsL LL).take k)) ∧ RowP wr w2.heap.size f M.length M ∧ Below w2.heap.size w2 wr) (fun _ i _ => (pathsL LL).length - (intOf i).toNat)
  case atStart => exact ⟨0, [], by omega, rfl, rfl, RowG.nil, Below.refl _ _⟩
  case round =>
    obtain ⟨k, M, hk, rfl, HM, hrow, hbw⟩ := hrel
    obtain ⟨fA, fcap, rfl⟩ := hrow.form
    have hbv := hb2.trans (hbw.mono hb2.size)
    by_cases hlt : k < (pathsL LL).length
    · have hq := List.getElem_mem hlt
      obtain ⟨a, t, hg, hap⟩ := HGH.out _ hq
      have hgk : ((pathsL LL).map (grp LL))[k]? = some (a :: t) := by rw [List.getElem?_map, List.getElem?_eq_getElem hlt, Option.map_some, hg]
      have huk : us[k]? = some (us[k]'(by omega)) := List.getElem?_eq_getElem _
      have HG := HG2.out.below hbw
      have hru := HG.rows k _ (a :: t) huk hgk
      have HPS : Hid (PSl wr (us[k]'(by omega)) (grp LL (pathsL LL)[k])) := by show PSl _ _ _; rw [hg]; exact RowP.sl hru
      obtain ⟨gu, c, hue, _, hgu, _, _⟩ := RowG.atom hru (by simp)
      have hown0 := HG.own
      rw [hgl.out] at hown0
      obtain ⟨go, cap, hve, hgo⟩ : ∃ go cap, (Value.slice gA (pathsL LL).length gcap) = .slice (some ⟨go, 0, none⟩) (pathsL LL).length cap ∧ go < wr.heap.size := by
        rcases hown0.2 with ⟨_, h0⟩ | ⟨g, cap, cur, e, _, h2, _⟩
        · omega
        · exact ⟨g, cap, e, (Array.getElem?_eq_some_iff.1 h2).1⟩
      have hcu : wr.cell? ⟨go, k, none⟩ = some (us[k]'(by omega)) := by
        rw [hve] at hown0
        have := hown0.cellAt k (by omega)
        rw [huk] at this
        exact this
      rw [hue] at hru hcu HPS
      have hca := RowG.cell csP_len hru (i := 0) (c := 1) (by simp) (by omega)
      simp only [csP, List.getElem?_cons_zero, List.getElem?_cons_succ, List.getElem_cons_zero, Nat.zero_mul, Nat.zero_add] at hca
      rw [hap] at hca
      cases hve
      have hi1 : (k : Int) < ((pathsL LL).length : Int) := by omega
      have hi0 : (0 : Int) ≤ (k : Int) := by omega
      have HCDk := HCD.out _ hq wr hbv
      have HST := Lib.hid (wins_step (LL := LL) hlt)
      have HW := HWN.out (pathsL LL)[k]
      have hMl : M.length ≤ 80 := by
        rw [HM.out]
        have := winsOf_len LL ((pathsL LL).take k)
        rw [List.length_take] at this
        omega
      unfold pv at HW
      generalize hQ : (pathsL LL)[k] = q at *
      generalize hP : winC LL q = P at *
      have HPQ := Lib.hid hP
      clear hru hown0 huk hgk hg hap hQ hP hq
      go_wp2_with fail
      refine HCDk.mono ?_
      rintro e w3 ⟨rfl, hb3⟩
      have c3 := hbw.trans (hb3.mono hbw.size)
      go_wp2_with fail
      refine (HW _ _ (HPS.out.below hb3)).mono ?_
      rintro e w4 ⟨rfl, hb4⟩
      have c4 := c3.trans (hb4.mono c3.size)
      have hr4 := (RowG.below (hrow.below hb3) hb4)
      have cA := c4.alloc c4.size (.cells #[.int .i64 P.1.k, .string P.1.p, .string P.1.b, .int .i64 P.1.m, .bool P.1.o, .int .i64 (P.2 : Int)] 55)
      have hrA := hr4.2.alloc (.cells #[.int .i64 P.1.k, .string P.1.p, .string P.1.b, .int .i64 P.1.m, .bool P.1.o, .int .i64 (P.2 : Int)] 55)
      by_cases hpos : 0 < P.2
      · have HN : Hid (M ++ [P] = winsOf LL ((pathsL LL).take (k + 1))) := by show _ = _; rw [HST.out, if_pos hpos, ← HM.out]
        have hd : decide ((0 : Int) < (P.2 : Int)) = true := decide_eq_true (by omega)
        have hd' : decide (0 < P.2) = true := decide_eq_true hpos
        have HNW : Hid (∀ j u, (csP P)[j]? = some u → ((w4.alloc (.cells #[.int .i64 P.1.k, .string P.1.p, .string P.1.b, .int .i64 P.1.m, .bool P.1.o, .int .i64 (P.2 : Int)] 55)).alloc (.cells #[.int .i64 P.1.k, .string P.1.p, .string P.1.b, .int .i64 P.1.m, .bool P.1.o, .int .i64 (P.2 : Int)] 55)).cell? ((⟨w4.heap.size + 1, 0, none⟩ : Addr).add j) = some u) := by
          have h := csP_new (w4.alloc (.cells #[.int .i64 P.1.k, .string P.1.p, .string P.1.b, .int .i64 P.1.m, .bool P.1.o, .int .i64 (P.2 : Int)] 55)) P 55
          rw [World.size_alloc] at h
          exact h
        have HZ : Hid (w2.heap.size ≤ (w4.alloc (.cells #[.int .i64 P.1.k, .string P.1.p, .string P.1.b, .int .i64 P.1.m, .bool P.1.o, .int .i64 (P.2 : Int)] 55)).heap.size) := cA.size
        have HBX : Hid (Pbox (w4.alloc (.cells #[.int .i64 P.1.k, .string P.1.p, .string P.1.b, .int .i64 P.1.m, .bool P.1.o, .int .i64 (P.2 : Int)] 55)) w4.heap.size P) := alloc_here _ _
        clear HST HCDk HW
        go_wp2_with (first
          | (at_builtin; refine wpList_append_own _ rfl _ _ 67 rfl w2.heap.size 55 i0 (.agg #[.int .i64 0, .string ByteArray.empty, .string ByteArray.empty, .int .i64 0, .bool false, .int .i64 0]) 6 64 Tryz.underlying67 hi hI0 hI1 hI2 rfl (by decide) _ _ _ rfl (hrA.alloc _) ⟨w4.heap.size + 1, 0, none⟩ 1 1 (csP P) rfl rfl HNW.out (csP_one _) (by unfold maxLen; omega) (by omega) (by have := c4.size; simp; omega) ?_; intro v' w9 hown' hgrow9 hnil9))
        exact ⟨⟨k + 1, _, by omega, by go_num, HN, rowP_snoc hown', (cA.alloc cA.size _).grown hgrow9 (cA.alloc cA.size _).size (fun j hj => (hrA.lt j hj).1)⟩, by simp [intOf]; omega⟩
      · have HN : Hid (M = winsOf LL ((pathsL LL).take (k + 1))) := by show _ = _; rw [HST.out, if_neg hpos, ← HM.out]
        have hd : decide ((0 : Int) < (P.2 : Int)) = false := decide_eq_false (by omega)
        have hd' : decide (0 < P.2) = false := decide_eq_false hpos
        clear HST HCDk HW
        go_wp2_with fail
        exact ⟨⟨k + 1, M, by omega, by go_num, HN, ⟨rfl, hrA⟩, cA⟩, by simp [intOf]; omega⟩
    · have HF : Hid (M = wins LL) := by show _ = _; rw [wins_of, HM.out, List.take_of_length_le (by omega)]
      go_wp2
      go_ret
      exact ⟨_, rfl, hbv, by rw [← HF.out]; exact hrow.down hb2.size⟩
end Go.Proofs.YtibekkfbpmloiaaGreatDoor.Recs

/- MergeTrace, MergeMany of the program. Conditions: the table of kinds, the two sentinels. -/
namespace Go.Proofs.YtibekkfbpmloiaaGreatDoor.Recs
set_option maxRecDepth 100000
open Go.RowKit Paths Errs

theorem wins_80 {LL : List (List R)} (h : stackOK LL = true) : (wins LL).length ≤ 80 := by
  have hst := stack_of h
  have := pathsL_len (LL := LL) (fun l hm => layer_len (hst.2 l hm)) hst.1
  have := wins_len LL
  omega
/-- One of the program's winners, in its row. -/
theorem win_cells {wr : World} {b : Nat} {gA : Option Addr} {gcap : Nat} {W : List (R × Nat)} {k : Nat} (h : RowP wr b (.slice gA W.length gcap) W.length W) (hk : k < W.length) : ∃ g cap, Value.slice gA W.length gcap = .slice (some ⟨g, 0, none⟩) W.length cap ∧ PCells wr g (k * 6) W[k] := by
  obtain ⟨g, cap, e, _, hg, _, _⟩ := RowG.atom h (by omega)
  refine ⟨g, cap, e, ?_⟩
  rw [e] at h
  have one : ∀ c, c < 6 → wr.cell? ⟨g, k * 6 + c, none⟩ = (csP W[k])[c]? := fun c hc => RowG.cell csP_len h hk hc
  exact ⟨⟨one 0 (by omega), one 1 (by omega), one 2 (by omega), one 3 (by omega), one 4 (by omega)⟩, one 5 (by omega)⟩

end Go.Proofs.YtibekkfbpmloiaaGreatDoor.Recs
