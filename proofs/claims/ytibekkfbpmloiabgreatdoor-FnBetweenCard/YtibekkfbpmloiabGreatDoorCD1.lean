/- Parts of several texts of mine in one file (each begins with its own remark). -/
import Derived.Test.YtibekkfbpmloiabGreatDoorCA1
import Derived.Test.YtibekkfbpmloiabGreatDoorCA10
import Derived.Test.YtibekkfbpmloiabGreatDoorCA14
import Derived.Test.YtibekkfbpmloiabGreatDoorCA15
import Derived.Test.YtibekkfbpmloiabGreatDoorCA16
import Derived.Test.YtibekkfbpmloiabGreatDoorCA17
import Derived.Test.YtibekkfbpmloiabGreatDoorCA2
import Derived.Test.YtibekkfbpmloiabGreatDoorCA20
import Derived.Test.YtibekkfbpmloiabGreatDoorCA22
import Derived.Test.YtibekkfbpmloiabGreatDoorCA3
import Derived.Test.YtibekkfbpmloiabGreatDoorCA4
import Derived.Test.YtibekkfbpmloiabGreatDoorCA5
import Derived.Test.YtibekkfbpmloiabGreatDoorCA6
import Derived.Test.YtibekkfbpmloiabGreatDoorCA7
import Derived.Test.YtibekkfbpmloiabGreatDoorCA9
import Derived.Test.YtibekkfbpmloiabGreatDoorCB1
import Derived.Test.YtibekkfbpmloiabGreatDoorCC1
import Derived.Test.YtibekkfbpmloiabGreatDoorCC10
import Derived.Test.YtibekkfbpmloiabGreatDoorCC11
import Derived.Test.YtibekkfbpmloiabGreatDoorCC12
import Derived.Test.YtibekkfbpmloiabGreatDoorCC6
import Derived.Test.YtibekkfbpmloiabGreatDoorCC8
import Derived.Test.YtibekkfbpmloiabGreatDoorCC9
import Derived.Test.YtibekkfbpmloiabGreatDoorChecked
import Derived.Test.YtibekkfbpmloiabGreatDoorShelf
import Derived.Test.YtibekkfbpmloiabGreatDoorProg
import Derived.Test.YtibekkfbpmloiabGreatDoorRows
import Derived.Stop.LaidErr
import Derived.StillTailTactics
import Derived.Laws.OwnMore
import Derived.BigQuiet
import Derived.BigRegion
import Derived.Deep.QuietTactic
import Derived.Deep.RegionHeld3
import Derived.Deep.Slices
import Derived.OpenShut
import Derived.ShutString
import Derived.ChangeArms
import Derived.WideShapes
import Derived.Lib.LaidTab
import Derived.Deep.Draws
import Derived.Deep.LoopGhost
import Derived.WalkKit
import Derived.WalkSpells
import Derived.WalkSmall
import Derived.Lib.OthersKept
import Derived.Lib.Hide
import Derived.Lib.Strings
import Derived.Lib.Join
import Derived.Laws.BytesArg
import Derived.WalkLawsBesides
import Derived.LaidEql
import Derived.Stop.Asserts
import Derived.Below
import Derived.Stop.LaidTwo
import Derived.Deep.RegionWith
import Derived.Laws.AppendOwnNone
import Derived.RegionTactic
import Derived.ChangeVars
import Derived.Deep.DeepHandedRow
import Derived.RangeFuncNested
import Derived.RangeFuncBound
import Derived.RangeFuncCalls
import Derived.RangeFuncLeaves
import Derived.RangeFuncBox
import Derived.Shelf.Abstract
import Derived.Shelf.RegionOpen
import Derived.OwnWalkIn
import Derived.TacticsInMore
import Derived.LoopNIn
import Derived.LoopIn
import Derived.OneCell
import Derived.Lib.SliceRun
import Derived.Lib.Overlaps
import Derived.Lib.AppendZerosOnto
import Derived.Laws.NewBlocks
import Derived.Laws.IdiomCopy
import Derived.Deep.RegionLaw
/- Layers: comparison of two lists of records, of the program and of its model. -/
namespace Go.Proofs.YtibekkfbpmloiabGreatDoor.Recs
set_option maxRecDepth 100000
open Go.RowKit Paths

set_option maxHeartbeats 1600000 in
theorem equalR_any (v1 v2 : Value) (A B : List R) (w : World) (h1 : RecSl w v1 A) (h2 : RecSl w v2 B) (hl : A.length ≤ 1048576) :
    Calls Tryz.prog 81 #[v1, v2] w fun e w' => e = .returned (.bool (decide (A = B))) ∧ ∃ n, w' = w.drewN n := by
  obtain ⟨a1, cap1, rfl, hcap1, h1⟩ := h1
  obtain ⟨a2, cap2, rfl, hcap2, h2⟩ := h2
  by_cases hL : A.length = B.length
  · have hne : ((A.length : Int) != (B.length : Int)) = false := by simp [hL]
    have HL := Lib.hid hL
    have H1 := Lib.hid h1
    have H2 := Lib.hid h2
    clear hL h1 h2
    go_enter Tryz.func81, Tryz.ntmps81
    go_wp2
    go_loopw [13] (fun i wr => ∃ k n : Nat, k ≤ A.length ∧ i = .int .i64 k ∧ wr = w.drewN n ∧ Hid (A.take k = B.take k)) (fun i _ => A.length - (intOf i).toNat)
    case atStart => exact ⟨0, 0, by omega, rfl, rfl, rfl⟩
    case round =>
      obtain ⟨k, n, hk, rfl, rfl, HK⟩ := hrel
      by_cases hlt : k < A.length
      · obtain ⟨b1, o1, rfl, hb1, hcell1⟩ := H1.out (by omega)
        have hL2 := HL.out
        have hlt2 : k < B.length := by omega
        obtain ⟨b2, o2, rfl, hb2, hcell2⟩ := H2.out (by omega)
        obtain ⟨c0, c1, c2, c3, c4⟩ := hcell1 k A[k] (by simp [hlt])
        obtain ⟨d0, d1, d2, d3, d4⟩ := hcell2 k B[k] (by simp [hlt2])
        clear hcell1 hcell2 hL2 H1 H2
        have hi1 : (k : Int) < (A.length : Int) := by omega
        have hi2 : (k : Int) < (B.length : Int) := by omega
        have hi0 : (0 : Int) ≤ (k : Int) := by omega
        rcases five A[k] B[k] with f0 | ⟨f0, f1⟩ | ⟨f0, f1, f2⟩ | ⟨f0, f1, f2, f3⟩ | ⟨f0, f1, f2, f3, f4⟩ | ⟨f0, f1, f2, f3, f4⟩
        · have HF := ne_at hlt hlt2 (fun e => by rw [e] at f0; simp at f0)
          go_wp2
          go_quiet (fail)
          go_wp2
          go_ret
          exact ⟨ret_bool (by simp [HF.out]), n + nq, World.drewN_drewN _ _ _⟩
        · have HF := ne_at hlt hlt2 (fun e => by rw [e] at f1; simp at f1)
          go_wp2
          go_quiet (fail)
          go_wp2
          go_ret
          exact ⟨ret_bool (by simp [HF.out]), n + nq, World.drewN_drewN _ _ _⟩
        · have HF := ne_at hlt hlt2 (fun e => by rw [e] at f2; simp at f2)
          go_wp2
          go_quiet (fail)
          go_wp2
          go_ret
          exact ⟨ret_bool (by simp [HF.out]), n + nq, World.drewN_drewN _ _ _⟩
        · have HF := ne_at hlt hlt2 (fun e => by rw [e] at f3; simp at f3)
          go_wp2
          go_quiet (fail)
          go_wp2
          go_ret
          exact ⟨ret_bool (by simp [HF.out]), n + nq, World.drewN_drewN _ _ _⟩
        · have HF := ne_at hlt hlt2 (fun e => by rw [e] at f4; simp at f4)
          go_wp2
          go_quiet (fail)
          go_wp2
          go_ret
          exact ⟨ret_bool (by simp [HF.out]), n + nq, World.drewN_drewN _ _ _⟩
        · have HT := Lib.hid (take_snoc_eq hlt hlt2 HK.out (rec_eq f0 f1 f2 f3 f4))
          go_wp2
          go_quiet (fail)
          go_wp2
          exact ⟨⟨k + 1, _, by omega, by go_num, rfl, HT⟩, by simp [intOf]; omega⟩
      · have HE : Hid (A = B) := by
          have hL2 := HL.out
          have := HK.out
          rw [List.take_of_length_le (by omega), List.take_of_length_le (by omega)] at this
          exact this
        go_wp2
        go_ret
        exact ⟨ret_bool (by simp [HE.out]), _, rfl⟩
  · have hne : ((A.length : Int) != (B.length : Int)) = true := by simp; omega
    have HE : Hid (¬ A = B) := fun e => hL (by rw [e])
    clear hL
    go_enter Tryz.func81, Tryz.ntmps81
    go_wp2
    go_ret
    exact ⟨ret_bool (by simp [HE.out]), 0, rfl⟩
end Go.Proofs.YtibekkfbpmloiabGreatDoor.Recs

/- The model's source of choices: strings that may be no paths; a source out of bytes; drawn paths. -/
namespace Go.Proofs.YtibekkfbpmloiabGreatDoor.Draw
open Go.RowKit
open Paths

set_option maxHeartbeats 400000 in
theorem sameTexts_any (v1 v2 : Value) (A B : List (List UInt8)) (w : World) (h1 : Strs w v1 A) (h2 : Strs w v2 B) (hl : A.length ≤ maxLen) : Calls Tryz.prog 18 #[v1, v2] w fun e w' => e = .returned (.bool (decide (A = B))) ∧ ∃ n, w' = w.drewN n := by
  unfold maxLen at hl
  obtain ⟨a1, c1, rfl, hc1, h1⟩ := h1
  obtain ⟨a2, c2, rfl, hc2, h2⟩ := h2
  by_cases hL : A.length = B.length
  · have hne : ((A.length : Int) != (B.length : Int)) = false := by simp [hL]
    have HL := Lib.hid hL
    have H1 := Lib.hid h1
    have H2 := Lib.hid h2
    clear hL h1 h2
    go_enter Tryz.func18, Tryz.ntmps18
    go_wp2
    go_loopw [5] (fun i wr => ∃ k n : Nat, k ≤ A.length ∧ i = .int .i64 k ∧ wr = w.drewN n ∧ Hid (A.take k = B.take k)) (fun i _ => A.length - (intOf i).toNat)
    case atStart => exact ⟨0, 0, by omega, rfl, rfl, rfl⟩
    case round =>
      obtain ⟨k, n, hk, rfl, rfl, HK⟩ := hrel
      by_cases hlt : k < A.length
      · obtain ⟨b1, o1, rfl, hb1, hcell1⟩ := H1.out (by omega)
        have hL2 := HL.out
        have hlt2 : k < B.length := by omega
        obtain ⟨b2, o2, rfl, hb2, hcell2⟩ := H2.out (by omega)
        have hk1 := hcell1 k A[k] (by simp [hlt])
        have hk2 := hcell2 k B[k] (by simp [hlt2])
        unfold strV at hk1 hk2
        clear hcell1 hcell2 hL2 H1 H2
        have hi1 : (k : Int) < (A.length : Int) := by omega
        have hi2 : (k : Int) < (B.length : Int) := by omega
        have hi0 : (0 : Int) ≤ (k : Int) := by omega
        go_wp2
        go_quiet (fail)
        go_wp2
        · have HF : Hid (¬ A = B) := fun e => by
            have h3 : (!A[k] == B[k]) = true := by assumption
            rw [getElem_of_eq hlt hlt2 e] at h3
            simp at h3
          go_ret
          exact ⟨ret_bool (by simp [HF.out]), n + nq, World.drewN_drewN _ _ _⟩
        · have h3 : (!A[k] == B[k]) = false := by assumption
          exact ⟨⟨k + 1, _, by omega, by go_num, rfl, take_snoc_eq hlt hlt2 HK.out (by simpa using h3)⟩, by simp [intOf]; omega⟩
      · have HE : Hid (A = B) := by
          have hL2 := HL.out
          have := HK.out
          rw [List.take_of_length_le (by omega), List.take_of_length_le (by omega)] at this
          exact this
        go_wp2
        go_ret
        exact ⟨ret_bool (by simp [HE.out]), _, rfl⟩
  · have hne : ((A.length : Int) != (B.length : Int)) = true := by simp; omega
    have HE : Hid (¬ A = B) := fun e => hL (by rw [e])
    clear hL
    go_enter Tryz.func18, Tryz.ntmps18
    go_wp2
    go_ret
    exact ⟨ret_bool (by simp [HE.out]), 0, rfl⟩

end Go.Proofs.YtibekkfbpmloiabGreatDoor.Draw

/- Differences of trees, plain: the changes between two lists in the order of paths. -/
namespace Go.Proofs.YtibekkfbpmloiabGreatDoor.Recs
set_option maxRecDepth 100000
open Go.RowKit Paths

theorem chg_self (A : List R) : chgs A A = [] := by
  induction A with
  | nil => exact chg_nil
  | cons x a ih => rw [chg_same rfl]; exact ih
end Go.Proofs.YtibekkfbpmloiabGreatDoor.Recs

/- The code of the errors of a call's arguments. Conditions: the table of kinds, the two sentinels. -/
namespace Go.Proofs.YtibekkfbpmloiabGreatDoor.Recs
set_option maxRecDepth 100000
open Go.RowKit Paths Errs

def argFrom : List EK → Int → Int
  | [], c => c
  | .fine :: t, c => argFrom t c
  | .long :: _, _ => 2
  | .bad _ _ :: t, _ => argFrom t 1
theorem arg_end {L : List EK} {k : Nat} {c : Int} (h : L.length ≤ k) : argFrom (L.drop k) c = c := by rw [List.drop_eq_nil_of_le h]; rfl
theorem arg_fine {L : List EK} {k : Nat} {c : Int} (h : k < L.length) (he : L[k] = .fine) : argFrom (L.drop k) c = argFrom (L.drop (k + 1)) c := by rw [List.drop_eq_getElem_cons h, he]; rfl
theorem arg_long {L : List EK} {k : Nat} {c : Int} (h : k < L.length) (he : L[k] = .long) : argFrom (L.drop k) c = 2 := by rw [List.drop_eq_getElem_cons h, he]; rfl
theorem arg_bad {L : List EK} {k : Nat} {c i d : Int} (h : k < L.length) (he : L[k] = .bad i d) : argFrom (L.drop k) c = argFrom (L.drop (k + 1)) 1 := by rw [List.drop_eq_getElem_cons h, he]; rfl

set_option maxHeartbeats 1600000 in
theorem argumentCode_any (g : Nat) (L : List EK) (x y : Addr) (w : World) (hT : Three w x y) (hg : g < w.heap.size) (hn : L.length ≤ 1000) (hc : ∀ k (h : k < L.length), w.cell? ⟨g, k, none⟩ = some (L[k].val x)) :
    Calls Tryz.prog 69 #[.slice (some ⟨g, 0, none⟩) L.length L.length] w fun e w' => e = .returned (.int .i64 (argFrom L 0)) ∧ Below w.heap.size w w' := by
  have HC := Lib.hid hc
  have HT := Lib.hid hT
  clear hc hT
  go_enter Tryz.func69, Tryz.ntmps69
  go_wp2
  go_loopw [3, 8] (fun c i wr => ∃ (k : Nat) (d : Int), k ≤ L.length ∧ i = .int .i64 k ∧ c = .int .i64 d ∧ Hid (argFrom L 0 = argFrom (L.drop k) d) ∧ Below w.heap.size w wr) (fun _ i _ => L.length - (intOf i).toNat)
  case atStart => exact ⟨0, 0, by omega, rfl, rfl, rfl, Below.refl _ _⟩
  case round =>
    obtain ⟨k, d, hk, rfl, rfl, HK, hbw⟩ := hrel
    by_cases hlt : k < L.length
    · have hcell : wr.cell? ⟨g, k, none⟩ = some (L[k].val x) := (hbw.cell (p := ⟨g, k, none⟩) hg).trans (HC.out k hlt)
      have hTr := HT.out.below hbw (Nat.le_refl _)
      have hx := hTr.long
      have hy := hTr.bad
      have hi1 : (k : Int) < (L.length : Int) := by omega
      have hi0 : (0 : Int) ≤ (k : Int) := by omega
      cases hE : L[k] with
      | fine =>
        have HF := Lib.hid (HK.out.trans (arg_fine hlt hE))
        rw [hE] at hcell
        unfold EK.val at hcell
        have H1 := is_nil x wr
        have H2 := is_nil y wr
        unfold errV at hx hy H1 H2
        go_wp2_with fail
        refine H1.mono ?_
        rintro e w1 ⟨rfl, rfl⟩
        go_wp2_with fail
        refine H2.mono ?_
        rintro e w2 ⟨rfl, rfl⟩
        go_wp2_with fail
        exact ⟨⟨k + 1, d, by omega, by go_num, rfl, HF, hbw⟩, by simp [intOf]; omega⟩
      | long =>
        have HF := Lib.hid (HK.out.trans (arg_long hlt hE))
        rw [hE] at hcell
        unfold EK.val at hcell
        have H1 := is_same x wr
        unfold errV at hx hy H1 hcell
        go_wp2_with fail
        refine H1.mono ?_
        rintro e w1 ⟨rfl, rfl⟩
        go_wp2_with fail
        go_ret
        exact ⟨ret_int HF.out.symm, hbw⟩
      | bad i c =>
        have HF := Lib.hid (HK.out.trans (arg_bad hlt hE))
        rw [hE] at hcell
        unfold EK.val at hcell
        obtain ⟨cx, tx, rx⟩ := hTr.rowx
        obtain ⟨cy, ty, ry⟩ := hTr.rowy
        have H1 := is_rec_other i c y x _ _ _ _ wr hy (Ne.symm hTr.ne) ry rx
        have hxl := World.block_lt_of_cell? wr _ hx
        have hyl := World.block_lt_of_cell? wr _ hy
        have hye := hy
        unfold recV at hcell H1
        unfold errV at hx hy H1
        go_wp2_with fail
        refine H1.mono ?_
        rintro e w1 ⟨rfl, hb1⟩
        have hy1 : w1.cell? ⟨1, 0, none⟩ = some (errV y) := (hb1.cell (p := ⟨1, 0, none⟩) hyl).trans hye
        have H2 := is_rec_same i c y w1 hy1
        unfold recV at H2
        unfold errV at hy1 H2
        go_wp2_with fail
        refine H2.mono ?_
        rintro e w2 ⟨rfl, hb2⟩
        go_wp2_with fail
        exact ⟨⟨k + 1, 1, by omega, by go_num, rfl, HF, (hbw.trans (hb1.mono hbw.size)).trans (hb2.mono (hbw.trans (hb1.mono hbw.size)).size)⟩, by simp [intOf]; omega⟩
    · have HE := Lib.hid (HK.out.trans (arg_end (by omega)))
      go_wp2
      go_ret
      exact ⟨ret_int HE.out.symm, hbw⟩

/-- What checkLayer answers. -/
def checkK (l : List R) : EK := if 4096 < l.length then .long else if (layerFaultL l).2 ≠ 0 then .bad (layerFaultL l).1 (layerFaultL l).2 else .fine
theorem checkK_val (l : List R) (x : Addr) : (checkK l).val x = checkV l x := by
  unfold checkK checkV
  split
  · rfl
  · split <;> rfl
theorem arg_l (l : List R) : argFrom [checkK l] 0 = codeL l := by
  by_cases h1 : 4096 < l.length <;> by_cases h3 : (layerFaultL l).2 = 0 <;> simp [checkK, codeL, argFrom, layerOK, h1, h3]
end Go.Proofs.YtibekkfbpmloiabGreatDoor.Recs

/- Layers: FindRecord, of the program and of its model. Conditions (of the program's): the table of kinds, the two sentinels. -/
namespace Go.Proofs.YtibekkfbpmloiabGreatDoor.Recs
set_option maxRecDepth 100000
open Go.RowKit Paths Errs

theorem arg1_any (a : EK) (x y : Addr) (w : World) (hT : Three w x y) :
    Calls Tryz.prog 69 #[.slice (some ⟨w.heap.size, 0, none⟩) 1 1] (w.alloc (.cells #[a.val x] 83)) fun e w' => e = .returned (.int .i64 (argFrom [a] 0)) ∧ Below w.heap.size w w' := by
  have hb0 : Below w.heap.size w (w.alloc (.cells #[a.val x] 83)) := (Below.refl _ _).alloc (Nat.le_refl _) _
  have := argumentCode_any w.heap.size [a] x y (w.alloc (.cells #[a.val x] 83)) (hT.below hb0 (Nat.le_refl _)) (by simp) (by simp) (fun k hk => by
    have hk2 : k < 1 := hk
    match k, hk2 with
    | 0, _ => go_simp)
  refine this.mono ?_
  rintro e w1 ⟨rfl, hb1⟩
  exact ⟨rfl, hb0.trans (hb1.mono hb0.size)⟩

end Go.Proofs.YtibekkfbpmloiabGreatDoor.Recs

/- Layers: the canonical form, of the program. -/
namespace Go.Proofs.YtibekkfbpmloiabGreatDoor.Recs
set_option maxRecDepth 100000
open Go.RowKit Paths Errs

theorem canonicalForm_any (v : Value) (l : List R) (w : World) (h : RecSl w v l) (hok : layerOK l = true) (hr : ∀ r ∈ l, r.p.size ≤ maxLen) :
    Calls Tryz.prog 89 #[v] w fun e w' => ∃ x, e = .returned x ∧ Below w.heap.size w w' ∧ RowOf w' w.heap.size x (canonL l).length (canonL l) :=
  canonicalForm_gen v l w h (layer_sorted hok) (fun _ hm => layer_rec hok hm) (by have := layer_len hok; omega) hr
end Go.Proofs.YtibekkfbpmloiabGreatDoor.Recs

/- Layers: Canonical and IsCanonical, of the program and of its model. Conditions (of the program's): the table of kinds, the two sentinels. -/
namespace Go.Proofs.YtibekkfbpmloiabGreatDoor.Recs
set_option maxRecDepth 100000
open Go.RowKit Paths Errs

def canC (l : List R) : List R := if codeL l = 0 then canonL l else []
theorem canC_bad {l : List R} (h : codeL l ≠ 0) : canC l = [] := if_neg h
theorem canC_ok {l : List R} (h : codeL l = 0) : canC l = canonL l := if_pos h
theorem codeL_ok {l : List R} (h : codeL l = 0) : layerOK l = true := by
  unfold codeL at h
  split at h
  · cases h
  · split at h
    · assumption
    · cases h
theorem canon_len (l : List R) : (canonL l).length ≤ l.length := List.length_filterMap_le _ _
/-- What Canonical leaves: the form in memory of its own, and the code. -/
def CanPost (l : List R) (w : World) (e : Ending) (w' : World) : Prop :=
  ∃ x, e = .returned (.tuple #[x, .int .i64 (codeL l)]) ∧ Below w.heap.size w w' ∧ RowOf w' w.heap.size x (canC l).length (canC l)

set_option maxHeartbeats 1600000 in
theorem canonical_impl (v : Value) (l : List R) (x y : Addr) (w : World) (h : RecSl w v l) (hl : l.length ≤ 1048576) (hr : ∀ r ∈ l, r.p.size ≤ maxLen) (hT : Three w x y) :
    Calls Tryz.prog 80 #[v] w (CanPost l w) := by
  have HC := checkLayer_any v l x _ h hl hr hT.tab hT.long
  rw [← checkK_val] at HC
  have hsl := h
  obtain ⟨A, cap, rfl, hcap, h⟩ := h
  cases hk : checkK l with
  | fine =>
    rw [hk] at HC
    unfold EK.val at HC
    have h0 : codeL l = 0 := by rw [← arg_l, hk]; rfl
    have hok := codeL_ok h0
    have H0 := Lib.hid h0
    clear h0
    go_enter Tryz.func80, Tryz.ntmps80
    go_wp2_with fail
    refine HC.mono ?_
    rintro e w1 ⟨rfl, hb1⟩
    have hT1 := hT.below hb1 (Nat.le_refl _)
    have HA := arg1_any .fine x y w1 hT1
    unfold EK.val at HA
    go_wp2_with fail
    refine HA.mono ?_
    rintro e w3 ⟨rfl, hb3⟩
    have c3 := hb1.trans (hb3.mono hb1.size)
    have hcode : argFrom [.fine] 0 = 0 := rfl
    rw [hcode]
    go_wp2_with fail
    refine (canonicalForm_any _ l _ (hsl.below c3) hok hr).mono ?_
    rintro e w4 ⟨f, rfl, hb4, hr4⟩
    go_wp2_with fail
    go_ret2
    exact ⟨f, by rw [H0.out]; rfl, c3.trans (hb4.mono c3.size), by rw [canC_ok H0.out]; exact ⟨hr4.1, own_le hr4.2 c3.size⟩⟩
  | long =>
    rw [hk] at HC
    unfold EK.val errV at HC
    have HE := Lib.hid (show codeL l = 2 by rw [← arg_l, hk]; rfl)
    go_enter Tryz.func80, Tryz.ntmps80
    go_wp2_with fail
    refine HC.mono ?_
    rintro e w1 ⟨rfl, hb1⟩
    have hT1 := hT.below hb1 (Nat.le_refl _)
    have HA := arg1_any .long x y w1 hT1
    unfold EK.val at HA
    unfold errV at HA
    go_wp2_with fail
    refine HA.mono ?_
    rintro e w3 ⟨rfl, hb3⟩
    have c3 := hb1.trans (hb3.mono hb1.size)
    have hcode : argFrom [.long] 0 = 2 := rfl
    rw [hcode]
    go_wp2_with fail
    go_ret2
    exact ⟨.slice none 0 0, by rw [HE.out]; rfl, c3, by rw [canC_bad (by rw [HE.out]; decide)]; exact ⟨rfl, World.ownsRow_nil _ _ _ _⟩⟩
  | bad i c =>
    rw [hk] at HC
    unfold EK.val recV at HC
    have HE := Lib.hid (show codeL l = 1 by rw [← arg_l, hk]; rfl)
    go_enter Tryz.func80, Tryz.ntmps80
    go_wp2_with fail
    refine HC.mono ?_
    rintro e w1 ⟨rfl, hb1⟩
    have hT1 := hT.below hb1 (Nat.le_refl _)
    have HA := arg1_any (.bad i c) x y w1 hT1
    unfold EK.val at HA
    unfold recV at HA
    go_wp2_with fail
    refine HA.mono ?_
    rintro e w3 ⟨rfl, hb3⟩
    have c3 := hb1.trans (hb3.mono hb1.size)
    have hcode : argFrom [(.bad i c)] 0 = 1 := rfl
    rw [hcode]
    go_wp2_with fail
    go_ret2
    exact ⟨.slice none 0 0, by rw [HE.out]; rfl, c3, by rw [canC_bad (by rw [HE.out]; decide)]; exact ⟨rfl, World.ownsRow_nil _ _ _ _⟩⟩

theorem okL_code (l : List R) : okL l = decide (codeL l = 0) := by
  unfold okL codeL
  by_cases h4 : 4096 < l.length
  · rw [if_pos h4, decide_eq_false (by omega)]; rfl
  · rw [if_neg h4, decide_eq_true (by omega)]
    rcases Bool.eq_false_or_eq_true (layerOK l) with hk | hk <;> rw [hk] <;> rfl

set_option maxHeartbeats 1600000 in
theorem isCanonical_impl (v : Value) (l : List R) (x y : Addr) (w : World) (h : RecSl w v l) (hl : l.length ≤ 1048576) (hr : ∀ r ∈ l, r.p.size ≤ maxLen) (hT : Three w x y) :
    Calls Tryz.prog 24 #[v] w fun e w' => e = .returned (.bool (isCan l)) ∧ Below w.heap.size w w' := by
  have HC := canonical_impl v l x y w h hl hr hT
  by_cases hc : codeL l = 0
  · have HO : Hid (isCan l = decide (canonL l = l)) := by show _ = _; unfold isCan; rw [okL_code, hc]; rfl
    have HN := Lib.hid (canC_ok hc)
    have hdc : (codeL l == 0) = true := by simpa using hc
    clear hc
    go_enter Tryz.func24, Tryz.ntmps24
    go_wp2_with fail
    refine HC.mono ?_
    rintro e w1 ⟨f, rfl, hb1, hr1⟩
    rw [HN.out] at hr1
    go_wp2_with fail
    refine (equalR_any f v (canonL l) l _ hr1.sl (h.below hb1) (by have := canon_len l; omega)).mono ?_
    rintro e w2 ⟨rfl, n2, rfl⟩
    go_wp2_with fail
    go_ret
    exact ⟨ret_bool HO.out.symm, below_drewN hb1 n2⟩
  · have HO : Hid (isCan l = false) := by show _ = _; unfold isCan; rw [okL_code, decide_eq_false hc]; rfl
    have hdc : (codeL l == 0) = false := by simpa using hc
    clear hc
    go_enter Tryz.func24, Tryz.ntmps24
    go_wp2_with fail
    refine HC.mono ?_
    rintro e w1 ⟨f, rfl, hb1, hr1⟩
    go_wp2_with fail
    go_ret
    exact ⟨ret_bool HO.out.symm, hb1⟩

end Go.Proofs.YtibekkfbpmloiabGreatDoor.Recs

/- Hidden, of the program and of its model. Conditions (of the program's): the table of kinds, the two sentinels. -/
namespace Go.Proofs.YtibekkfbpmloiabGreatDoor.Recs
set_option maxRecDepth 100000
open Go.RowKit Paths Errs

theorem str_snoc {w : World} {base : Nat} {v : Value} {M : List (List UInt8)} {p : ByteArray} (h : w.ownsRow base 9 1 v (M.length + 1) (M.map strV ++ [.string p])) : w.ownsRow base 9 1 v (M ++ [p.data.toList]).length ((M ++ [p.data.toList]).map strV) := by
  rw [List.length_append, List.map_append]
  exact h
end Go.Proofs.YtibekkfbpmloiabGreatDoor.Recs

/- Touched, of the program. Conditions: the table of kinds, the two sentinels. -/
namespace Go.Proofs.YtibekkfbpmloiabGreatDoor.Recs
set_option maxRecDepth 100000
open Go.RowKit Paths Errs Go.Shelf
attribute [local go_sem] Oper.semAt_some

theorem nn_long {A B : List R} (h : 4096 < A.length ∨ 4096 < B.length) : codeNN A B = 2 := if_pos h
theorem nn_bad {A B : List R} (h : ¬ (4096 < A.length ∨ 4096 < B.length)) (hb : (treeOK A && treeOK B) = false) : codeNN A B = 1 := by unfold codeNN; rw [if_neg h, hb]; rfl
/-- The paths of changes, as bytes. -/
def cbts (cs : List Chg) : List (List UInt8) := cs.map fun c => c.1.data.toList
theorem cbts_snoc (cs : List Chg) (c : Chg) : cbts (cs ++ [c]) = cbts cs ++ [c.1.data.toList] := by unfold cbts; rw [List.map_append]; rfl
def tchR (A B : List R) : List (List UInt8) := if codeNN A B = 0 then cbts (chgs A B) else []
theorem tch_ok {A B : List R} (h : codeNN A B = 0) : tchR A B = cbts (chgs A B) := if_pos h
theorem tch_bad {A B : List R} {c : Int} (h : codeNN A B = c) (hc : c ≠ 0) : tchR A B = [] := if_neg (by rw [h]; exact hc)
theorem chgs_48 {A B : List R} (h : codeNN A B = 0) : (chgs A B).length ≤ 48 := by
  obtain ⟨h1, h2⟩ := nn_ok h
  have := (tree_of h1).len
  have := (tree_of h2).len
  have := chg_len A B
  omega
theorem tch_len (A B : List R) : (tchR A B).length ≤ 1048576 := by
  unfold tchR
  split
  · rename_i h
    have := chgs_48 h
    unfold cbts
    rw [List.length_map]
    omega
  · simp
set_option maxHeartbeats 8000000 in
theorem touched_impl (v1 v2 : Value) (A B : List R) (x y : Addr) (w : World) (h1 : NodSl w v1 A) (h2 : NodSl w v2 B) (hl1 : A.length ≤ 1048576) (hl2 : B.length ≤ 1048576)
    (hr1 : ∀ r ∈ A, r.p.size ≤ maxLen) (hr2 : ∀ r ∈ B, r.p.size ≤ maxLen) (hT : Three w x y) :
    Calls Tryz.prog 15 #[v1, v2] w fun e w' => ∃ z, e = .returned (.tuple #[z, .int .i64 (codeNN A B)]) ∧ Below w.heap.size w w' ∧ w'.ownsRow w.heap.size 9 1 z (tchR A B).length ((tchR A B).map strV) := by
  obtain ⟨i0, hi, hz0, hz1, hz2⟩ := info_parts strInfo
  have HARG : enFrom [growK A, growK B] 0 = codeNN A B := arg_nn A B
  have HC1 := checkTree_any v1 A x y w h1 hl1 hr1 hT
  have HC2 := fun w1 (hb : Below w.heap.size w w1) => checkTree_any v2 B x y w1 (h2.below hb) hl2 hr2 (hT.below hb (Nat.le_refl _))
  by_cases h0 : codeNN A B = 0
  · obtain ⟨ht1, ht2⟩ := nn_ok h0
    have H0 := Lib.hid h0
    have h48 := chgs_48 h0
    rw [grow_ok2 ht1] at HC1
    rw [grow_ok2 ht2] at HC2
    unfold EN.val at HC1 HC2
    have HTA := Lib.hid (tree_of ht1)
    have HTB := Lib.hid (tree_of ht2)
    have HR : Hid (tchR A B = cbts (chgs A B)) := tch_ok h0
    have HS1 := Lib.hid h1
    have HS2 := Lib.hid h2
    obtain ⟨a1, cap1, rfl⟩ := nodSl_form h1
    obtain ⟨a2, cap2, rfl⟩ := nodSl_form h2
    have hlA := HTA.out.len
    have hlB := HTB.out.len
    clear HARG h0 ht1 ht2 h1 h2
    refine (callsIn_wide (n := 6)).1 ?_
    refine callsIn_of_wp_marks Tryz.func15 rfl trivial ?_ rfl
    simp only [Tryz.ntmps15, List.size_toArray, List.length_cons, List.length_nil, Nat.reduceAdd, Nat.reduceSub, Array.replicate_succ, Array.replicate_zero, List.push_toArray, List.append_toArray, List.nil_append, List.cons_append]
    gi_wp2
    first
    | refine (callsIn_wide.2 HC1).mono ?_
    | refine ⟨trivial, (callsIn_wide.2 HC1).mono ?_⟩
    rintro e w1 ⟨rfl, hb1⟩
    gi_wp2
    first
    | refine (callsIn_wide.2 (HC2 w1 hb1)).mono ?_
    | refine ⟨trivial, (callsIn_wide.2 (HC2 w1 hb1)).mono ?_⟩
    rintro e w2 ⟨rfl, hb2⟩
    have c2 := hb1.trans (hb2.mono hb1.size)
    have HA := argN2_any .fine .fine x y w2 (hT.below c2 (Nat.le_refl _))
    unfold EN.val at HA
    rw [show enFrom [.fine, .fine] 0 = 0 from rfl] at HA
    gi_wp2
    first
    | refine (callsIn_wide.2 HA).mono ?_
    | refine ⟨trivial, (callsIn_wide.2 HA).mono ?_⟩
    rintro e w3 ⟨rfl, hb3⟩
    have c3 := c2.trans (hb3.mono c2.size)
    clear HA HC1 HC2
    gi_wp2
    first
    | refine (callsIn_wide.2 (changesN_any a1 a2 _ _ cap1 cap2 _)).mono ?_
    | refine ⟨trivial, (callsIn_wide.2 (changesN_any a1 a2 _ _ cap1 cap2 _)).mono ?_⟩
    rintro e w5 ⟨rfl, rfl⟩
    gi_wp2
    obtain ⟨W0, hW0⟩ : ∃ W0, (((w3.alloc (.cells #[.slice none 0 0] 32)).alloc (.cells #[.slice a1 A.length cap1] 23)).alloc (.cells #[.slice a2 B.length cap2] 23)).alloc (.cells #[.func (.func 75) #[] #[]] 90) = W0 := ⟨_, rfl⟩
    have hb0 : Below w.heap.size w W0 := by rw [← hW0]; exact (((c3.alloc c3.size _).alloc (by have := c3.size; simp; omega) _).alloc (by have := c3.size; simp; omega) _).alloc (by have := c3.size; simp; omega) _
    have hs0 : W0.heap.size = w3.heap.size + 4 := by rw [← hW0]; simp
    have bP : Boxed W0 w3.heap.size 32 (.slice none 0 0) := by rw [← hW0]; exact (((Boxed.new w3 _ _).alloc _).alloc _).alloc _
    have bA : Boxed W0 (w3.heap.size + 1) 23 (.slice a1 A.length cap1) := by
      rw [← hW0]
      have := Boxed.new (w3.alloc (.cells #[.slice none 0 0] 32)) 23 (.slice a1 A.length cap1)
      rw [World.size_alloc] at this
      exact (this.alloc _).alloc _
    have bB : Boxed W0 (w3.heap.size + 1 + 1) 23 (.slice a2 B.length cap2) := by
      rw [← hW0]
      have := Boxed.new ((w3.alloc (.cells #[.slice none 0 0] 32)).alloc (.cells #[.slice a1 A.length cap1] 23)) 23 (.slice a2 B.length cap2)
      rw [World.size_alloc, World.size_alloc] at this
      exact this.alloc _
    have bF : Boxed W0 (w3.heap.size + 1 + 2) 90 (.func (.func 75) #[] #[]) := by
      rw [← hW0]
      have := Boxed.new (((w3.alloc (.cells #[.slice none 0 0] 32)).alloc (.cells #[.slice a1 A.length cap1] 23)).alloc (.cells #[.slice a2 B.length cap2] 23)) 90 (.func (.func 75) #[] #[])
      rw [World.size_alloc, World.size_alloc, World.size_alloc] at this
      exact this
    rw [hW0]
    clear hW0
    have hsz3 := c3.size
    refine wpIn_rangeFunc_ownH rfl (by omega) (gf := 140) (lb := #[.pointer (some ⟨w3.heap.size + 1, 0, none⟩), .pointer (some ⟨w3.heap.size + 1 + 1, 0, none⟩), .pointer (some ⟨w3.heap.size + 1 + 2, 0, none⟩)]) rfl trivial (enters_of Tryz.func140 (by kernel_rfl) rfl)
      (chgN_stops (6 - 1) (by omega) (w3.heap.size + 1) (w3.heap.size + 1 + 1) (w3.heap.size + 1 + 2) _ _ A B w W0 hb0 HS1.out HS2.out bA bB bF HTA.out.fault HTB.out.fault (by omega)) KeepD.trans (KeepD.put (by omega)) (Below.refl _ _) (fun _ => rfl)
      (fun pre W => (∃ v, Boxed W w3.heap.size 32 v ∧ W.ownsRow w.heap.size 9 1 v (cbts (pre.map ItC.c)).length ((cbts (pre.map ItC.c)).map strV) ∧ True) ∧ Below w.heap.size w W)
      (fun _ _ _ => False)
      (OwnFrom.and (Own.from (holdsRow_own w.heap.size w3.heap.size 32 9 1 (fun pre : List (ItC A B) => (cbts (pre.map ItC.c)).length) (fun pre => (cbts (pre.map ItC.c)).map strV) (fun _ _ => True)) _) (ownFrom_below (Nat.le_refl _) hb0.size))
      (fun _ _ _ _ _ hs _ _ => hs)
      ⟨⟨_, bP, World.ownsRow_nil _ _ _ _, trivial⟩, hb0⟩
      (fun x a' W => ∃ Bx, w3.heap.size < Bx ∧ CbN W Bx x.c.1 x.c.2.1 x.c.2.2 ∧ a' = { tmps := #[.slice a1 A.length cap1, .slice a2 B.length cap2, undef, undef, .slice none 0 0, .int .i64 0, .int .i64 0, .pointer (some ⟨w3.heap.size, 0, none⟩), .pointer (some ⟨Bx, 0, none⟩), .slice a1 A.length cap1, .nilIface, .slice a2 B.length cap2, .nilIface, .slice (some ⟨w2.heap.size, 0, none⟩) 2 2, .int .i64 0, .int .i64 0, .bool false, undef, .slice a1 A.length cap1, .slice a2 B.length cap2, .func (.func 140) #[] #[.pointer (some ⟨w3.heap.size + 1, 0, none⟩), .pointer (some ⟨w3.heap.size + 1 + 1, 0, none⟩), .pointer (some ⟨w3.heap.size + 1 + 2, 0, none⟩)], chgVN x.c, undef, undef, undef, undef, undef, undef], defers := [] })
      (fun x a' _ X Y row hs hg hr => by obtain ⟨Bx, k1, k2, k3⟩ := hs; exact ⟨Bx, k1, cbN_own Bx k2 hg (fun r e => (hr r e).2), k3⟩)
      ?assign ?body ?done ?stop
    case assign =>
      rintro l pre x W K ⟨⟨v, bv, hrow, -⟩, hB⟩ hK
      simp only [chgVN]
      gi_wp2
      exact hK _ _ ((KeepsOthers.alloc _ _).from _) (KeepD.of ((Below.refl _ W).alloc (Nat.le_refl _) _) hB.size) ⟨⟨v, bv.alloc _, hrow.alloc _, trivial⟩, hB.alloc hB.size _⟩ ⟨W.heap.size, bv.lt, alloc_here _ _, rfl⟩
    case body =>
      rintro l pre x a' W hl ⟨r, hr⟩ ⟨⟨v, bv, hrow, -⟩, hB⟩ ⟨Bx, hBx, hcb, rfl⟩ hlt
      obtain ⟨e0, -⟩ := hcb.cells
      obtain ⟨vA, vcap, rfl⟩ := own_form hrow
      have hcl : (cbts (pre.map ItC.c)).length ≤ 48 := by unfold cbts; rw [List.length_map, List.length_map]; omega
      have HSN := Lib.hid (cbts_snoc (pre.map ItC.c) x.c)
      have HMP : Hid ((pre ++ [x]).map ItC.c = pre.map ItC.c ++ [x.c]) := by show _ = _; rw [List.map_append]; rfl
      have hbc := bv.cell
      have hbf := bv.frozen
      generalize hM : cbts (pre.map ItC.c) = M at *
      have HMM := Lib.hid hM
      have HRW := Lib.hid hrow
      have HBV := Lib.hid bv
      have hsz := hB.size
      clear hM
      gi_wp2_with (first
        | (gi_at_builtin; refine wpListIn_append_own _ rfl _ _ 32 rfl w.heap.size 9 i0 (.string ByteArray.empty) 1 16 Tryz.underlying32 hi hz0 hz1 hz2 rfl (by decide) _ _ _ rfl (HRW.out.alloc _) ⟨W.heap.size, 0, none⟩ 1 1 [.string x.c.1] rfl rfl (cell_one_new _ _ _) (by simp [Value.oneCell']) (by unfold maxLen; omega) (by omega) (by simp; omega) ?_; intro v' w9 hown' hgrow hnil; obtain ⟨g', cap', rfl⟩ := ownsRow_succ hown'; obtain ⟨hv1, hv2, hr2, hk2, hb2⟩ := HBV.out.appended (by decide) HRW.out hsz hsz3 hown' hgrow; have hc1 := hv1.cell; have hf1 := hv1.frozen; have HGR : Hid ((W.alloc (.cells #[.string x.c.1] 9)).grownBy w9 (Value.slice vA M.length vcap).ownBlock) := hgrow; have HV2 := Lib.hid hv2; have HR2 := Lib.hid hr2; have HK2 := Lib.hid hk2; have HB2 := Lib.hid hb2; clear hgrow hv2 hr2 hk2 hb2 hown' hnil))
      refine ⟨HK2.out.from _, ⟨HB2.out, fun u hu => ?_⟩, ⟨_, HV2.out, ?_, trivial⟩, hB.trans HB2.out⟩
      · exact ((hu.alloc (.cells #[.string x.c.1] 9)).kept HGR.out ((hu.alloc (.cells #[.string x.c.1] 9)).not_row (by decide) (HRW.out.alloc (.cells #[.string x.c.1] 9)))).other (by omega) _
      · rw [HMP.out, HSN.out]
        exact str_snoc HR2.out
    case done =>
      rintro D xs W hD hS ⟨⟨v, bv, hrow, -⟩, hB⟩ hK
      have cS := bv.cell
      have HXS : Hid (cbts (xs.map ItC.c) = tchR A B) := by show _ = _; rw [hS, HR.out]
      obtain ⟨vA, vcap, rfl⟩ := own_form hrow
      have HRW := Lib.hid hrow
      clear hS hrow
      gi_wp2
      refine ⟨by simp, .inl ⟨_, _, rfl, run_takeDeferred hK, ?_⟩⟩
      exact ⟨_, results_tmp2 rfl _ _ _, _, by rw [H0.out]; rfl, hB.trans (belowK_b (w := w) (Nat.le_refl _) W D _ _ (by omega) hK rfl rfl), by rw [← HXS.out]; exact ownsRow_putObj HRW.out _ hK rfl⟩
    case stop =>
      rintro D c pre W _ _ h _
      exact h.elim
  · cases hga : growK A <;> cases hgb : growK B <;> (
      rw [hga, hgb] at HARG
      first
      | exact absurd (HARG.symm.trans rfl) h0
      | (rw [hga] at HC1
         rw [hgb] at HC2
         unfold EN.val at HC1 HC2
         try unfold errV at HC1
         try unfold errV at HC2
         have HAA := fun w2 hb => argN2_any (growK A) (growK B) x y w2 (hT.below hb (Nat.le_refl _))
         rw [hga, hgb] at HAA
         have hne : (codeNN A B != 0) = true := (by simpa using h0)
         have HQ := Lib.hid (tch_bad (A := A) (B := B) rfl h0)
         rw [HARG] at HAA
         unfold EN.val at HAA
         try unfold errV at HAA
         generalize hC : codeNN A B = C at *
         have HCC := Lib.hid hC
         obtain ⟨a1, cap1, rfl⟩ := nodSl_form h1
         obtain ⟨a2, cap2, rfl⟩ := nodSl_form h2
         clear HARG h0 hC h1 h2
         go_enter Tryz.func15, Tryz.ntmps15
         go_wp2_with fail
         refine HC1.mono ?_
         rintro e w1 ⟨rfl, hb1⟩
         go_wp2_with fail
         refine (HC2 w1 hb1).mono ?_
         rintro e w2 ⟨rfl, hb2⟩
         have c2 := hb1.trans (hb2.mono hb1.size)
         go_wp2_with fail
         refine (HAA w2 c2).mono ?_
         rintro e w3 ⟨rfl, hb3⟩
         have c3 := c2.trans (hb3.mono c2.size)
         go_wp2_with fail
         go_ret2
         exact ⟨.slice none 0 0, by first | rfl | (rw [HCC.out]; rfl) | (rw [← HCC.out]; rfl), c3, by rw [HQ.out]; exact World.ownsRow_nil _ _ _ _⟩))
end Go.Proofs.YtibekkfbpmloiabGreatDoor.Recs
