/- Parts of several texts of mine in one file (each begins with its own remark). -/
import Derived.Test.YtibekkfbpmloiabGreatDoorCA10
import Derived.Test.YtibekkfbpmloiabGreatDoorCA11
import Derived.Test.YtibekkfbpmloiabGreatDoorCA13
import Derived.Test.YtibekkfbpmloiabGreatDoorCA14
import Derived.Test.YtibekkfbpmloiabGreatDoorCA15
import Derived.Test.YtibekkfbpmloiabGreatDoorCA16
import Derived.Test.YtibekkfbpmloiabGreatDoorCA17
import Derived.Test.YtibekkfbpmloiabGreatDoorCA2
import Derived.Test.YtibekkfbpmloiabGreatDoorCA20
import Derived.Test.YtibekkfbpmloiabGreatDoorCA22
import Derived.Test.YtibekkfbpmloiabGreatDoorCA3
import Derived.Test.YtibekkfbpmloiabGreatDoorCA4
import Derived.Test.YtibekkfbpmloiabGreatDoorCA5
import Derived.Test.YtibekkfbpmloiabGreatDoorCA6
import Derived.Test.YtibekkfbpmloiabGreatDoorCA7
import Derived.Test.YtibekkfbpmloiabGreatDoorCA9
import Derived.Test.YtibekkfbpmloiabGreatDoorCC1
import Derived.Test.YtibekkfbpmloiabGreatDoorCC10
import Derived.Test.YtibekkfbpmloiabGreatDoorCC11
import Derived.Test.YtibekkfbpmloiabGreatDoorCC12
import Derived.Test.YtibekkfbpmloiabGreatDoorCC13
import Derived.Test.YtibekkfbpmloiabGreatDoorCC14
import Derived.Test.YtibekkfbpmloiabGreatDoorCC15
import Derived.Test.YtibekkfbpmloiabGreatDoorCC16
import Derived.Test.YtibekkfbpmloiabGreatDoorCC17
import Derived.Test.YtibekkfbpmloiabGreatDoorCC8
import Derived.Test.YtibekkfbpmloiabGreatDoorCC9
import Derived.Test.YtibekkfbpmloiabGreatDoorCD1
import Derived.Test.YtibekkfbpmloiabGreatDoorCD2
import Derived.Test.YtibekkfbpmloiabGreatDoorChecked
import Derived.Test.YtibekkfbpmloiabGreatDoorShelf
import Derived.Test.YtibekkfbpmloiabGreatDoorProg
import Derived.Test.YtibekkfbpmloiabGreatDoorRows
import Derived.Test.YtibekkfbpmloiabGreatDoorShelf2
import Derived.Deep.Cut
import Derived.Deep.CutRange
import Derived.Deep.CutBlock
import Derived.Maps.OwnIn
import Derived.Deep.Slices
import Derived.OpenShut
import Derived.ShutString
import Derived.ChangeArms
import Derived.WideShapes
import Derived.Lib.LaidTab
import Derived.BigQuiet
import Derived.Deep.QuietTactic
import Derived.Deep.RegionHeld3
import Derived.StillTailTactics
import Derived.Deep.Draws
import Derived.Deep.LoopGhost
import Derived.WalkKit
import Derived.WalkSpells
import Derived.WalkSmall
import Derived.Lib.OthersKept
import Derived.Lib.Hide
import Derived.Lib.Strings
import Derived.Lib.Join
import Derived.WalkLawsBesides
import Derived.Laws.BytesArg
import Derived.Laws.OwnMore
import Derived.BigRegion
import Derived.Stop.LaidErr
import Derived.LaidEql
import Derived.Stop.Asserts
import Derived.Below
import Derived.Stop.LaidTwo
import Derived.Deep.RegionWith
import Derived.Laws.AppendOwnNone
import Derived.RegionTactic
import Derived.RangeFuncNested
import Derived.RangeFuncBound
import Derived.RangeFuncCalls
import Derived.RangeFuncLeaves
import Derived.RangeFuncBox
import Derived.Shelf.Abstract
import Derived.Shelf.RegionOpen
import Derived.OwnWalkIn
import Derived.TacticsInMore
import Derived.LoopNIn
import Derived.LoopIn
import Derived.ChangeVars
import Derived.Deep.DeepHandedRow
import Derived.OneCell
import Derived.Lib.SliceRun
import Derived.Lib.Overlaps
import Derived.Lib.AppendZerosOnto
import Derived.Laws.NewBlocks
import Derived.Laws.IdiomCopy
import Derived.Deep.RegionLaw
import Derived.Laws.IdiomRangeMap
import Derived.Maps.RangeWalk
import Derived.Maps.Ext
import Derived.Lib.SlMapFilter
import Derived.Deep.AppendLies
import Derived.Laws.EntriesVeiled
import Derived.Shelf.SlSortCmp.NoneTotal
import Derived.Sort.OwnSorted
import Derived.Maps.AppendAt
import Derived.Sort.MapsRangeIn
import Derived.Sort.KeysCollected
import Derived.Sort.Grow
/- LayerBetween, of the model. -/
namespace Go.Proofs.YtibekkfbpmloiabGreatDoor.Recs
set_option maxRecDepth 100000
open Go.RowKit Paths

set_option maxHeartbeats 1600000 in
theorem LayerBetween_spec (v1 v2 : Value) (A B : List R) (w : World) (h1 : NodSl w v1 A) (h2 : NodSl w v2 B) (hl1 : A.length ≤ 1048576) (hl2 : B.length ≤ 1048576) :
    Calls Tryz.prog 14 #[v1, v2] w fun e w' => ∃ z, e = .returned (.tuple #[z, .int .i64 (lbC A B)]) ∧ Below w.heap.size w w' ∧ RowOf w' w.heap.size z (lbR A B).length (lbR A B) := by
  have HAK := l08Ask_any v1 v2 A B w h1 h2 hl1 hl2
  have HBT : Hid (codeNN A B = 0 → ∀ w1, Below w.heap.size w w1 → Calls Tryz.prog 73 #[v1, v2] w1 fun e w' => ∃ x, e = .returned x ∧ Below w1.heap.size w1 w' ∧ RowOf w' w1.heap.size x (betP A B).length (betP A B)) := fun h0 w1 hb => l08Between_any v1 v2 A B w1 (h1.below hb) (h2.below hb) (tree_of (nn_ok h0).1) (tree_of (nn_ok h0).2)
  have E0 : Hid (∀ W, Below w.heap.size w W → (W.alloc (.cells #[] 53)).ownsRow w.heap.size 53 5 (.slice (some ⟨W.heap.size, 0, none⟩) 0 0) 0 []) := fun W hW => World.ownsRow_lit W #[] 0 hW.size (Nat.zero_le _) rfl
  obtain ⟨a1, cap1, rfl⟩ := nodSl_form h1
  obtain ⟨a2, cap2, rfl⟩ := nodSl_form h2
  clear h1 h2
  by_cases k1 : 4096 < A.length
  · have hd : decide ((4096 : Int) < (A.length : Int)) = true := decide_eq_true (by omega)
    have HQ := Lib.hid (lb_bad (nn_long (A := A) (B := B) (.inl k1)) (by decide))
    clear k1 HAK
    go_enter Tryz.func14, Tryz.ntmps14
    go_wp2_with fail
    go_ret2
    exact ⟨_, by rw [HQ.out.1]; rfl, (Below.refl _ _).alloc (Nat.le_refl _) _, by rw [HQ.out.2]; exact ⟨rfl, E0.out _ (Below.refl _ _)⟩⟩
  have hd1 : decide ((4096 : Int) < (A.length : Int)) = false := decide_eq_false (by omega)
  by_cases k2 : 4096 < B.length
  · have hd : decide ((4096 : Int) < (B.length : Int)) = true := decide_eq_true (by omega)
    have HQ := Lib.hid (lb_bad (nn_long (A := A) (B := B) (.inr k2)) (by decide))
    clear k1 k2 HAK
    go_enter Tryz.func14, Tryz.ntmps14
    go_wp2_with fail
    go_ret2
    exact ⟨_, by rw [HQ.out.1]; rfl, (Below.refl _ _).alloc (Nat.le_refl _) _, by rw [HQ.out.2]; exact ⟨rfl, E0.out _ (Below.refl _ _)⟩⟩
  have hd2 : decide ((4096 : Int) < (B.length : Int)) = false := decide_eq_false (by omega)
  by_cases h0 : codeNN A B = 0
  · have H0 := Lib.hid h0
    rw [h0] at HAK
    clear h0 k1 k2
    go_enter Tryz.func14, Tryz.ntmps14
    go_wp2_with fail
    refine HAK.mono ?_
    rintro e w1 ⟨rfl, c0⟩
    go_wp2_with fail
    refine (HBT.out H0.out _ c0).mono ?_
    rintro e w4 ⟨z, rfl, hb4, hz⟩
    have c4 := c0.trans (hb4.mono c0.size)
    obtain ⟨zA, zcap, rfl⟩ := hz.form
    have HZ := Lib.hid hz
    clear hz
    by_cases h16 : 16 < (betP A B).length
    · have HQ := Lib.hid (lb_many H0.out h16)
      have hd : decide ((16 : Int) < ((betP A B).length : Int)) = true := decide_eq_true (by omega)
      clear h16
      go_wp2_with fail
      go_ret2
      exact ⟨_, by rw [HQ.out.1]; rfl, c4.alloc c4.size _, by rw [HQ.out.2]; exact ⟨rfl, E0.out _ c4⟩⟩
    · have HQ := Lib.hid (lb_ok H0.out h16)
      have hd : decide ((16 : Int) < ((betP A B).length : Int)) = false := decide_eq_false (by omega)
      clear h16
      go_wp2_with fail
      go_ret2
      exact ⟨_, by rw [HQ.out.1]; rfl, c4, by rw [HQ.out.2]; exact ⟨HZ.out.1, own_le HZ.out.2 c0.size⟩⟩
  · have h1 : codeNN A B = 1 := by
      cases ht : treeOK A && treeOK B with
      | false => exact nn_bad (by omega) ht
      | true => exact absurd (nn_fine (by omega) ht) h0
    have HQ := Lib.hid (lb_bad h1 (by decide))
    rw [h1] at HAK
    clear h0 h1 k1 k2
    go_enter Tryz.func14, Tryz.ntmps14
    go_wp2_with fail
    refine HAK.mono ?_
    rintro e w1 ⟨rfl, c0⟩
    go_wp2_with fail
    go_ret2
    exact ⟨_, by rw [HQ.out.1]; rfl, c0.alloc c0.size _, by rw [HQ.out.2]; exact ⟨rfl, E0.out _ c0⟩⟩
end Go.Proofs.YtibekkfbpmloiabGreatDoor.Recs

/- Differences of trees, plain: the layer between two trees makes the one of the other; it is a canonical layer. -/
namespace Go.Proofs.YtibekkfbpmloiabGreatDoor.Recs
set_option maxRecDepth 100000
open Go.RowKit Paths

theorem bet_equal (A : List R) : betP A A = [] := by unfold betP; rw [chg_self]; rfl
end Go.Proofs.YtibekkfbpmloiabGreatDoor.Recs

/- Differences of trees, plain: what LayerBetween, UndoOf and Rebase answer of trees and layers that are drawn. -/
namespace Go.Proofs.YtibekkfbpmloiabGreatDoor.Recs
open Go.RowKit Paths

theorem between_self {A : List R} (ha : Tree A) : lbC A A = 0 ∧ lbR A A = [] := by
  obtain ⟨h1, h2⟩ := lb_ok (nn_trees ha ha) (by rw [bet_equal]; simp)
  exact ⟨h1, h2.trans (bet_equal A)⟩
theorem chg_empty {A B : List R} (ha : Sorted A) (hb : Sorted B) (h : chgs A B = []) : A = B := by
  have hall : ∀ q, recAt A q = recAt B q := fun q => Classical.byContradiction fun hn => by
    have : (q, (recAt A q).getD zR, (recAt B q).getD zR) ∈ chgs A B := (chg_mem A B ha hb _).2 ⟨hn, rfl⟩
    rw [h] at this
    cases this
  refine sorted_ext _ _ ha hb fun x => ⟨fun hx => ?_, fun hx => ?_⟩
  · have := recAt_of ha hx
    rw [hall] at this
    exact (recAt_mem this).1
  · have := recAt_of hb hx
    rw [← hall] at this
    exact (recAt_mem this).1
theorem touched_none {A B : List R} (ha : Tree A) (hb : Tree B) : (((tchR A B).length : Int) == 0) = decide (A = B) := by
  rw [tch_ok (nn_trees ha hb)]
  unfold cbts
  rw [List.length_map]
  by_cases h : A = B
  · subst h
    rw [chg_self]
    simp
  · have hne : chgs A B ≠ [] := fun e => h (chg_empty ha.sorted hb.sorted e)
    have hpos := List.length_pos_iff.2 hne
    rw [decide_eq_false h]
    simp
    omega
end Go.Proofs.YtibekkfbpmloiabGreatDoor.Recs

/- SizeOf, of the program and of its model. Conditions (of the program's): the table of kinds, the two sentinels. -/
namespace Go.Proofs.YtibekkfbpmloiabGreatDoor.Recs
set_option maxRecDepth 100000
open Go.RowKit Paths Errs

/-- The bytes of all paths and bodies, and four a record. -/
def sizN (l : List R) : Nat := l.foldl (fun n r => n + (r.p.size + r.b.size + 4)) 0
theorem siz_step {l : List R} {k : Nat} (hk : k < l.length) : sizN (l.take (k + 1)) = sizN (l.take k) + (l[k].p.size + l[k].b.size + 4) := by
  unfold sizN
  rw [List.take_add_one, List.getElem?_eq_getElem hk, Option.toList_some, List.foldl_append]
  rfl
theorem siz_fold (l : List R) : ∀ n : Nat, (∀ r ∈ l, r.p.size ≤ 35 ∧ r.b.size ≤ 20) → l.foldl (fun n r => n + (r.p.size + r.b.size + 4)) n ≤ n + 59 * l.length := by
  induction l with
  | nil => intro n _; simp
  | cons x l ih =>
    intro n h
    have h1 := h x (by simp)
    have h2 := ih (n + (x.p.size + x.b.size + 4)) (fun r hr => h r (List.mem_cons_of_mem _ hr))
    rw [List.foldl_cons, List.length_cons]
    omega
theorem siz_le {l : List R} (h : ∀ r ∈ l, r.p.size ≤ 35 ∧ r.b.size ≤ 20) (k : Nat) : sizN (l.take k) ≤ 59 * l.length := by
  have h1 := siz_fold (l.take k) 0 (fun r hr => h r (List.mem_of_mem_take hr))
  have h2 : (l.take k).length ≤ l.length := by rw [List.length_take]; omega
  unfold sizN
  omega
theorem fault_sizes {r : R} (h : r.fault = 0) : r.p.size ≤ 35 ∧ r.b.size ≤ 20 := by
  obtain ⟨h1, _, _, h2⟩ := fault_path h
  refine ⟨?_, h2⟩
  have := pathB_len h1
  rw [Lib.size_eq]
  exact this
def sizC (l : List R) : Int := if codeL l = 0 then (sizN l : Int) else 0
theorem sizC_ok {l : List R} (h : codeL l = 0) : sizC l = (sizN l : Int) := if_pos h
theorem sizC_bad {l : List R} {c : Int} (h : codeL l = c) (hc : c ≠ 0) : sizC l = 0 := if_neg (by rw [h]; exact hc)

set_option maxHeartbeats 1600000 in
theorem sizeOf_impl (v : Value) (l : List R) (x y : Addr) (w : World) (h : RecSl w v l) (hl : l.length ≤ 1048576) (hr : ∀ r ∈ l, r.p.size ≤ maxLen) (hT : Three w x y) :
    Calls Tryz.prog 21 #[v] w fun e w' => e = .returned (.tuple #[.int .i64 (sizC l), .int .i64 (codeL l)]) ∧ Below w.heap.size w w' := by
  have HC := checkLayer_any v l x _ h hl hr hT.tab hT.long
  rw [← checkK_val] at HC
  have hsl := h
  obtain ⟨A, cap, rfl, hcap, h⟩ := h
  cases hk : checkK l with
  | fine =>
    rw [hk] at HC
    unfold EK.val at HC
    have h0 : codeL l = 0 := by rw [← arg_l, hk]; rfl
    have hok := codeL_ok h0
    have h16 := layer_len hok
    have HF : Hid (∀ r ∈ l, r.p.size ≤ 35 ∧ r.b.size ≤ 20) := fun r hm => fault_sizes (layer_rec hok hm)
    have HSL : Hid (∀ k, sizN (l.take k) ≤ 59 * l.length) := fun k => siz_le HF.out k
    have H0 := Lib.hid h0
    have H := Lib.hid h
    clear h0 hok h
    go_enter Tryz.func21, Tryz.ntmps21
    go_wp2_with fail
    refine HC.mono ?_
    rintro e w1 ⟨rfl, hb1⟩
    have hT1 := hT.below hb1 (Nat.le_refl _)
    have HA := arg1_any .fine x y w1 hT1
    unfold EK.val at HA
    go_wp2_with fail
    refine HA.mono ?_
    rintro e w3 ⟨rfl, hb3⟩
    have c3 := hb1.trans (hb3.mono hb1.size)
    have hcode : argFrom [.fine] 0 = 0 := rfl
    rw [hcode]
    clear hcode
    go_wp2_with fail
    go_loopw [5, 17] (fun f i wr => ∃ (k S : Nat), k ≤ l.length ∧ i = .int .i64 k ∧ Hid (S = sizN (l.take k)) ∧ f = .int .i64 (S : Int) ∧ Below w.heap.size w wr) (fun _ i _ => l.length - (intOf i).toNat)
    case atStart => exact ⟨0, 0, by omega, rfl, rfl, rfl, c3⟩
    case round =>
      obtain ⟨k, S, hk, rfl, HS, rfl, hbw⟩ := hrel
      by_cases hlt : k < l.length
      · obtain ⟨b, off, rfl, hb, hcell⟩ := H.out (by omega)
        obtain ⟨c0, c1, c2, c3, c4⟩ := (hcell k l[k] (by simp [hlt])).below hbw hb
        clear hcell
        have hi1 : (k : Int) < (l.length : Int) := by omega
        have hi0 : (0 : Int) ≤ (k : Int) := by omega
        obtain ⟨hp35, hb20⟩ := HF.out l[k] (List.getElem_mem hlt)
        have hS : S ≤ 944 := by have := HSL.out k; rw [← HS.out] at this; omega
        have HN : Hid (S + (l[k].p.size + l[k].b.size + 4) = sizN (l.take (k + 1))) := by show _ = _; rw [siz_step hlt, ← HS.out]
        have q0 : (0 : Int) ≤ (l[k].p.size : Int) := by omega
        have q1 : (l[k].p.size : Int) ≤ 35 := by omega
        have q2 : (0 : Int) ≤ (l[k].b.size : Int) := by omega
        have q3 : (l[k].b.size : Int) ≤ 20 := by omega
        have q4 : (0 : Int) ≤ (S : Int) := by omega
        have q5 : (S : Int) ≤ 944 := by omega
        go_wp2_with fail
        exact ⟨⟨k + 1, S + (l[k].p.size + l[k].b.size + 4), by omega, by go_num, HN, by go_num, hbw.alloc hbw.size _⟩, by simp [intOf]; omega⟩
      · have HE : Hid (S = sizN l) := by show _ = _; rw [HS.out, List.take_of_length_le (by omega)]
        go_wp2_with fail
        go_ret2
        exact ⟨by rw [H0.out, sizC_ok H0.out, ← HE.out]; rfl, hbw⟩
  | long =>
    rw [hk] at HC
    unfold EK.val errV at HC
    have HE := Lib.hid (show codeL l = 2 by rw [← arg_l, hk]; rfl)
    go_enter Tryz.func21, Tryz.ntmps21
    go_wp2_with fail
    refine HC.mono ?_
    rintro e w1 ⟨rfl, hb1⟩
    have hT1 := hT.below hb1 (Nat.le_refl _)
    have HA := arg1_any .long x y w1 hT1
    unfold EK.val at HA
    unfold errV at HA
    go_wp2_with fail
    refine HA.mono ?_
    rintro e w3 ⟨rfl, hb3⟩
    have c3 := hb1.trans (hb3.mono hb1.size)
    have hcode : argFrom [.long] 0 = 2 := rfl
    rw [hcode]
    go_wp2_with fail
    go_ret2
    exact ⟨by rw [HE.out, sizC_bad HE.out (by decide)]; rfl, c3⟩
  | bad i c =>
    rw [hk] at HC
    unfold EK.val recV at HC
    have HE := Lib.hid (show codeL l = 1 by rw [← arg_l, hk]; rfl)
    go_enter Tryz.func21, Tryz.ntmps21
    go_wp2_with fail
    refine HC.mono ?_
    rintro e w1 ⟨rfl, hb1⟩
    have hT1 := hT.below hb1 (Nat.le_refl _)
    have HA := arg1_any (.bad i c) x y w1 hT1
    unfold EK.val at HA
    unfold recV at HA
    go_wp2_with fail
    refine HA.mono ?_
    rintro e w3 ⟨rfl, hb3⟩
    have c3 := hb1.trans (hb3.mono hb1.size)
    have hcode : argFrom [(.bad i c)] 0 = 1 := rfl
    rw [hcode]
    go_wp2_with fail
    go_ret2
    exact ⟨by rw [HE.out, sizC_bad HE.out (by decide)]; rfl, c3⟩

set_option maxHeartbeats 1600000 in
theorem sizeOf_spec (v : Value) (l : List R) (w : World) (h : RecSl w v l) (hl : l.length ≤ 1048576) :
    Calls Tryz.prog 22 #[v] w fun e w' => e = .returned (.tuple #[.int .i64 (sizC l), .int .i64 (codeL l)]) ∧ Below w.heap.size w w' := by
  have HC := l03OK_any v l _ h hl
  obtain ⟨A, cap, rfl, hcap, h⟩ := h
  by_cases h4 : 4096 < l.length
  · have HE := Lib.hid (show codeL l = 2 from if_pos h4)
    have hd : decide ((4096 : Int) < (l.length : Int)) = true := by simp; omega
    go_enter Tryz.func22, Tryz.ntmps22
    go_wp2_with fail
    go_ret2
    exact ⟨by rw [HE.out, sizC_bad HE.out (by decide)]; rfl, Below.refl _ _⟩
  have hd4 : decide ((4096 : Int) < (l.length : Int)) = false := by simp; omega
  rcases Bool.eq_false_or_eq_true (layerOK l) with hk | hk
  case inr =>
    have HE := Lib.hid (show codeL l = 1 by unfold codeL; rw [if_neg h4, hk]; rfl)
    rw [hk] at HC
    go_enter Tryz.func22, Tryz.ntmps22
    go_wp2_with fail
    refine HC.mono ?_
    rintro e w1 ⟨rfl, hb1⟩
    go_wp2_with fail
    go_ret2
    exact ⟨by rw [HE.out, sizC_bad HE.out (by decide)]; rfl, hb1⟩
  have H0 := Lib.hid (show codeL l = 0 by unfold codeL; rw [if_neg h4, hk]; rfl)
  have h16 := layer_len hk
  have HF : Hid (∀ r ∈ l, r.p.size ≤ 35 ∧ r.b.size ≤ 20) := fun r hm => fault_sizes (layer_rec hk hm)
  have HSL : Hid (∀ k, sizN (l.take k) ≤ 59 * l.length) := fun k => siz_le HF.out k
  have H := Lib.hid h
  rw [hk] at HC
  clear h hk
  go_enter Tryz.func22, Tryz.ntmps22
  go_wp2_with fail
  refine HC.mono ?_
  rintro e w1 ⟨rfl, hb1⟩
  go_wp2_with fail
  go_loopw [4, 5] (fun f i wr => ∃ (k S : Nat), k ≤ l.length ∧ i = .int .i64 k ∧ Hid (S = sizN (l.take k)) ∧ f = .int .i64 (S : Int) ∧ Below w.heap.size w wr) (fun _ i _ => l.length - (intOf i).toNat)
  case atStart => exact ⟨0, 0, by omega, rfl, rfl, rfl, hb1⟩
  case round =>
    obtain ⟨k, S, hk, rfl, HS, rfl, hbw⟩ := hrel
    by_cases hlt : k < l.length
    · obtain ⟨b, off, rfl, hb, hcell⟩ := H.out (by omega)
      obtain ⟨c0, c1, c2, c3, c4⟩ := (hcell k l[k] (by simp [hlt])).below hbw hb
      clear hcell
      have hi1 : (k : Int) < (l.length : Int) := by omega
      have hi0 : (0 : Int) ≤ (k : Int) := by omega
      obtain ⟨hp35, hb20⟩ := HF.out l[k] (List.getElem_mem hlt)
      have hS : S ≤ 944 := by have := HSL.out k; rw [← HS.out] at this; omega
      have HN : Hid (S + (l[k].p.size + l[k].b.size + 4) = sizN (l.take (k + 1))) := by show _ = _; rw [siz_step hlt, ← HS.out]
      have q0 : (0 : Int) ≤ (l[k].p.size : Int) := by omega
      have q1 : (l[k].p.size : Int) ≤ 35 := by omega
      have q2 : (0 : Int) ≤ (l[k].b.size : Int) := by omega
      have q3 : (l[k].b.size : Int) ≤ 20 := by omega
      have q4 : (0 : Int) ≤ (S : Int) := by omega
      have q5 : (S : Int) ≤ 944 := by omega
      have r1 : IntKind.i64.wrap (4 + (l[k].p.size : Int)) = 4 + (l[k].p.size : Int) := IntWalk.i64_in _ (by omega)
      have r2 : IntKind.i64.wrap (4 + (l[k].p.size : Int) + (l[k].b.size : Int)) = 4 + (l[k].p.size : Int) + (l[k].b.size : Int) := IntWalk.i64_in _ (by omega)
      have r3 : IntKind.i64.wrap ((S : Int) + (4 + (l[k].p.size : Int) + (l[k].b.size : Int))) = (S : Int) + (4 + (l[k].p.size : Int) + (l[k].b.size : Int)) := IntWalk.i64_in _ (by omega)
      go_wp2_with fail
      go_quiet (fail)
      clear r1 r2 r3
      have hbq := below_drewN hbw nq
      generalize wr.drewN nq = wt at *
      go_wp2_with fail
      exact ⟨⟨k + 1, S + (l[k].p.size + l[k].b.size + 4), by omega, by go_num, HN, by go_num, hbq⟩, by simp [intOf]; omega⟩
    · have HE : Hid (S = sizN l) := by show _ = _; rw [HS.out, List.take_of_length_le (by omega)]
      go_wp2_with fail
      go_ret2
      exact ⟨by rw [H0.out, sizC_ok H0.out, ← HE.out]; rfl, hbw⟩
end Go.Proofs.YtibekkfbpmloiabGreatDoor.Recs
