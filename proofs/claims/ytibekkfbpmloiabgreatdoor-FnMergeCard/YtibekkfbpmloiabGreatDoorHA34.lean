/- Parts of several texts of mine in one file (each begins with its own remark). -/
import Derived.Test.YtibekkfbpmloiabGreatDoorHA1
import Derived.Test.YtibekkfbpmloiabGreatDoorHA12
import Derived.Test.YtibekkfbpmloiabGreatDoorHA15
import Derived.Test.YtibekkfbpmloiabGreatDoorHA16
import Derived.Test.YtibekkfbpmloiabGreatDoorHA19
import Derived.Test.YtibekkfbpmloiabGreatDoorHA2
import Derived.Test.YtibekkfbpmloiabGreatDoorHA20
import Derived.Test.YtibekkfbpmloiabGreatDoorHA3
import Derived.Test.YtibekkfbpmloiabGreatDoorHA30
import Derived.Test.YtibekkfbpmloiabGreatDoorHA31
import Derived.Test.YtibekkfbpmloiabGreatDoorHA32
import Derived.Test.YtibekkfbpmloiabGreatDoorHA33
import Derived.Test.YtibekkfbpmloiabGreatDoorHA4
import Derived.Test.YtibekkfbpmloiabGreatDoorHA5
import Derived.Test.YtibekkfbpmloiabGreatDoorHA6
import Derived.Test.YtibekkfbpmloiabGreatDoorHA8
import Derived.Test.YtibekkfbpmloiabGreatDoorChecked
import Derived.Test.YtibekkfbpmloiabGreatDoorShelf
import Derived.Test.YtibekkfbpmloiabGreatDoorProg
import Derived.Test.YtibekkfbpmloiabGreatDoorRows
import Derived.Deep.RegionWith
import Derived.Laws.AppendOwnNone
import Derived.WalkKit
import Derived.WalkSpells
import Derived.WalkSmall
import Derived.WalkLawsBesides
import Derived.Lib.Hide
import Derived.BigQuiet
import Derived.BigRegion
import Derived.RegionTactic
import Derived.StillTailTactics
import Derived.Deep.QuietTactic
import Derived.Deep.RegionHeld3
import Derived.Deep.Draws
import Derived.Deep.LoopGhost
import Derived.Lib.OthersKept
import Derived.Lib.Strings
import Derived.Lib.Join
import Derived.Laws.BytesArg
import Derived.Deep.Cut
import Derived.Deep.CutRange
import Derived.Deep.Slices
import Derived.OpenShut
import Derived.ShutString
import Derived.ChangeArms
import Derived.WideShapes
import Derived.Lib.LaidTab
import Derived.Laws.OwnMore
import Derived.Stop.LaidErr
import Derived.LaidEql
import Derived.Stop.Asserts
import Derived.Below
import Derived.Stop.LaidTwo
import Derived.OneCell
import Derived.Lib.SliceRun
import Derived.Lib.Overlaps
import Derived.Lib.AppendZerosOnto
import Derived.Laws.NewBlocks
import Derived.Laws.IdiomCopy
import Derived.Deep.RegionLaw
import Derived.ChangeVars
import Derived.Deep.DeepHandedRow
import Derived.Deep.AppendLies
import Derived.Laws.EntriesVeiled
import Derived.Deep.CutBlock
import Derived.Laws.IdiomRangeMap
import Derived.Maps.RangeWalk
import Derived.Maps.Ext
import Derived.Lib.SlMapFilter
/- The model's source of choices: drawn records are valid. -/
namespace Go.Proofs.YtibekkfbpmloiabGreatDoor.Draw
open Go.RowKit
open Paths Recs

theorem Went.setNew {w w' : World} {B g m : Nat} (h : Went w w' B g m) {b j : Nat} (hb : w.heap.size ≤ b) (hg : g < w.heap.size) (v : Value) : Went w (w'.setCell ⟨b, j, none⟩ v) B g m := by
  obtain ⟨⟨h1, h2, A, n, cap, k, s, hY, c1, c2, c3, hg'⟩, gr⟩ := h
  have hoth : ∀ k, k < w.heap.size → (w'.setCell ⟨b, j, none⟩ v).heap[k]? = w'.heap[k]? := fun k hk => heap_setCell_other w' ⟨b, j, none⟩ k v (by show k ≠ b; omega)
  refine ⟨⟨h1, h2, A, n, cap, k, s, ?_, c1, c2, c3, by rw [hoth g hg]; exact hg'⟩, ⟨gr.os, gr.tape, gr.output, by simpa using gr.size, fun k hk hne => (hoth k hk).trans (gr.block k hk hne)⟩⟩
  refine ⟨hY.1, fun hn => ?_⟩
  obtain ⟨b', off, e, hlt, hc⟩ := hY.2 hn
  refine ⟨b', off, e, hlt, fun k hk => ?_⟩
  obtain ⟨x, hx, hcell⟩ := hc k hk
  exact ⟨x, hx, (World.cell?_of_block (hoth b' (by omega))).trans hcell⟩

def bodies : List (List UInt8) := [[], [111, 110, 101], [116, 119, 111], [120, 0, 121], [108, 111, 110, 103, 32, 108, 111, 110, 103, 32, 98, 111, 100, 121, 32, 104, 101, 114, 101, 33]]
theorem body_len {p : List UInt8} (h : p ∈ bodies) : p.length ≤ 20 := by
  have : bodies.all (fun p => decide (p.length ≤ 20)) = true := by decide
  simpa using List.all_eq_true.1 this p h
def targets : List (List UInt8) := [[97], [46, 46, 47, 98], [47]]
theorem target_len {p : List UInt8} (h : p ∈ targets) : 1 ≤ p.length ∧ p.length ≤ 20 := by
  have : targets.all (fun p => decide (1 ≤ p.length ∧ p.length ≤ 20)) = true := by decide
  simpa using List.all_eq_true.1 this p h

theorem body_any (w : World) (B g m : Nat) (h : Src w B g m) (hm : m + 1 ≤ 1000000) :
    Calls Tryz.prog 177 #[.pointer (some ⟨g, 0, none⟩)] w fun e w' => ∃ p : List UInt8, p.length ≤ 20 ∧ e = .returned (.string ⟨p.toArray⟩) ∧ Went w w' B g (m + 1) := by
  have H := Lib.hid h
  have hlt := h.lt
  clear h
  go_enter Tryz.func177, Tryz.ntmps177
  go_wp2_with fail
  have hb1 := (Below.refl w.heap.size w).alloc (Nat.le_refl _) (.cells (bodies.map strV).toArray 9)
  refine (pick_any _ B g m w.heap.size 5 bodies (H.out.below hb1) hm (by decide) (by decide) (Lits.new w bodies) (by omega)).mono ?_
  rintro e w1 ⟨p, hp, rfl, hw⟩
  have hpb := body_len hp
  have hw2 : Went w w1 B g (m + 1) := ((Went.refl H.out).below hb1).trans hw
  rw [strV_eq2]
  go_wp2_with fail
  go_ret
  exact ⟨p, hpb, rfl, hw2⟩

theorem chance_any (w : World) (B g m : Nat) (n : Int) (h : Src w B g m) (hm : m + 1 ≤ 1000000) (hn : n ≤ 256) (hn1 : 1 ≤ n) :
    Calls Tryz.prog 178 #[.pointer (some ⟨g, 0, none⟩), .int .i64 n] w fun e w' => ∃ o : Bool, e = .returned (.bool o) ∧ Went w w' B g (m + 1) := by
  have H := Lib.hid h
  clear h
  go_enter Tryz.func178, Tryz.ntmps178
  go_wp2_with fail
  refine (next_small w B g m _ H.out hm hn).mono ?_
  rintro e w1 ⟨r, hr, rfl, hw⟩
  go_wp2_with fail
  all_goals
    go_ret
    exact ⟨_, rfl, hw⟩

theorem Went.cell {a b : World} {B g m : Nat} (h : Went a b B g m) {k o : Nat} (hk : k < a.heap.size) (hne : k ≠ g) : b.cell? ⟨k, o, none⟩ = a.cell? ⟨k, o, none⟩ :=
  World.cell?_of_block (h.2.block k hk (fun e => hne (Option.some.inj e)))
theorem Went.frozen {a b : World} {B g m : Nat} (h : Went a b B g m) {k o : Nat} (hk : k < a.heap.size) (hne : k ≠ g) : b.frozen? ⟨k, o, none⟩ = a.frozen? ⟨k, o, none⟩ :=
  World.frozen?_of_block (h.2.block k hk (fun e => hne (Option.some.inj e)))

/-- What a drawn record is: valid, with the path that was given. -/
def GoodRec (p : ByteArray) (w : World) (B g m : Nat) (e : Ending) (w' : World) : Prop :=
  ∃ (k mm : Int) (b : ByteArray) (o : Bool), faultI k p.data.toList b.size mm o = 0 ∧ b.size ≤ 20 ∧ e = .returned (.agg #[.int .i64 k, .string p, .string b, .int .i64 mm, .bool o]) ∧ Went w w' B g m

theorem good_file {p : List UInt8} (h : pathB p = true) {z : Nat} (hz : z ≤ 20) {mm : Int} (hm : 0 ≤ mm ∧ mm ≤ 511) : faultI 1 p z mm false = 0 := by
  unfold faultI
  rw [if_neg (by omega), if_neg (by rw [h]; decide), if_neg (by omega), if_neg (by simp), if_neg (by omega)]
theorem good_link {p : List UInt8} (h : pathB p = true) {z : Nat} (hz : 1 ≤ z ∧ z ≤ 20) : faultI 2 p z 0 false = 0 := by
  unfold faultI
  rw [if_neg (by omega), if_neg (by rw [h]; decide), if_neg (by omega), if_neg (by simp), if_neg (by omega)]
theorem good_white {p : List UInt8} (h : pathB p = true) : faultI 4 p 0 0 false = 0 := by
  unfold faultI
  rw [if_neg (by omega), if_neg (by rw [h]; decide), if_neg (by omega), if_neg (by simp), if_neg (by omega)]
theorem good_dir {p : List UInt8} (h : pathB p = true) {mm : Int} (hm : 0 ≤ mm ∧ mm ≤ 511) (o : Bool) : faultI 3 p 0 mm o = 0 := by
  unfold faultI
  rw [if_neg (by omega), if_neg (by rw [h]; decide), if_neg (by omega), if_neg (by simp), if_neg (by omega)]

def mode3 (r : Nat) : Int := if r = 0 then 420 else if r = 1 then 0 else 511
theorem mode3_at {r : Nat} (h : r < 3) : (#[.int .i64 420, .int .i64 0, .int .i64 511] : Array Value)[r]? = some (.int .i64 (mode3 r)) := by
  have e : r = 0 ∨ r = 1 ∨ r = 2 := by omega
  rcases e with rfl | rfl | rfl <;> rfl
theorem mode3_in (r : Nat) : 0 ≤ mode3 r ∧ mode3 r ≤ 511 := by unfold mode3; split <;> (try split) <;> omega
def mode2 (r : Nat) : Int := if r = 0 then 493 else 448
theorem mode2_at {r : Nat} (h : r < 2) : (#[.int .i64 493, .int .i64 448] : Array Value)[r]? = some (.int .i64 (mode2 r)) := by
  have e : r = 0 ∨ r = 1 := by omega
  rcases e with rfl | rfl <;> rfl
theorem mode2_in (r : Nat) : 0 ≤ mode2 r ∧ mode2 r ≤ 511 := by unfold mode2; split <;> omega

/-- As next and chance, at a world behind another one, with what they leave alone. -/
theorem next_at (w W : World) (B g m : Nat) (n : Int) (h : Src w B g m) (hm : m + 1 ≤ 1000000) (hn : 1 ≤ n ∧ n ≤ 256) (hb : Below w.heap.size w W) :
    Calls Tryz.prog 117 #[.pointer (some ⟨g, 0, none⟩), .int .i64 n] W fun e w' => ∃ r : Nat, (r : Int) < n ∧ e = .returned (.int .i64 r) ∧ W.heap.size ≤ w'.heap.size ∧ Went w w' B g (m + 1) ∧
      (∀ k o, k < W.heap.size → k ≠ g → w'.cell? ⟨k, o, none⟩ = W.cell? ⟨k, o, none⟩) ∧ (∀ k o, k < W.heap.size → k ≠ g → w'.frozen? ⟨k, o, none⟩ = W.frozen? ⟨k, o, none⟩) := by
  refine (next_small W B g m n (h.below hb) hm hn.2).mono ?_
  rintro e w' ⟨r, hr, rfl, hw⟩
  exact ⟨r, by omega, rfl, hw.2.size, ((Went.refl h).below hb).trans hw, fun k o hk hne => hw.cell hk hne, fun k o hk hne => hw.frozen hk hne⟩
theorem chance_at (w W : World) (B g m : Nat) (n : Int) (h : Src w B g m) (hm : m + 1 ≤ 1000000) (hn : 1 ≤ n ∧ n ≤ 256) (hb : Below w.heap.size w W) :
    Calls Tryz.prog 178 #[.pointer (some ⟨g, 0, none⟩), .int .i64 n] W fun e w' => ∃ o : Bool, e = .returned (.bool o) ∧ W.heap.size ≤ w'.heap.size ∧ Went w w' B g (m + 1) ∧
      (∀ k o, k < W.heap.size → k ≠ g → w'.cell? ⟨k, o, none⟩ = W.cell? ⟨k, o, none⟩) ∧ (∀ k o, k < W.heap.size → k ≠ g → w'.frozen? ⟨k, o, none⟩ = W.frozen? ⟨k, o, none⟩) := by
  refine (chance_any W B g m n (h.below hb) hm hn.2 hn.1).mono ?_
  rintro e w' ⟨o, rfl, hw⟩
  exact ⟨o, rfl, hw.2.size, ((Went.refl h).below hb).trans hw, fun k o hk hne => hw.cell hk hne, fun k o hk hne => hw.frozen hk hne⟩

set_option maxHeartbeats 2000000 in
theorem record_any (w : World) (B g m : Nat) (p : ByteArray) (hp : pathB p.data.toList = true) (h : Src w B g m) (hm : m + 3 ≤ 1000000) :
    Calls Tryz.prog 119 #[.pointer (some ⟨g, 0, none⟩), .string p] w (GoodRec p w B g (m + 3)) := by
  have H := Lib.hid h
  have hglt := h.lt
  have HP := Lib.hid hp
  clear h hp
  go_enter Tryz.func119, Tryz.ntmps119
  go_wp2_with fail
  have hb0 := (Below.refl w.heap.size w).alloc (Nat.le_refl _) (.cells #[.int .i64 0, .string ⟨#[]⟩, .string ⟨#[]⟩, .int .i64 0, .bool false] 53)
  have HW0 := Lib.hid ((Went.refl H.out).below hb0)
  refine (next_small _ B g m _ HW0.out.1 (by omega) (by omega)).mono ?_
  rintro e w1 ⟨r, hr, rfl, hw1⟩
  have hr8 : r < 8 := by omega
  have HW1 := Lib.hid (HW0.out.trans hw1)
  have hc1 := fun o => hw1.cell (k := w.heap.size) (o := o) (by simp) (by omega)
  have hf1 := fun o => hw1.frozen (k := w.heap.size) (o := o) (by simp) (by omega)
  have hz1 : w.heap.size < w1.heap.size := by have := hw1.2.size; simp at this; omega
  clear hw1 hr hb0
  by_cases h45 : r = 4 ∨ r = 5
  · rcases h45 with rfl | rfl
    all_goals
      go_wp2_with fail
      refine bodyPost_ret (v := .agg #[.int .i64 4, .string p, .string ⟨#[]⟩, .int .i64 0, .bool false]) (by simp [results, Tryz.results119, go_sem, hc1]) rfl ?_
      refine ⟨4, 0, ⟨#[]⟩, false, good_white HP.out, by decide, rfl, ?_⟩
      repeat (refine Went.setNew ?_ (Nat.le_refl _) hglt _)
      exact HW1.out.more (by omega) (by omega)
  by_cases h3 : r = 3
  · subst h3
    go_wp2_with fail
    have hb1 := (Below.refl w1.heap.size w1).alloc (Nat.le_refl _) (.cells (targets.map strV).toArray 9)
    refine (pick_any _ B g (m + 1) w1.heap.size 3 targets (HW1.out.1.below hb1) (by omega) (by decide) (by decide) (Lits.new w1 targets) (by omega)).mono ?_
    rintro e w2 ⟨q, hq, rfl, hw2⟩
    have hql := target_len hq
    have HW2 := Lib.hid ((HW1.out.below hb1).trans hw2)
    have hc2 := fun o => (hw2.cell (k := w.heap.size) (o := o) (by simp; omega) (by omega)).trans ((hb1.cell (p := ⟨w.heap.size, o, none⟩) (by simpa using hz1)).trans (hc1 o))
    have hf2 := fun o => (hw2.frozen (k := w.heap.size) (o := o) (by simp; omega) (by omega)).trans ((hb1.frozen (p := ⟨w.heap.size, o, none⟩) (by simpa using hz1)).trans (hf1 o))
    have hz2 : w.heap.size < w2.heap.size := by have := hw2.2.size; simp at this; omega
    clear hw2 hb1 hq hc1 hf1
    rw [strV_eq2]
    go_wp2_with fail
    refine bodyPost_ret (v := .agg #[.int .i64 2, .string p, .string ⟨q.toArray⟩, .int .i64 0, .bool false]) (by simp [results, Tryz.results119, go_sem, hc2]) rfl ?_
    refine ⟨2, 0, ⟨q.toArray⟩, false, good_link HP.out hql, hql.2, rfl, ?_⟩
    repeat (refine Went.setNew ?_ (Nat.le_refl _) hglt _)
    exact HW2.out.more (by omega) (by omega)
  by_cases h012 : r < 3
  · have e012 : r = 0 ∨ r = 1 ∨ r = 2 := by omega
    clear h45 h3 h012
    rcases e012 with rfl | rfl | rfl
    all_goals
      go_wp2_with fail
      refine (body_any w1 B g (m + 1) HW1.out.1 (by omega)).mono ?_
      rintro e w2 ⟨q, hql, rfl, hw2⟩
      have hc2 := fun o => (hw2.cell (k := w.heap.size) (o := o) hz1 (by omega)).trans (hc1 o)
      have hf2 := fun o => (hw2.frozen (k := w.heap.size) (o := o) hz1 (by omega)).trans (hf1 o)
      have hz2 : w.heap.size < w2.heap.size := by have := hw2.2.size; omega
      have HW2 := Lib.hid (HW1.out.trans hw2)
      have hg2 := hw2.1.lt
      clear hw2 hc1 hf1
      go_wp2_with fail
      have hb2 := (Below.refl w2.heap.size w2).alloc (Nat.le_refl _) (.cells #[.int .i64 420, .int .i64 0, .int .i64 511] 3)
      refine (next_small _ B g (m + 1 + 1) _ (HW2.out.1.below hb2) (by omega) (by omega)).mono ?_
      rintro e w3 ⟨r3, hr3, rfl, hw3⟩
      have hr33 : r3 < 3 := by omega
      have hi0 : (0 : Int) ≤ (r3 : Int) := by omega
      have hi1 : (r3 : Int) < 3 := by omega
      have hcell : w3.cell? ⟨w2.heap.size, r3, none⟩ = some (.int .i64 (mode3 r3)) := (hw3.cell (by simp) (by omega)).trans (by rw [cell_of_row _ _ r3 _ _ _ (heap_alloc_new w2 _)]; exact mode3_at hr33)
      have hc3 := fun o => (hw3.cell (k := w.heap.size) (o := o) (by simp; omega) (by omega)).trans ((hb2.cell (p := ⟨w.heap.size, o, none⟩) (by simpa using hz2)).trans (hc2 o))
      have hf3 := fun o => (hw3.frozen (k := w.heap.size) (o := o) (by simp; omega) (by omega)).trans ((hb2.frozen (p := ⟨w.heap.size, o, none⟩) (by simpa using hz2)).trans (hf2 o))
      have hz3 : w.heap.size < w3.heap.size := by have := hw3.2.size; simp at this; omega
      have HW3 := Lib.hid ((HW2.out.below hb2).trans hw3)
      have hm3 := mode3_in r3
      clear hw3 hb2 hc2 hf2 hr3
      go_wp2_with fail
      refine bodyPost_ret (v := .agg #[.int .i64 1, .string p, .string ⟨q.toArray⟩, .int .i64 (mode3 r3), .bool false]) (by simp [results, Tryz.results119, go_sem, hc3]) rfl ?_
      refine ⟨1, mode3 r3, ⟨q.toArray⟩, false, good_file HP.out hql hm3, hql, rfl, ?_⟩
      repeat (refine Went.setNew ?_ (Nat.le_refl _) hglt _)
      exact HW3.out.more (by omega) (by omega)
  have e0 : ((r : Int) == 0) = false := beq_eq_false_iff_ne.2 (by omega)
  have e1 : ((r : Int) == 1) = false := beq_eq_false_iff_ne.2 (by omega)
  have e2 : ((r : Int) == 2) = false := beq_eq_false_iff_ne.2 (by omega)
  have e3 : ((r : Int) == 3) = false := beq_eq_false_iff_ne.2 (by omega)
  have e4 : ((r : Int) == 4) = false := beq_eq_false_iff_ne.2 (by omega)
  have e5 : ((r : Int) == 5) = false := beq_eq_false_iff_ne.2 (by omega)
  clear h45 h3 h012
  go_wp2_with fail
  have hne0 : ¬ w.heap.size = g := by omega
  have hne1 : ¬ w1.heap.size = g := by omega
  go_region_with (first
    | (go_at_call 117; refine (next_at w1 _ B g (m + 1) _ HW1.out.1 (by omega) (by omega) ?_).mono ?_; (first | exact (Below.refl _ _).drew | exact ((Below.refl _ _).alloc (Nat.le_refl _) _).drew); rintro e w2 ⟨r2, hr2, rfl, hz2, hw2, hq2, hf2⟩; have ha2 := mode2_at (r := r2) (by omega); have hs2 : w.heap.size < w2.heap.size := Nat.lt_of_lt_of_le hz1 hw2.2.size; have hg2 := hw2.1.lt; have hne2 : ¬ w2.heap.size = g := (by omega); have hrc2 := fun o => (hw2.cell (o := o) hz1 hne0).trans (hc1 o); have hrf2 := fun o => (hw2.frozen (o := o) hz1 hne0).trans (hf1 o); (try (have hl2 : w1.heap.size < w2.heap.size := by simp at hz2; omega)); have HW2 := Lib.hid hw2; clear hw2)
    | (go_at_call 178; refine (chance_at w2 _ B g (m + 1 + 1) _ HW2.out.1 (by omega) (by omega) ?_).mono ?_; (first | exact (Below.refl _ _) | exact ((Below.refl _ _).alloc (Nat.le_refl _) _)); rintro e w3 ⟨o3, rfl, hz3, hw3, hq3, hf3⟩; have hs3 : w.heap.size < w3.heap.size := Nat.lt_of_lt_of_le hs2 hw3.2.size; have hrc3 := fun o => (hw3.cell (o := o) hs2 hne0).trans (hrc2 o); have hrf3 := fun o => (hw3.frozen (o := o) hs2 hne0).trans (hrf2 o); have HW3 := Lib.hid hw3; clear hw3))
  all_goals
    go_wp2
    refine bodyPost_ret (v := .agg #[.int .i64 3, .string p, .string ⟨#[]⟩, .int .i64 (mode2 r2), .bool o3]) (by first | (simp [results, Tryz.results119, go_sem, hrc3]; done) | (simp [results, Tryz.results119, go_sem, hrc3, hs3]; done)) rfl ?_
    refine ⟨3, mode2 r2, ⟨#[]⟩, o3, good_dir HP.out (mode2_in r2) o3, by decide, rfl, ?_⟩
    repeat (first | with_reducible refine Went.setNew ?_ (Nat.le_refl _) hglt _ | with_reducible refine Went.below ?_ ((Below.refl _ _).alloc (Nat.le_refl _) _))
    with_reducible exact ((HW1.out.trans HW2.out).trans HW3.out).more (by omega) (by omega)
end Go.Proofs.YtibekkfbpmloiabGreatDoor.Draw

/- The model's draws: how large a drawn thing may be. -/
namespace Go.Proofs.YtibekkfbpmloiabGreatDoor.Draw
set_option maxRecDepth 100000
open Go.RowKit
open Paths Recs

theorem Src.code {w : World} {B g m : Nat} (h : Src w B g m) : ∃ (A : Option Addr) (n cap : Nat), n ≤ 1048577 ∧ w.cell? ⟨g, 0, none⟩ = some (.slice A n cap) := by
  obtain ⟨_, _, A, n, cap, k, s, hB, _, _, _, hg⟩ := h
  exact ⟨A, n, cap, hB.1, by simp [World.cell?, hg]⟩
theorem room_any (w : World) (B g m mo : Nat) (h : Src w B g m) (hm : 1 ≤ mo ∧ mo ≤ 200) :
    Calls Tryz.prog 118 #[.pointer (some ⟨g, 0, none⟩), .int .i64 mo] w fun e w' => ∃ r : Nat, 1 ≤ r ∧ r ≤ mo ∧ e = .returned (.int .i64 r) ∧ w = w' := by
  obtain ⟨A, n, cap, hn, hc⟩ := h.code
  clear h
  go_enter Tryz.func118, Tryz.ntmps118
  go_wp2
  all_goals (
    go_ret
    exact ⟨min (1 + n / 12) mo, by omega, by omega, congrArg (fun z => Ending.returned (Value.int .i64 z)) (by omega), rfl⟩)
end Go.Proofs.YtibekkfbpmloiabGreatDoor.Draw

/- The model's draws: a layer drawn is one. -/
namespace Go.Proofs.YtibekkfbpmloiabGreatDoor.Draw
set_option maxRecDepth 100000
open Go.RowKit
open Paths Recs

theorem row_went {a b : World} {B g m base : Nat} {v : Value} {n : Nat} {M : List R} (h : RowOf a base v n M) (hw : Went a b B g m) (hg : g < base) : RowOf b base v n M :=
  ⟨h.1, h.2.kept hw.2 (by
    cases hv : v.ownBlock with
    | none => exact .inl rfl
    | some k => exact .inr fun e => by cases e; have := (h.2.lt _ hv).1; omega)⟩
theorem fault_i {k mm : Int} {p b : ByteArray} {o : Bool} (h : faultI k p.data.toList b.size mm o = 0) : R.fault ⟨k, mm, p, b, o⟩ = 0 := h

set_option maxHeartbeats 2000000 in
theorem layer_any (w : World) (B g m : Nat) (h : Src w B g m) (hm : m + 100 ≤ 1000000) :
    Calls Tryz.prog 68 #[.pointer (some ⟨g, 0, none⟩)] w fun e w' => ∃ v l, e = .returned v ∧ layerOK l = true ∧ Went w w' B g (m + 100) ∧ RowOf w' w.heap.size v l.length l ∧ v ≠ .slice none 0 0 := by
  have hgl := h.lt
  have hb0 : Below w.heap.size w (w.alloc (.cells #[] 53)) := (Below.refl _ _).alloc (Nat.le_refl _) _
  have HO0 : Hid (layerOK [] = true ∧ RowOf (w.alloc (.cells #[] 53)) w.heap.size (.slice (some ⟨w.heap.size, 0, none⟩) 0 0) ([] : List R).length [] ∧ (Value.slice (some ⟨w.heap.size, 0, none⟩) 0 0) ≠ .slice none 0 0) := ⟨fine_ok fine_nil (by simp), ⟨rfl, World.ownsRow_lit w #[] 0 (Nat.le_refl _) (Nat.zero_le _) rfl⟩, (fun e => by cases e)⟩
  have HW0 := Lib.hid ((Went.refl h).below hb0)
  have HRM := room_any _ B g m 6 (h.below hb0) (by omega)
  clear h
  go_enter Tryz.func68, Tryz.ntmps68
  go_wp2_with fail
  generalize w.alloc (.cells #[] 53) = W1 at *
  refine HRM.mono ?_
  rintro e w2 ⟨r, hr1, hr6, rfl, rfl⟩
  have HNX := next_small W1 B g m ((r : Int) + 3) HW0.out.1 (by omega) (by omega)
  go_wp2_with fail
  refine HNX.mono ?_
  rintro e w3 ⟨N, hN, rfl, hw3⟩
  have hN9 : N ≤ 9 := by omega
  have HI0 : Hid (Went w w3 B g (m + 1) ∧ layerOK [] = true ∧ RowOf w3 w.heap.size (.slice (some ⟨w.heap.size, 0, none⟩) 0 0) ([] : List R).length [] ∧ (Value.slice (some ⟨w.heap.size, 0, none⟩) 0 0) ≠ .slice none 0 0) := ⟨HW0.out.trans hw3, HO0.out.1, row_went HO0.out.2.1 hw3 hgl, HO0.out.2.2⟩
  clear hN hw3 HO0 HW0
  go_wp2
  go_loopw [3, 4] (fun lv iv wr => ∃ (k : Nat) (l : List R), k ≤ N ∧ iv = .int .i64 k ∧ Hid (Went w wr B g (m + 1 + 7 * (N - k)) ∧ layerOK l = true ∧ RowOf wr w.heap.size lv l.length l ∧ lv ≠ .slice none 0 0)) (fun _ i _ => (intOf i).toNat)
  case atStart => exact ⟨N, [], Nat.le_refl _, rfl, by
    have h1 := HI0.out
    show Went w w3 B g (m + 1 + 7 * (N - N)) ∧ _
    rw [Nat.sub_self]
    exact h1⟩
  case round =>
    obtain ⟨k, l, hk, rfl, HI⟩ := hrel
    obtain ⟨lA, lcap, rfl⟩ := HI.out.2.2.1.form
    have hl16 := layer_len HI.out.2.1
    by_cases h0 : 0 < k
    · have hd : decide ((0 : Int) < (k : Int)) = true := by simp; omega
      have HPT := path_any wr B g _ HI.out.1.1 (by omega)
      go_wp2_with fail
      refine HPT.mono ?_
      rintro e w4 ⟨q, hq, rfl, hw4⟩
      have HW4 := Lib.hid hw4
      have HP := Lib.hid (show pathB (⟨q.toArray⟩ : ByteArray).data.toList = true by simpa using hq)
      clear hw4 hq
      rw [strV_eq2]
      have HRC := record_any w4 B g _ ⟨q.toArray⟩ HP.out HW4.out.1 (by omega)
      go_wp2_with fail
      refine HRC.mono ?_
      rintro e w5 ⟨rk, rm, rb, ro, hf, _, rfl, hw5⟩
      have HW5 := Lib.hid (HI.out.1.trans (HW4.out.trans hw5))
      have HR5 := Lib.hid (row_went (row_went HI.out.2.2.1 HW4.out hgl) hw5 hgl)
      have HF := Lib.hid (fault_i hf)
      have HPU := l03Put_any 4 _ l ⟨rk, rm, ⟨q.toArray⟩, rb, ro⟩ w5 HR5.out.sl (layer_lays HI.out.2.1) HF.out (pathB_parts HP.out).1 (by omega)
      unfold R.val at HPU
      clear hw5 hf
      go_wp2_with fail
      refine HPU.mono ?_
      rintro e w6 ⟨x, rfl, hb6, hrow6, hx6⟩
      obtain ⟨xA, xcap, rfl⟩ := hrow6.form
      have HX6 := Lib.hid hx6
      have HR6 := Lib.hid hrow6
      have h5l : w.heap.size ≤ w5.heap.size := HW5.out.2.size
      have HW6 : Hid (Went w w6 B g (m + 1 + 7 * (N - (k - 1)))) := (HW5.out.below hb6).more (by omega) (by omega)
      clear hrow6 hx6
      have hk1 : ((k - 1 : Nat) : Int) = (k : Int) - 1 := by omega
      by_cases h16 : (lputF 4 l ⟨rk, rm, ⟨q.toArray⟩, rb, ro⟩).length ≤ 16
      · have hd2 : decide (((lputF 4 l ⟨rk, rm, ⟨q.toArray⟩, rb, ro⟩).length : Int) ≤ 16) = true := by simp; omega
        have HOK : Hid (layerOK (lputF 4 l ⟨rk, rm, ⟨q.toArray⟩, rb, ro⟩) = true) := lput_layer HI.out.2.1 HF.out h16
        clear h16
        go_wp2_with fail
        go_roundw
        case rel => exact ⟨k - 1, _, by omega, by rw [hk1], HW6.out, HOK.out, ⟨HR6.out.1, own_down HR6.out.2 h5l⟩, HX6.out⟩
        case measure => simp [intOf]; omega
      · have hd2 : decide (((lputF 4 l ⟨rk, rm, ⟨q.toArray⟩, rb, ro⟩).length : Int) ≤ 16) = false := by simp; omega
        have HRL := Lib.hid (HR5.out.below hb6)
        clear h16
        go_wp2_with fail
        go_roundw
        case rel => exact ⟨k - 1, l, by omega, by rw [hk1], HW6.out, HI.out.2.1, HRL.out, HI.out.2.2.2⟩
        case measure => simp [intOf]; omega
    · have hd : decide ((0 : Int) < (k : Int)) = false := by simp; omega
      go_wp2_with fail
      go_ret
      exact ⟨_, l, rfl, HI.out.2.1, HI.out.1.more (by omega) (by omega), HI.out.2.2.1, HI.out.2.2.2⟩

end Go.Proofs.YtibekkfbpmloiabGreatDoor.Draw

/- The model's draws: a stack drawn is one. -/
namespace Go.Proofs.YtibekkfbpmloiabGreatDoor.Draw
set_option maxRecDepth 100000
open Go.RowKit
open Paths Recs

theorem own_went {a b : World} {B g m base : Nat} {e : TypeId} {k n : Nat} {v : Value} {xs : List Value} (h : a.ownsRow base e k v n xs) (hw : Went a b B g m) (hg : g < base) : b.ownsRow base e k v n xs :=
  h.kept hw.2 (by
    cases hv : v.ownBlock with
    | none => exact .inl rfl
    | some k => exact .inr fun e => by cases e; have := (h.lt _ hv).1; omega)
theorem stk_went {a b : World} {B g m hb base : Nat} {v : Value} {LL : List (List R)} (h : StkOwn a hb base v LL) (hw : Went a b B g m) (h1 : g < hb) (h2 : g < base) : StkOwn b hb base v LL := by
  obtain ⟨us, hn, ho, hr, hd⟩ := h
  exact ⟨us, hn, own_went ho hw h1, fun i u l hi hl => row_went (hr i u l hi hl) hw h2, hd⟩
theorem went_grown {a b c : World} {B g m : Nat} {row : Option Nat} (h : Went a b B g m) (hg : b.grownBy c row) (hr : ∀ j, row = some j → a.heap.size ≤ j) (hgl : g < a.heap.size) : Went a c B g m := by
  have hbel : Below a.heap.size b c := (Below.refl a.heap.size b).grown hg h.2.size hr
  obtain ⟨⟨h1, h2, A, n, cap, k, s, hB, x, y, z, hq⟩, hw⟩ := h
  refine ⟨⟨h1, h2, A, n, cap, k, s, hB.below (hbel.mono (by omega)), x, y, z, (hbel.block g hgl).trans hq⟩, ⟨hg.os.trans hw.os, hg.tape.trans hw.tape, hg.output.trans hw.output, Nat.le_trans hw.size hg.size, fun j hj hne => (hbel.block j hj).trans (hw.block j hj hne)⟩⟩

set_option maxHeartbeats 3200000 in
theorem stack_any (w : World) (B g m : Nat) (h : Src w B g m) (hm : m + 500 ≤ 1000000) :
    Calls Tryz.prog 82 #[.pointer (some ⟨g, 0, none⟩)] w fun e w' => ∃ v LL, e = .returned v ∧ LL.length ≤ 3 ∧ (∀ l ∈ LL, layerOK l = true) ∧ Went w w' B g (m + 401) ∧ StkOwn w' w.heap.size w.heap.size v LL ∧ v ≠ .slice none 0 0 := by
  obtain ⟨s0, hs, hS0, hS1, hS2⟩ := info_parts ssInfo
  have hgl := h.lt
  have hb0 : Below w.heap.size w (w.alloc (.cells #[] 27)) := (Below.refl _ _).alloc (Nat.le_refl _) _
  have HO0 : Hid (StkOwn (w.alloc (.cells #[] 27)) w.heap.size w.heap.size (.slice (some ⟨w.heap.size, 0, none⟩) 0 0) []) := ⟨[], rfl, World.ownsRow_lit w #[] 0 (Nat.le_refl _) (Nat.zero_le _) rfl, fun i u l h => by simp at h, fun i k u u' c h => by simp at h⟩
  have HW0 := Lib.hid ((Went.refl h).below hb0)
  have HNX := next_small _ B g m 4 (h.below hb0) (by omega) (by omega)
  clear h
  go_enter Tryz.func82, Tryz.ntmps82
  go_wp2_with fail
  generalize w.alloc (.cells #[] 27) = W1 at *
  refine HNX.mono ?_
  rintro e w3 ⟨N, hN, rfl, hw3⟩
  have hN3 : N ≤ 3 := by omega
  have HI0 : Hid (Went w w3 B g (m + 1) ∧ StkOwn w3 w.heap.size w.heap.size (.slice (some ⟨w.heap.size, 0, none⟩) 0 0) []) := ⟨HW0.out.trans hw3, stk_went HO0.out hw3 hgl hgl⟩
  clear hN hw3 HO0 HW0
  go_wp2_with fail
  go_loopw [3, 4] (fun lv iv wr => ∃ (k : Nat) (LL : List (List R)), k ≤ N ∧ iv = .int .i64 k ∧ LL.length = N - k ∧ Hid ((∀ l ∈ LL, layerOK l = true) ∧ Went w wr B g (m + 1 + 100 * (N - k)) ∧ StkOwn wr w.heap.size w.heap.size lv LL ∧ lv ≠ .slice none 0 0)) (fun _ iv _ => (intOf iv).toNat)
  case atStart => exact ⟨N, [], Nat.le_refl _, rfl, by simp, by
    show (∀ l ∈ ([] : List (List R)), layerOK l = true) ∧ Went w w3 B g (m + 1 + 100 * (N - N)) ∧ _
    rw [Nat.sub_self]
    exact ⟨fun l hl => (by cases hl), HI0.out.1, HI0.out.2, fun e => by cases e⟩⟩
  case round =>
    obtain ⟨k, LL, hk, rfl, hln, HI⟩ := hrel
    obtain ⟨us, hn, ho, h1, h2⟩ := HI.out.2.2.1
    obtain ⟨fA, fcap, rfl⟩ := own_form ho
    have HLN := Lib.hid hln
    have hl3 : LL.length ≤ 3 := by omega
    clear hln
    by_cases h0 : 0 < k
    · have hd : decide ((0 : Int) < (k : Int)) = true := decide_eq_true (by omega)
      have HLY := layer_any wr B g _ HI.out.2.1.1 (by omega)
      have HUS := Lib.hid (show _ ∧ _ ∧ _ ∧ _ from ⟨hn, ho, h1, h2⟩)
      have hwz := HI.out.2.1.2.size
      clear hn ho h1 h2
      go_wp2_with fail
      refine HLY.mono ?_
      rintro e w4 ⟨x, l, rfl, hok, hw4, hrow, hx⟩
      obtain ⟨xA, xcap, rfl⟩ := hrow.form
      have eA : Below w4.heap.size w4 (w4.alloc (.cells #[.slice xA l.length xcap] 27)) := (Below.refl _ _).alloc (Nat.le_refl _) _
      have hoA := own_below (own_went HUS.out.2.1 hw4 hgl) eA
      have hz4 := hw4.2.size
      have hszA : w.heap.size ≤ (w4.alloc (.cells #[.slice xA l.length xcap] 27)).heap.size := by simp; omega
      have HFIN : Hid (∀ v' w9, w9.ownsRow w.heap.size 27 1 v' (LL.length + 1) (us ++ [.slice xA l.length xcap]) → (w4.alloc (.cells #[.slice xA l.length xcap] 27)).grownBy w9 (Value.slice fA LL.length fcap).ownBlock → StkOwn w9 w.heap.size w.heap.size v' (LL ++ [l])) := fun v' w9 hown hg => by
        refine stk_snoc HUS.out.1 hoA (fun i u q hi hl => (row_went (HUS.out.2.2.1 i u q hi hl) hw4 hgl).below eA) HUS.out.2.2.2 ⟨rfl, own_down (hrow.below eA).2 hwz⟩ (fun i u c hi hc e => ?_) hown hg
        have e1 := (hrow.2.lt c e).1
        have hil : i < LL.length := by have := (List.getElem?_eq_some_iff.1 hi).1; have := HUS.out.1; omega
        have e2 := ((HUS.out.2.2.1 i u _ hi (List.getElem?_eq_getElem hil)).2.lt c hc).2
        omega
      have HW4 : Hid (Went w w4 B g (m + 1 + 100 * (N - (k - 1)))) := (HI.out.2.1.trans hw4).more (by omega) (by omega)
      have HWA : Hid (Went w (w4.alloc (.cells #[.slice xA l.length xcap] 27)) B g (m + 1 + 100 * (N - (k - 1)))) := HW4.out.below eA
      have HOK := Lib.hid hok
      have hk1 : ((k - 1 : Nat) : Int) = (k : Int) - 1 := by omega
      have HGB : Hid (Value.ownBlock (.slice fA LL.length fcap) ≠ some g) := fun e => by have := (HUS.out.2.1.lt _ e).1; omega
      clear hok hrow hx hw4 eA
      go_wp2_with (first
        | (at_builtin; refine wpList_append_own _ rfl _ _ 43 rfl w.heap.size 27 s0 (.slice none 0 0) 1 24 Tryz.underlying43 hs hS0 hS1 hS2 rfl (by decide) _ _ _ rfl hoA ⟨w4.heap.size, 0, none⟩ 1 1 [.slice xA l.length xcap] rfl rfl (cell_one_new _ _ _) (fun x hx => by simp at hx; subst hx; rfl) (by unfold maxLen; omega) (by omega) hszA ?_; intro v' w9 hown' hgrow9 hnil9))
      exact ⟨⟨k - 1, LL ++ [l], by omega, by rw [hk1], by rw [List.length_append, List.length_singleton, HLN.out]; omega, by
        refine ⟨fun q hq => ?_, ?_, HFIN.out _ _ hown' hgrow9, fun e => by have := (hnil9.1 e).2; omega⟩
        · rcases List.mem_append.1 hq with hq | hq
          · exact HI.out.1 q hq
          · rw [List.mem_singleton.1 hq]; exact HOK.out
        · exact went_grown HWA.out hgrow9 (fun j hj => (HUS.out.2.1.lt j hj).1) hgl⟩, by simp [intOf]; omega⟩
    · have hd : decide ((0 : Int) < (k : Int)) = false := decide_eq_false (by omega)
      go_wp2_with fail
      go_ret
      exact ⟨_, LL, rfl, hl3, HI.out.1, HI.out.2.1.more (by omega) (by omega), HI.out.2.2.1, HI.out.2.2.2⟩

set_option maxHeartbeats 400000 in
theorem stackDrawn_any (w : World) (A : Option Addr) (n cap : Nat) (hB : Byts w w.heap.size A n) (hn : n ≤ cap) :
    Calls Tryz.prog 29 #[.slice A n cap] w fun e w' => ∃ v LL, e = .returned v ∧ LL.length ≤ 3 ∧ (∀ l ∈ LL, layerOK l = true) ∧ Below w.heap.size w w' ∧ StkOwn w' w.heap.size w.heap.size v LL ∧ v ≠ .slice none 0 0 := by
  have HB := Lib.hid hB
  clear hB
  go_enter Tryz.func29, Tryz.ntmps29
  go_wp2_with fail
  refine (source_any w A n cap HB.out hn).mono ?_
  rintro e w1 ⟨rfl, hs1, hb1⟩
  have HS1 := Lib.hid hs1
  clear hs1
  go_wp2_with fail
  refine (stack_any w1 w.heap.size w.heap.size 0 HS1.out (by omega)).mono ?_
  rintro e w2 ⟨v, LL, rfl, hl3, hok, hw2, hst, hv⟩
  have HL := Lib.hid hok
  have HB2 := Lib.hid (hb1.trans (hw2.belowB hb1.size))
  have HR : Hid (StkOwn w2 w.heap.size w.heap.size v LL) := by
    obtain ⟨us, a, b, c, d⟩ := hst
    have hz := hb1.size
    exact ⟨us, a, own_down b hz, fun i u l hi hl => ⟨(c i u l hi hl).1, own_down (c i u l hi hl).2 hz⟩, d⟩
  have HV := Lib.hid hv
  have H3 := Lib.hid hl3
  clear hok hw2 hst hv hl3
  go_wp2_with fail
  go_ret
  exact ⟨v, LL, rfl, H3.out, HL.out, HB2.out, HR.out, HV.out⟩
end Go.Proofs.YtibekkfbpmloiabGreatDoor.Draw
