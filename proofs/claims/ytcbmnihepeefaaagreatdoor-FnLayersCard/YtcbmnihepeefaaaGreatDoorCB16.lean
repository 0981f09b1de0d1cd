/- Parts of several texts of mine in one file (each begins with its own remark). -/
import Derived.Test.YtcbmnihepeefaaaGreatDoorCA1
import Derived.Test.YtcbmnihepeefaaaGreatDoorCA2
import Derived.Test.YtcbmnihepeefaaaGreatDoorCA3
import Derived.Test.YtcbmnihepeefaaaGreatDoorCA4
import Derived.Test.YtcbmnihepeefaaaGreatDoorCA5
import Derived.Test.YtcbmnihepeefaaaGreatDoorCA6
import Derived.Test.YtcbmnihepeefaaaGreatDoorCA7
import Derived.Test.YtcbmnihepeefaaaGreatDoorCA8
import Derived.Test.YtcbmnihepeefaaaGreatDoorCB1
import Derived.Test.YtcbmnihepeefaaaGreatDoorCB13
import Derived.Test.YtcbmnihepeefaaaGreatDoorCB15
import Derived.Test.YtcbmnihepeefaaaGreatDoorCB6
import Derived.Test.YtcbmnihepeefaaaGreatDoorChecked
import Derived.Test.YtcbmnihepeefaaaGreatDoorShelf
import Derived.Test.YtcbmnihepeefaaaGreatDoorProg
import Derived.Test.YtcbmnihepeefaaaGreatDoorRows
import Derived.Deep.RegionWith
import Derived.Laws.AppendOwnNone
import Derived.WalkKit
import Derived.WalkSpells
import Derived.WalkSmall
import Derived.WalkLawsBesides
import Derived.Lib.Hide
import Derived.BigQuiet
import Derived.BigRegion
import Derived.RegionTactic
import Derived.StillTailTactics
import Derived.Deep.QuietTactic
import Derived.Deep.RegionHeld3
import Derived.Deep.Draws
import Derived.Deep.LoopGhost
import Derived.Lib.OthersKept
import Derived.Lib.Strings
import Derived.Lib.Join
import Derived.Laws.BytesArg
import Derived.Deep.Slices
import Derived.OpenShut
import Derived.ShutString
import Derived.ChangeArms
import Derived.WideShapes
import Derived.Lib.LaidTab
import Derived.Laws.OwnMore
import Derived.Stop.LaidErr
import Derived.LaidEql
import Derived.Stop.Asserts
import Derived.Below
import Derived.Stop.LaidTwo
import Derived.OneCell
import Derived.Lib.SliceRun
import Derived.Lib.Overlaps
import Derived.Lib.AppendZerosOnto
import Derived.Laws.NewBlocks
import Derived.Laws.IdiomCopy
import Derived.Deep.RegionLaw
import Derived.ChangeVars
import Derived.Deep.DeepHandedRow
import Derived.Deep.AppendLies
import Derived.Laws.EntriesVeiled
import Derived.Laws.IdiomRangeMap
import Derived.Maps.RangeWalk
import Derived.Maps.Ext
import Derived.Lib.SlMapFilter
/- The model's source of choices: drawn records are valid. -/
namespace Go.Proofs.YtcbmnihepeefaaaGreatDoor.Draw
open Go.RowKit
open Paths Recs

theorem Went.setNew {w w' : World} {B g m : Nat} (h : Went w w' B g m) {b j : Nat} (hb : w.heap.size ≤ b) (hg : g < w.heap.size) (v : Value) : Went w (w'.setCell ⟨b, j, none⟩ v) B g m := by
  obtain ⟨⟨h1, h2, A, n, cap, k, s, hY, c1, c2, c3, hg'⟩, gr⟩ := h
  have hoth : ∀ k, k < w.heap.size → (w'.setCell ⟨b, j, none⟩ v).heap[k]? = w'.heap[k]? := fun k hk => heap_setCell_other w' ⟨b, j, none⟩ k v (by show k ≠ b; omega)
  refine ⟨⟨h1, h2, A, n, cap, k, s, ?_, c1, c2, c3, by rw [hoth g hg]; exact hg'⟩, ⟨gr.os, gr.tape, gr.output, by simpa using gr.size, fun k hk hne => (hoth k hk).trans (gr.block k hk hne)⟩⟩
  refine ⟨hY.1, fun hn => ?_⟩
  obtain ⟨b', off, e, hlt, hc⟩ := hY.2 hn
  refine ⟨b', off, e, hlt, fun k hk => ?_⟩
  obtain ⟨x, hx, hcell⟩ := hc k hk
  exact ⟨x, hx, (World.cell?_of_block (hoth b' (by omega))).trans hcell⟩

def bodies : List (List UInt8) := [[], [111, 110, 101], [116, 119, 111], [120, 0, 121], [108, 111, 110, 103, 32, 108, 111, 110, 103, 32, 98, 111, 100, 121, 32, 104, 101, 114, 101, 33]]
theorem body_len {p : List UInt8} (h : p ∈ bodies) : p.length ≤ 20 := by
  have : bodies.all (fun p => decide (p.length ≤ 20)) = true := by decide
  simpa using List.all_eq_true.1 this p h
def targets : List (List UInt8) := [[97], [46, 46, 47, 98], [47]]
theorem target_len {p : List UInt8} (h : p ∈ targets) : 1 ≤ p.length ∧ p.length ≤ 20 := by
  have : targets.all (fun p => decide (1 ≤ p.length ∧ p.length ≤ 20)) = true := by decide
  simpa using List.all_eq_true.1 this p h

theorem body_any (w : World) (B g m : Nat) (h : Src w B g m) (hm : m + 1 ≤ 1000000) :
    Calls Tryz.prog 164 #[.pointer (some ⟨g, 0, none⟩)] w fun e w' => ∃ p : List UInt8, p.length ≤ 20 ∧ e = .returned (.string ⟨p.toArray⟩) ∧ Went w w' B g (m + 1) := by
  have H := Lib.hid h
  have hlt := h.lt
  clear h
  go_enter Tryz.func164, Tryz.ntmps164
  go_wp2_with fail
  have hb1 := (Below.refl w.heap.size w).alloc (Nat.le_refl _) (.cells (bodies.map strV).toArray 9)
  refine (pick_any _ B g m w.heap.size 5 bodies (H.out.below hb1) hm (by decide) (by decide) (Lits.new w bodies) (by omega)).mono ?_
  rintro e w1 ⟨p, hp, rfl, hw⟩
  have hpb := body_len hp
  have hw2 : Went w w1 B g (m + 1) := ((Went.refl H.out).below hb1).trans hw
  rw [strV_eq2]
  go_wp2_with fail
  go_ret
  exact ⟨p, hpb, rfl, hw2⟩

theorem chance_any (w : World) (B g m : Nat) (n : Int) (h : Src w B g m) (hm : m + 1 ≤ 1000000) (hn : n ≤ 256) (hn1 : 1 ≤ n) :
    Calls Tryz.prog 166 #[.pointer (some ⟨g, 0, none⟩), .int .i64 n] w fun e w' => ∃ o : Bool, e = .returned (.bool o) ∧ Went w w' B g (m + 1) := by
  have H := Lib.hid h
  clear h
  go_enter Tryz.func166, Tryz.ntmps166
  go_wp2_with fail
  refine (next_small w B g m _ H.out hm hn).mono ?_
  rintro e w1 ⟨r, hr, rfl, hw⟩
  go_wp2_with fail
  all_goals
    go_ret
    exact ⟨_, rfl, hw⟩

theorem Went.cell {a b : World} {B g m : Nat} (h : Went a b B g m) {k o : Nat} (hk : k < a.heap.size) (hne : k ≠ g) : b.cell? ⟨k, o, none⟩ = a.cell? ⟨k, o, none⟩ :=
  World.cell?_of_block (h.2.block k hk (fun e => hne (Option.some.inj e)))
theorem Went.frozen {a b : World} {B g m : Nat} (h : Went a b B g m) {k o : Nat} (hk : k < a.heap.size) (hne : k ≠ g) : b.frozen? ⟨k, o, none⟩ = a.frozen? ⟨k, o, none⟩ :=
  World.frozen?_of_block (h.2.block k hk (fun e => hne (Option.some.inj e)))

/-- What a drawn record is: valid, with the path that was given. -/
def GoodRec (p : ByteArray) (w : World) (B g m : Nat) (e : Ending) (w' : World) : Prop :=
  ∃ (k mm : Int) (b : ByteArray) (o : Bool), faultI k p.data.toList b.size mm o = 0 ∧ b.size ≤ 20 ∧ e = .returned (.agg #[.int .i64 k, .string p, .string b, .int .i64 mm, .bool o]) ∧ Went w w' B g m

theorem good_file {p : List UInt8} (h : pathB p = true) {z : Nat} (hz : z ≤ 20) {mm : Int} (hm : 0 ≤ mm ∧ mm ≤ 511) : faultI 1 p z mm false = 0 := by
  unfold faultI
  rw [if_neg (by omega), if_neg (by rw [h]; decide), if_neg (by omega), if_neg (by simp), if_neg (by omega)]
theorem good_link {p : List UInt8} (h : pathB p = true) {z : Nat} (hz : 1 ≤ z ∧ z ≤ 20) : faultI 2 p z 0 false = 0 := by
  unfold faultI
  rw [if_neg (by omega), if_neg (by rw [h]; decide), if_neg (by omega), if_neg (by simp), if_neg (by omega)]
theorem good_white {p : List UInt8} (h : pathB p = true) : faultI 4 p 0 0 false = 0 := by
  unfold faultI
  rw [if_neg (by omega), if_neg (by rw [h]; decide), if_neg (by omega), if_neg (by simp), if_neg (by omega)]
theorem good_dir {p : List UInt8} (h : pathB p = true) {mm : Int} (hm : 0 ≤ mm ∧ mm ≤ 511) (o : Bool) : faultI 3 p 0 mm o = 0 := by
  unfold faultI
  rw [if_neg (by omega), if_neg (by rw [h]; decide), if_neg (by omega), if_neg (by simp), if_neg (by omega)]

def mode3 (r : Nat) : Int := if r = 0 then 420 else if r = 1 then 0 else 511
theorem mode3_at {r : Nat} (h : r < 3) : (#[.int .i64 420, .int .i64 0, .int .i64 511] : Array Value)[r]? = some (.int .i64 (mode3 r)) := by
  have e : r = 0 ∨ r = 1 ∨ r = 2 := by omega
  rcases e with rfl | rfl | rfl <;> rfl
theorem mode3_in (r : Nat) : 0 ≤ mode3 r ∧ mode3 r ≤ 511 := by unfold mode3; split <;> (try split) <;> omega
def mode2 (r : Nat) : Int := if r = 0 then 493 else 448
theorem mode2_at {r : Nat} (h : r < 2) : (#[.int .i64 493, .int .i64 448] : Array Value)[r]? = some (.int .i64 (mode2 r)) := by
  have e : r = 0 ∨ r = 1 := by omega
  rcases e with rfl | rfl <;> rfl
theorem mode2_in (r : Nat) : 0 ≤ mode2 r ∧ mode2 r ≤ 511 := by unfold mode2; split <;> omega

/-- As next and chance, at a world behind another one, with what they leave alone. -/
theorem next_at (w W : World) (B g m : Nat) (n : Int) (h : Src w B g m) (hm : m + 1 ≤ 1000000) (hn : 1 ≤ n ∧ n ≤ 256) (hb : Below w.heap.size w W) :
    Calls Tryz.prog 160 #[.pointer (some ⟨g, 0, none⟩), .int .i64 n] W fun e w' => ∃ r : Nat, (r : Int) < n ∧ e = .returned (.int .i64 r) ∧ W.heap.size ≤ w'.heap.size ∧ Went w w' B g (m + 1) ∧
      (∀ k o, k < W.heap.size → k ≠ g → w'.cell? ⟨k, o, none⟩ = W.cell? ⟨k, o, none⟩) ∧ (∀ k o, k < W.heap.size → k ≠ g → w'.frozen? ⟨k, o, none⟩ = W.frozen? ⟨k, o, none⟩) := by
  refine (next_small W B g m n (h.below hb) hm hn.2).mono ?_
  rintro e w' ⟨r, hr, rfl, hw⟩
  exact ⟨r, by omega, rfl, hw.2.size, ((Went.refl h).below hb).trans hw, fun k o hk hne => hw.cell hk hne, fun k o hk hne => hw.frozen hk hne⟩
theorem chance_at (w W : World) (B g m : Nat) (n : Int) (h : Src w B g m) (hm : m + 1 ≤ 1000000) (hn : 1 ≤ n ∧ n ≤ 256) (hb : Below w.heap.size w W) :
    Calls Tryz.prog 166 #[.pointer (some ⟨g, 0, none⟩), .int .i64 n] W fun e w' => ∃ o : Bool, e = .returned (.bool o) ∧ W.heap.size ≤ w'.heap.size ∧ Went w w' B g (m + 1) ∧
      (∀ k o, k < W.heap.size → k ≠ g → w'.cell? ⟨k, o, none⟩ = W.cell? ⟨k, o, none⟩) ∧ (∀ k o, k < W.heap.size → k ≠ g → w'.frozen? ⟨k, o, none⟩ = W.frozen? ⟨k, o, none⟩) := by
  refine (chance_any W B g m n (h.below hb) hm hn.2 hn.1).mono ?_
  rintro e w' ⟨o, rfl, hw⟩
  exact ⟨o, rfl, hw.2.size, ((Went.refl h).below hb).trans hw, fun k o hk hne => hw.cell hk hne, fun k o hk hne => hw.frozen hk hne⟩

set_option maxHeartbeats 2000000 in
theorem record_any (w : World) (B g m : Nat) (p : ByteArray) (hp : pathB p.data.toList = true) (h : Src w B g m) (hm : m + 3 ≤ 1000000) :
    Calls Tryz.prog 86 #[.pointer (some ⟨g, 0, none⟩), .string p] w (GoodRec p w B g (m + 3)) := by
  have H := Lib.hid h
  have hglt := h.lt
  have HP := Lib.hid hp
  clear h hp
  go_enter Tryz.func86, Tryz.ntmps86
  go_wp2_with fail
  have hb0 := (Below.refl w.heap.size w).alloc (Nat.le_refl _) (.cells #[.int .i64 0, .string ⟨#[]⟩, .string ⟨#[]⟩, .int .i64 0, .bool false] 26)
  have HW0 := Lib.hid ((Went.refl H.out).below hb0)
  refine (next_small _ B g m _ HW0.out.1 (by omega) (by omega)).mono ?_
  rintro e w1 ⟨r, hr, rfl, hw1⟩
  have hr8 : r < 8 := by omega
  have HW1 := Lib.hid (HW0.out.trans hw1)
  have hc1 := fun o => hw1.cell (k := w.heap.size) (o := o) (by simp) (by omega)
  have hf1 := fun o => hw1.frozen (k := w.heap.size) (o := o) (by simp) (by omega)
  have hz1 : w.heap.size < w1.heap.size := by have := hw1.2.size; simp at this; omega
  clear hw1 hr hb0
  by_cases h45 : r = 4 ∨ r = 5
  · rcases h45 with rfl | rfl
    all_goals
      go_wp2_with fail
      refine bodyPost_ret (v := .agg #[.int .i64 4, .string p, .string ⟨#[]⟩, .int .i64 0, .bool false]) (by simp [results, Tryz.results86, go_sem, hc1]) rfl ?_
      refine ⟨4, 0, ⟨#[]⟩, false, good_white HP.out, by decide, rfl, ?_⟩
      repeat (refine Went.setNew ?_ (Nat.le_refl _) hglt _)
      exact HW1.out.more (by omega) (by omega)
  by_cases h3 : r = 3
  · subst h3
    go_wp2_with fail
    have hb1 := (Below.refl w1.heap.size w1).alloc (Nat.le_refl _) (.cells (targets.map strV).toArray 9)
    refine (pick_any _ B g (m + 1) w1.heap.size 3 targets (HW1.out.1.below hb1) (by omega) (by decide) (by decide) (Lits.new w1 targets) (by omega)).mono ?_
    rintro e w2 ⟨q, hq, rfl, hw2⟩
    have hql := target_len hq
    have HW2 := Lib.hid ((HW1.out.below hb1).trans hw2)
    have hc2 := fun o => (hw2.cell (k := w.heap.size) (o := o) (by simp; omega) (by omega)).trans ((hb1.cell (p := ⟨w.heap.size, o, none⟩) (by simpa using hz1)).trans (hc1 o))
    have hf2 := fun o => (hw2.frozen (k := w.heap.size) (o := o) (by simp; omega) (by omega)).trans ((hb1.frozen (p := ⟨w.heap.size, o, none⟩) (by simpa using hz1)).trans (hf1 o))
    have hz2 : w.heap.size < w2.heap.size := by have := hw2.2.size; simp at this; omega
    clear hw2 hb1 hq hc1 hf1
    rw [strV_eq2]
    go_wp2_with fail
    refine bodyPost_ret (v := .agg #[.int .i64 2, .string p, .string ⟨q.toArray⟩, .int .i64 0, .bool false]) (by simp [results, Tryz.results86, go_sem, hc2]) rfl ?_
    refine ⟨2, 0, ⟨q.toArray⟩, false, good_link HP.out hql, hql.2, rfl, ?_⟩
    repeat (refine Went.setNew ?_ (Nat.le_refl _) hglt _)
    exact HW2.out.more (by omega) (by omega)
  by_cases h012 : r < 3
  · have e012 : r = 0 ∨ r = 1 ∨ r = 2 := by omega
    clear h45 h3 h012
    rcases e012 with rfl | rfl | rfl
    all_goals
      go_wp2_with fail
      refine (body_any w1 B g (m + 1) HW1.out.1 (by omega)).mono ?_
      rintro e w2 ⟨q, hql, rfl, hw2⟩
      have hc2 := fun o => (hw2.cell (k := w.heap.size) (o := o) hz1 (by omega)).trans (hc1 o)
      have hf2 := fun o => (hw2.frozen (k := w.heap.size) (o := o) hz1 (by omega)).trans (hf1 o)
      have hz2 : w.heap.size < w2.heap.size := by have := hw2.2.size; omega
      have HW2 := Lib.hid (HW1.out.trans hw2)
      have hg2 := hw2.1.lt
      clear hw2 hc1 hf1
      go_wp2_with fail
      have hb2 := (Below.refl w2.heap.size w2).alloc (Nat.le_refl _) (.cells #[.int .i64 420, .int .i64 0, .int .i64 511] 3)
      refine (next_small _ B g (m + 1 + 1) _ (HW2.out.1.below hb2) (by omega) (by omega)).mono ?_
      rintro e w3 ⟨r3, hr3, rfl, hw3⟩
      have hr33 : r3 < 3 := by omega
      have hi0 : (0 : Int) ≤ (r3 : Int) := by omega
      have hi1 : (r3 : Int) < 3 := by omega
      have hcell : w3.cell? ⟨w2.heap.size, r3, none⟩ = some (.int .i64 (mode3 r3)) := (hw3.cell (by simp) (by omega)).trans (by rw [cell_of_row _ _ r3 _ _ _ (heap_alloc_new w2 _)]; exact mode3_at hr33)
      have hc3 := fun o => (hw3.cell (k := w.heap.size) (o := o) (by simp; omega) (by omega)).trans ((hb2.cell (p := ⟨w.heap.size, o, none⟩) (by simpa using hz2)).trans (hc2 o))
      have hf3 := fun o => (hw3.frozen (k := w.heap.size) (o := o) (by simp; omega) (by omega)).trans ((hb2.frozen (p := ⟨w.heap.size, o, none⟩) (by simpa using hz2)).trans (hf2 o))
      have hz3 : w.heap.size < w3.heap.size := by have := hw3.2.size; simp at this; omega
      have HW3 := Lib.hid ((HW2.out.below hb2).trans hw3)
      have hm3 := mode3_in r3
      clear hw3 hb2 hc2 hf2 hr3
      go_wp2_with fail
      refine bodyPost_ret (v := .agg #[.int .i64 1, .string p, .string ⟨q.toArray⟩, .int .i64 (mode3 r3), .bool false]) (by simp [results, Tryz.results86, go_sem, hc3]) rfl ?_
      refine ⟨1, mode3 r3, ⟨q.toArray⟩, false, good_file HP.out hql hm3, hql, rfl, ?_⟩
      repeat (refine Went.setNew ?_ (Nat.le_refl _) hglt _)
      exact HW3.out.more (by omega) (by omega)
  have e0 : ((r : Int) == 0) = false := beq_eq_false_iff_ne.2 (by omega)
  have e1 : ((r : Int) == 1) = false := beq_eq_false_iff_ne.2 (by omega)
  have e2 : ((r : Int) == 2) = false := beq_eq_false_iff_ne.2 (by omega)
  have e3 : ((r : Int) == 3) = false := beq_eq_false_iff_ne.2 (by omega)
  have e4 : ((r : Int) == 4) = false := beq_eq_false_iff_ne.2 (by omega)
  have e5 : ((r : Int) == 5) = false := beq_eq_false_iff_ne.2 (by omega)
  clear h45 h3 h012
  go_wp2_with fail
  have hne0 : ¬ w.heap.size = g := by omega
  have hne1 : ¬ w1.heap.size = g := by omega
  go_region_with (first
    | (go_at_call 160; refine (next_at w1 _ B g (m + 1) _ HW1.out.1 (by omega) (by omega) ?_).mono ?_; (first | exact (Below.refl _ _).drew | exact ((Below.refl _ _).alloc (Nat.le_refl _) _).drew); rintro e w2 ⟨r2, hr2, rfl, hz2, hw2, hq2, hf2⟩; have ha2 := mode2_at (r := r2) (by omega); have hs2 : w.heap.size < w2.heap.size := Nat.lt_of_lt_of_le hz1 hw2.2.size; have hg2 := hw2.1.lt; have hne2 : ¬ w2.heap.size = g := (by omega); have hrc2 := fun o => (hw2.cell (o := o) hz1 hne0).trans (hc1 o); have hrf2 := fun o => (hw2.frozen (o := o) hz1 hne0).trans (hf1 o); (try (have hl2 : w1.heap.size < w2.heap.size := by simp at hz2; omega)); have HW2 := Lib.hid hw2; clear hw2)
    | (go_at_call 166; refine (chance_at w2 _ B g (m + 1 + 1) _ HW2.out.1 (by omega) (by omega) ?_).mono ?_; (first | exact (Below.refl _ _) | exact ((Below.refl _ _).alloc (Nat.le_refl _) _)); rintro e w3 ⟨o3, rfl, hz3, hw3, hq3, hf3⟩; have hs3 : w.heap.size < w3.heap.size := Nat.lt_of_lt_of_le hs2 hw3.2.size; have hrc3 := fun o => (hw3.cell (o := o) hs2 hne0).trans (hrc2 o); have hrf3 := fun o => (hw3.frozen (o := o) hs2 hne0).trans (hrf2 o); have HW3 := Lib.hid hw3; clear hw3))
  all_goals
    go_wp2
    refine bodyPost_ret (v := .agg #[.int .i64 3, .string p, .string ⟨#[]⟩, .int .i64 (mode2 r2), .bool o3]) (by first | (simp [results, Tryz.results86, go_sem, hrc3]; done) | (simp [results, Tryz.results86, go_sem, hrc3, hs3]; done)) rfl ?_
    refine ⟨3, mode2 r2, ⟨#[]⟩, o3, good_dir HP.out (mode2_in r2) o3, by decide, rfl, ?_⟩
    repeat (first | with_reducible refine Went.setNew ?_ (Nat.le_refl _) hglt _ | with_reducible refine Went.below ?_ ((Below.refl _ _).alloc (Nat.le_refl _) _))
    with_reducible exact ((HW1.out.trans HW2.out).trans HW3.out).more (by omega) (by omega)
end Go.Proofs.YtcbmnihepeefaaaGreatDoor.Draw

/- The model's draws: how large a drawn thing may be. -/
namespace Go.Proofs.YtcbmnihepeefaaaGreatDoor.Draw
set_option maxRecDepth 100000
open Go.RowKit
open Paths Recs

theorem Src.code {w : World} {B g m : Nat} (h : Src w B g m) : ∃ (A : Option Addr) (n cap : Nat), n ≤ 1048577 ∧ w.cell? ⟨g, 0, none⟩ = some (.slice A n cap) := by
  obtain ⟨_, _, A, n, cap, k, s, hB, _, _, _, hg⟩ := h
  exact ⟨A, n, cap, hB.1, by simp [World.cell?, hg]⟩
theorem room_any (w : World) (B g m mo : Nat) (h : Src w B g m) (hm : 1 ≤ mo ∧ mo ≤ 200) :
    Calls Tryz.prog 161 #[.pointer (some ⟨g, 0, none⟩), .int .i64 mo] w fun e w' => ∃ r : Nat, 1 ≤ r ∧ r ≤ mo ∧ e = .returned (.int .i64 r) ∧ w = w' := by
  obtain ⟨A, n, cap, hn, hc⟩ := h.code
  clear h
  go_enter Tryz.func161, Tryz.ntmps161
  go_wp2
  all_goals (
    go_ret
    exact ⟨min (1 + n / 12) mo, by omega, by omega, congrArg (fun z => Ending.returned (Value.int .i64 z)) (by omega), rfl⟩)
end Go.Proofs.YtcbmnihepeefaaaGreatDoor.Draw

/- What the draws put into a list stays within what is asked of each record; a list without whiteouts is a tree. -/
namespace Go.Proofs.YtcbmnihepeefaaaGreatDoor.Recs
open Go.RowKit Paths

theorem lput_all {P : R → Prop} (hd : ∀ q, P (dirR q)) : ∀ (n : Nat) {l : List R} {r : R}, Lays l → r.fault = 0 → (cutAt 47 r.p.data.toList).length ≤ n → (∀ x ∈ l, P x) → P r → ∀ x ∈ lputF n l r, P x := by
  intro n
  induction n with
  | zero =>
    intro l r _ _ hn
    have := cutAt_pos 47 r.p.data.toList
    omega
  | succ n ih =>
    intro l r hl hr hn hall hP x hx
    have hp := (fault_path hr).1
    by_cases hh : homed l r.p = true
    · rw [lputF, if_pos hh] at hx
      rcases (mem_base hl.sorted).1 hx with rfl | ⟨h1, _⟩
      · exact hP
      · exact hall x h1
    · have hpar : parentL r.p.data.toList ≠ [] := fun e => hh (by unfold homed; rw [decide_eq_true e]; rfl)
      obtain ⟨h1, h2⟩ := parts_parent hp hpar
      have hlen : (cutAt 47 (dirR (parO r.p)).p.data.toList).length ≤ n := show (cutAt 47 (parO r.p).data.toList).length ≤ n by omega
      have h3 := (lput_lays n hl (dir_fault h1) hlen).1
      rw [lputF, if_neg hh] at hx
      rcases (mem_base h3.sorted).1 hx with rfl | ⟨h4, _⟩
      · exact hP
      · exact ih hl (dir_fault h1) hlen hall (hd _) x h4
theorem lays_tree {l : List R} (h : Lays l) (hk : ∀ r ∈ l, r.k ≠ 4) (hl : l.length ≤ 24) : Tree l := ⟨hl, hk, h.fault, h.sorted, h.housed⟩
end Go.Proofs.YtcbmnihepeefaaaGreatDoor.Recs

/- The model's draws: a layer drawn is one. -/
namespace Go.Proofs.YtcbmnihepeefaaaGreatDoor.Draw
set_option maxRecDepth 100000
open Go.RowKit
open Paths Recs

theorem row_went {a b : World} {B g m base : Nat} {v : Value} {n : Nat} {M : List R} (h : RowOf a base v n M) (hw : Went a b B g m) (hg : g < base) : RowOf b base v n M :=
  ⟨h.1, h.2.kept hw.2 (by
    cases hv : v.ownBlock with
    | none => exact .inl rfl
    | some k => exact .inr fun e => by cases e; have := (h.2.lt _ hv).1; omega)⟩
theorem fault_i {k mm : Int} {p b : ByteArray} {o : Bool} (h : faultI k p.data.toList b.size mm o = 0) : R.fault ⟨k, mm, p, b, o⟩ = 0 := h

end Go.Proofs.YtcbmnihepeefaaaGreatDoor.Draw

/- Trees and applying, plain: a node added and taken out again; what a layer makes of nothing; what a tree shows of a layer and of the tree before. -/
namespace Go.Proofs.YtcbmnihepeefaaaGreatDoor.Recs
open Go.RowKit Paths

section
variable {l t : List R}
theorem nodeOf_fault {r : R} (h : r.fault = 0) : (nodeOf r).fault = 0 := by
  have key : ∀ (k : Int) (p : List UInt8) (z : Nat) (m : Int) (o : Bool), faultI k p z m o = 0 → faultI k p z m false = 0 := by
    intro k p z m o h
    cases o with
    | false => exact h
    | true =>
      unfold faultI at h ⊢
      split at h
      · omega
      · split at h
        · omega
        · split at h
          · omega
          · split at h
            · omega
            · rename_i h1 h2 h3 h4
              have h6 := (not_or.1 h4).1
              rw [if_neg h1, if_neg h2, if_neg h3, if_neg (by rintro (h7 | h7); exact h6 h7; exact absurd h7.1 (by decide))]
              exact h
  exact key _ _ _ _ _ h
end
end Go.Proofs.YtcbmnihepeefaaaGreatDoor.Recs
