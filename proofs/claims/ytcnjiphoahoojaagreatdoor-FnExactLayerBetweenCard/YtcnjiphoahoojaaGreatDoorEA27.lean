/- Parts of several texts of mine in one file (each begins with its own remark). -/
import Derived.Test.YtcnjiphoahoojaaGreatDoorEA10
import Derived.Test.YtcnjiphoahoojaaGreatDoorEA12
import Derived.Test.YtcnjiphoahoojaaGreatDoorEA14
import Derived.Test.YtcnjiphoahoojaaGreatDoorEA15
import Derived.Test.YtcnjiphoahoojaaGreatDoorEA17
import Derived.Test.YtcnjiphoahoojaaGreatDoorEA19
import Derived.Test.YtcnjiphoahoojaaGreatDoorEA2
import Derived.Test.YtcnjiphoahoojaaGreatDoorEA20
import Derived.Test.YtcnjiphoahoojaaGreatDoorEA21
import Derived.Test.YtcnjiphoahoojaaGreatDoorEA22
import Derived.Test.YtcnjiphoahoojaaGreatDoorEA23
import Derived.Test.YtcnjiphoahoojaaGreatDoorEA24
import Derived.Test.YtcnjiphoahoojaaGreatDoorEA25
import Derived.Test.YtcnjiphoahoojaaGreatDoorEA26
import Derived.Test.YtcnjiphoahoojaaGreatDoorEA3
import Derived.Test.YtcnjiphoahoojaaGreatDoorEA4
import Derived.Test.YtcnjiphoahoojaaGreatDoorEA5
import Derived.Test.YtcnjiphoahoojaaGreatDoorEA6
import Derived.Test.YtcnjiphoahoojaaGreatDoorEA7
import Derived.Test.YtcnjiphoahoojaaGreatDoorEA8
import Derived.Test.YtcnjiphoahoojaaGreatDoorEA9
import Derived.Test.YtcnjiphoahoojaaGreatDoorChecked
import Derived.Test.YtcnjiphoahoojaaGreatDoorShelf
import Derived.Test.YtcnjiphoahoojaaGreatDoorProg
import Derived.Test.YtcnjiphoahoojaaGreatDoorRows
import Derived.Maps.OwnIn
import Derived.Deep.Slices
import Derived.OpenShut
import Derived.ShutString
import Derived.ChangeArms
import Derived.WideShapes
import Derived.Lib.LaidTab
import Derived.BigQuiet
import Derived.Deep.QuietTactic
import Derived.Deep.RegionHeld3
import Derived.StillTailTactics
import Derived.Deep.Draws
import Derived.Deep.LoopGhost
import Derived.WalkKit
import Derived.WalkSpells
import Derived.WalkSmall
import Derived.Lib.OthersKept
import Derived.Lib.Hide
import Derived.Lib.Strings
import Derived.Lib.Join
import Derived.WalkLawsBesides
import Derived.Laws.BytesArg
import Derived.Laws.OwnMore
import Derived.BigRegion
import Derived.Stop.LaidErr
import Derived.LaidEql
import Derived.Stop.Asserts
import Derived.Below
import Derived.Stop.LaidTwo
import Derived.Deep.RegionWith
import Derived.Laws.AppendOwnNone
import Derived.RegionTactic
import Derived.RangeFuncNested
import Derived.RangeFuncBound
import Derived.RangeFuncCalls
import Derived.RangeFuncLeaves
import Derived.RangeFuncBox
import Derived.Shelf.Abstract
import Derived.Shelf.RegionOpen
import Derived.OwnWalkIn
import Derived.TacticsInMore
import Derived.LoopNIn
import Derived.LoopIn
import Derived.ChangeVars
import Derived.Deep.DeepHandedRow
import Derived.OneCell
import Derived.Lib.SliceRun
import Derived.Lib.Overlaps
import Derived.Lib.AppendZerosOnto
import Derived.Laws.NewBlocks
import Derived.Laws.IdiomCopy
import Derived.Deep.RegionLaw
import Derived.Laws.IdiomRangeMap
import Derived.Maps.RangeWalk
import Derived.Maps.Ext
import Derived.Lib.SlMapFilter
import Derived.Deep.AppendLies
import Derived.Laws.EntriesVeiled
/- LayerBetween, of the model. -/
namespace Go.Proofs.YtcnjiphoahoojaaGreatDoor.Recs
set_option maxRecDepth 100000
open Go.RowKit Paths

set_option maxHeartbeats 1600000 in
theorem LayerBetween_spec (v1 v2 : Value) (A B : List R) (w : World) (h1 : NodSl w v1 A) (h2 : NodSl w v2 B) (hl1 : A.length ≤ 1048576) (hl2 : B.length ≤ 1048576) :
    Calls Tryz.prog 21 #[v1, v2] w fun e w' => ∃ z, e = .returned (.tuple #[z, .int .i64 (lbC A B)]) ∧ Below w.heap.size w w' ∧ RowOf w' w.heap.size z (lbR A B).length (lbR A B) := by
  have HAK := l08Ask_any v1 v2 A B w h1 h2 hl1 hl2
  have HBT : Hid (codeNN A B = 0 → ∀ w1, Below w.heap.size w w1 → Calls Tryz.prog 40 #[v1, v2] w1 fun e w' => ∃ x, e = .returned x ∧ Below w1.heap.size w1 w' ∧ RowOf w' w1.heap.size x (betP A B).length (betP A B)) := fun h0 w1 hb => l08Between_any v1 v2 A B w1 (h1.below hb) (h2.below hb) (tree_of (nn_ok h0).1) (tree_of (nn_ok h0).2)
  have E0 : Hid (∀ W, Below w.heap.size w W → (W.alloc (.cells #[] 60)).ownsRow w.heap.size 60 5 (.slice (some ⟨W.heap.size, 0, none⟩) 0 0) 0 []) := fun W hW => World.ownsRow_lit W #[] 0 hW.size (Nat.zero_le _) rfl
  obtain ⟨a1, cap1, rfl⟩ := nodSl_form h1
  obtain ⟨a2, cap2, rfl⟩ := nodSl_form h2
  clear h1 h2
  by_cases k1 : 4096 < A.length
  · have hd : decide ((4096 : Int) < (A.length : Int)) = true := decide_eq_true (by omega)
    have HQ := Lib.hid (lb_bad (nn_long (A := A) (B := B) (.inl k1)) (by decide))
    clear k1 HAK
    go_enter Tryz.func21, Tryz.ntmps21
    go_wp2_with fail
    go_ret2
    exact ⟨_, by rw [HQ.out.1]; rfl, (Below.refl _ _).alloc (Nat.le_refl _) _, by rw [HQ.out.2]; exact ⟨rfl, E0.out _ (Below.refl _ _)⟩⟩
  have hd1 : decide ((4096 : Int) < (A.length : Int)) = false := decide_eq_false (by omega)
  by_cases k2 : 4096 < B.length
  · have hd : decide ((4096 : Int) < (B.length : Int)) = true := decide_eq_true (by omega)
    have HQ := Lib.hid (lb_bad (nn_long (A := A) (B := B) (.inr k2)) (by decide))
    clear k1 k2 HAK
    go_enter Tryz.func21, Tryz.ntmps21
    go_wp2_with fail
    go_ret2
    exact ⟨_, by rw [HQ.out.1]; rfl, (Below.refl _ _).alloc (Nat.le_refl _) _, by rw [HQ.out.2]; exact ⟨rfl, E0.out _ (Below.refl _ _)⟩⟩
  have hd2 : decide ((4096 : Int) < (B.length : Int)) = false := decide_eq_false (by omega)
  by_cases h0 : codeNN A B = 0
  · have H0 := Lib.hid h0
    rw [h0] at HAK
    clear h0 k1 k2
    go_enter Tryz.func21, Tryz.ntmps21
    go_wp2_with fail
    refine HAK.mono ?_
    rintro e w1 ⟨rfl, c0⟩
    go_wp2_with fail
    refine (HBT.out H0.out _ c0).mono ?_
    rintro e w4 ⟨z, rfl, hb4, hz⟩
    have c4 := c0.trans (hb4.mono c0.size)
    obtain ⟨zA, zcap, rfl⟩ := hz.form
    have HZ := Lib.hid hz
    clear hz
    by_cases h16 : 16 < (betP A B).length
    · have HQ := Lib.hid (lb_many H0.out h16)
      have hd : decide ((16 : Int) < ((betP A B).length : Int)) = true := decide_eq_true (by omega)
      clear h16
      go_wp2_with fail
      go_ret2
      exact ⟨_, by rw [HQ.out.1]; rfl, c4.alloc c4.size _, by rw [HQ.out.2]; exact ⟨rfl, E0.out _ c4⟩⟩
    · have HQ := Lib.hid (lb_ok H0.out h16)
      have hd : decide ((16 : Int) < ((betP A B).length : Int)) = false := decide_eq_false (by omega)
      clear h16
      go_wp2_with fail
      go_ret2
      exact ⟨_, by rw [HQ.out.1]; rfl, c4, by rw [HQ.out.2]; exact ⟨HZ.out.1, own_le HZ.out.2 c0.size⟩⟩
  · have h1 : codeNN A B = 1 := by
      cases ht : treeOK A && treeOK B with
      | false => exact nn_bad (by omega) ht
      | true => exact absurd (nn_fine (by omega) ht) h0
    have HQ := Lib.hid (lb_bad h1 (by decide))
    rw [h1] at HAK
    clear h0 h1 k1 k2
    go_enter Tryz.func21, Tryz.ntmps21
    go_wp2_with fail
    refine HAK.mono ?_
    rintro e w1 ⟨rfl, c0⟩
    go_wp2_with fail
    go_ret2
    exact ⟨_, by rw [HQ.out.1]; rfl, c0.alloc c0.size _, by rw [HQ.out.2]; exact ⟨rfl, E0.out _ c0⟩⟩
end Go.Proofs.YtcnjiphoahoojaaGreatDoor.Recs

/- The laws' marks in a slice of nodes: written, and read again. -/
namespace Go.Proofs.YtcnjiphoahoojaaGreatDoor.Recs
set_option maxRecDepth 100000
open Go.RowKit Paths

/-- The marks of one node, from x on. -/
def mn (x : Int) : R := ⟨x, x + 1 + 1 + 1, markS (x + 1), markS (x + 1 + 1), false⟩
def markN (x : Int) (n : Nat) : List R := (List.range n).map fun i : Nat => mn (x + 4 * (i : Int))
theorem markN_len (x : Int) (n : Nat) : (markN x n).length = n := by simp [markN]
theorem markN_at {x : Int} {n j : Nat} (h : j < n) : (markN x n)[j]'(by rw [markN_len]; exact h) = mn (x + 4 * j) := by simp [markN]

set_option maxHeartbeats 3200000 in
theorem markNodeS_any (v : Value) (n base : Nat) (M : List R) (x : Int) (w : World) (hrow : RowN w base v n M) (h0 : 0 ≤ x) (hk : x + 4 * n ≤ 1099511627776) :
    Calls Tryz.prog 25 #[v, .int .i64 x] w fun e w' => e = .returned (.int .i64 (x + 4 * n)) ∧ RowN w' base v n (markN x n) ∧ w.grownBy w' v.ownBlock := by
  rcases hrow.2.1.2 with ⟨rfl, rfl⟩ | ⟨g, cap, cur, rfl, hbg, hgg, hnc, hcm, _⟩
  · go_enter Tryz.func25, Tryz.ntmps25
    go_wp2
    refine wp_loop_rounds 1 ?_
    rw [rounds_succ]
    go_wp2
    go_ret
    exact ⟨by simp, ⟨by simp [markN], World.ownsRow_nil _ _ _ _, fun r hm => by simp [markN] at hm⟩, World.grownBy.refl _ _⟩
  · unfold maxLen at hcm
    clear hgg
    go_enter Tryz.func25, Tryz.ntmps25
    go_wp2
    go_loopw [1, 5] (fun m i wr => ∃ (j : Nat) (N : List R), j ≤ n ∧ i = .int .i64 j ∧ m = .int .i64 (x + 4 * j) ∧ RowN wr base (.slice (some ⟨g, 0, none⟩) n cap) n N ∧ Hid (N.take j = (markN x n).take j) ∧ w.grownBy wr (some g)) (fun _ i _ => n - (intOf i).toNat)
    case atStart => exact ⟨0, M, by omega, rfl, by simp, hrow, rfl, World.grownBy.refl _ _⟩
    case round =>
      obtain ⟨j, N, hj, rfl, rfl, hr, HN, hgr⟩ := hrel
      by_cases hlt : j < n
      · have hi1 : (j : Int) < (n : Int) := by omega
        have hi0 : (0 : Int) ≤ (j : Int) := by omega
        have hm : j < N.length := by rw [hr.1]; exact hlt
        have HS := Lib.hid (set_take (l := markN x n) hm (by rw [markN_len]; exact hlt) HN.out)
        rw [markN_at hlt] at HS
        generalize hX : x + 4 * (j : Int) = X at *
        have hX0 : 0 ≤ X := by omega
        have hX1 : X + 4 ≤ 1099511627776 := by omega
        obtain ⟨d0, d1, d2, d3⟩ := hr.cells hm
        have hMo := hr.2.2 N[j] (List.getElem_mem hm)
        have hf := hr.frozen
        obtain ⟨a1, b1⟩ := hr.field (i := j) (c := 0) (r := { N[j] with k := X }) (u := .int .i64 X) hm (by omega) rfl hMo
        go_wp2_with fail
        refine (markText_any _ _ (by omega) (by omega)).mono ?_
        rintro e w1 ⟨rfl, hb1⟩
        have r1 := a1.below hb1
        have g1 := grown_trans hgr (grown_trans b1 (grown_below hb1 _))
        have l1 : j < (N.set j { N[j] with k := X }).length := by simpa using hm
        obtain ⟨e0, e1, e2, e3⟩ := r1.cells l1
        have hf1 := r1.frozen
        obtain ⟨a2, b2⟩ := r1.field (i := j) (c := 1) (r := { N[j] with k := X, p := markS (X + 1) }) (u := .string (markS (X + 1))) l1 (by omega) (by simp [R.ns]) hMo
        rw [List.set_set] at a2
        clear d0 d1 d2 d3 hf a1 b1
        go_wp2_with fail
        refine (markText_any _ _ (by omega) (by omega)).mono ?_
        rintro e w2 ⟨rfl, hb2⟩
        have r2 := a2.below hb2
        have g2 := grown_trans g1 (grown_trans b2 (grown_below hb2 _))
        have l2 : j < (N.set j { N[j] with k := X, p := markS (X + 1) }).length := by simpa using hm
        clear e0 e1 e2 e3 hf1 a2 b2 r1
        obtain ⟨e0, e1, e2, e3⟩ := r2.cells l2
        have hf2 := r2.frozen
        obtain ⟨a3, b3⟩ := r2.field (i := j) (c := 2) (r := { N[j] with k := X, p := markS (X + 1), b := markS (X + 1 + 1) }) (u := .string (markS (X + 1 + 1))) l2 (by omega) (by simp [R.ns]) hMo
        rw [List.set_set] at a3
        obtain ⟨a4, b4⟩ := a3.field (i := j) (c := 3) (r := mn X) (u := .int .i64 (X + 1 + 1 + 1)) (by simpa using hm) (by omega) (by simp [R.ns, mn]) rfl
        rw [List.set_set] at a4
        have HA := Lib.hid a4
        have HG := Lib.hid (grown_trans (grown_trans g2 b3) b4)
        clear a3 a4 b3 b4
        go_wp2_with fail
        exact ⟨⟨j + 1, N.set j (mn X), by omega, by go_num, by subst hX; go_num, HA.out, HS, HG.out⟩, by simp [intOf]; omega⟩
      · obtain rfl : j = n := by omega
        go_wp2
        go_ret
        refine ⟨rfl, ?_, hgr⟩
        have := HN.out
        rw [List.take_of_length_le (by rw [hr.1]; exact Nat.le_refl _), List.take_of_length_le (by rw [markN_len]; exact Nat.le_refl _)] at this
        rw [← this]
        exact hr

end Go.Proofs.YtcnjiphoahoojaaGreatDoor.Recs

/- For laws over stacks: the laws' own sizes with their sums; blocks between two numbers; marks in a stack. -/
namespace Go.Proofs.YtcnjiphoahoojaaGreatDoor.Recs
set_option maxRecDepth 100000
open Go.RowKit Paths

theorem Betw.nods {base top : Nat} {w w' : World} (hb : Betw base top w w') {b : Nat} {v : Value} {n : Nat} {M : List R} (h : RowN w b v n M) (hk : ∀ k, v.ownBlock = some k → k < base ∨ top ≤ k) : RowN w' b v n M := ⟨h.1, hb.own h.2.1 hk, h.2.2⟩
/-- The rows of a stack lie from base on, below top. -/
theorem StkRow.low {w : World} {base : Nat} {v : Value} {LL : List (List R)} (h : StkRow w base v LL) : ∃ (g : Nat) (us : List Value), v = .slice (some ⟨g, 0, none⟩) LL.length LL.length ∧ us.length = LL.length ∧ g < w.heap.size ∧ (∀ (i : Nat) (u : Value), us[i]? = some u → w.cell? ⟨g, i, none⟩ = some u) ∧
    ∀ (i : Nat) (u : Value) (l : List R), us[i]? = some u → LL[i]? = some l → RowOf w base u l.length l ∧ u.ownBlock ≠ some g ∧ ∀ (j : Nat) (u' : Value), us[j]? = some u' → ∀ c, u.ownBlock = some c → u'.ownBlock = some c → i = j := by
  obtain ⟨g, us, rfl, hn, ho, h1, h2⟩ := h
  refine ⟨g, us, rfl, hn, (ho.lt g rfl).2, fun i u hi => ?_, fun i u l hi hl => ?_⟩
  · have hlt : i < us.length := (List.getElem?_eq_some_iff.1 hi).1
    have := ho.cellAt i (by omega)
    rw [hi] at this
    exact this
  · have hlt : i < LL.length := (List.getElem?_eq_some_iff.1 hl).1
    refine ⟨(h1 i u l hlt hi hl).1, (h1 i u l hlt hi hl).2, fun j u' hj c hc hc' => ?_⟩
    have hjl : j < us.length := (List.getElem?_eq_some_iff.1 hj).1
    exact h2 i j u u' c hlt (by omega) hi hj hc hc'

theorem StkRow.top {w w' : World} {base : Nat} {v : Value} {LL : List (List R)} (h : StkRow w base v LL) (hb : Below w.heap.size w w') : ∀ (g : Nat) (us : List Value), v = .slice (some ⟨g, 0, none⟩) LL.length LL.length → us.length = LL.length → (∀ (i : Nat) (u : Value), us[i]? = some u → w'.cell? ⟨g, i, none⟩ = some u) → ∀ (i : Nat) (u : Value), us[i]? = some u → ∀ c, u.ownBlock = some c → c < w.heap.size := by
  obtain ⟨g, us, rfl, hn, hgl, hcs, hrs⟩ := h.low
  intro g' us' e hn' hc' i u hi c hc
  cases e
  have hlt : i < us'.length := (List.getElem?_eq_some_iff.1 hi).1
  have h1 := hcs i (us[i]'(by omega)) (List.getElem?_eq_getElem _)
  have h2 := (hb.cell (p := ⟨g, i, none⟩) hgl).symm.trans (hc' i u hi)
  rw [h1] at h2
  cases h2
  exact ((hrs i _ _ (List.getElem?_eq_getElem (by omega)) (List.getElem?_eq_getElem (by omega))).1.2.lt c hc).2

end Go.Proofs.YtcnjiphoahoojaaGreatDoor.Recs
