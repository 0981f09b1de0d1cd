/- Parts of several texts of mine in one file (each begins with its own remark). -/
import Derived.Test.YtcnjiphoahoojaaDoorCA10
import Derived.Test.YtcnjiphoahoojaaDoorCA12
import Derived.Test.YtcnjiphoahoojaaDoorCA2
import Derived.Test.YtcnjiphoahoojaaDoorCA3
import Derived.Test.YtcnjiphoahoojaaDoorCA6
import Derived.Test.YtcnjiphoahoojaaDoorCA7
import Derived.Test.YtcnjiphoahoojaaDoorCA8
import Derived.Test.YtcnjiphoahoojaaDoorChecked
import Derived.Test.YtcnjiphoahoojaaDoorRows
import Derived.Test.YtcnjiphoahoojaaDoorProg
import Derived.Test.YtcnjiphoahoojaaDoorShelf
import Derived.StillTailTactics
import Derived.Laws.OwnMore
import Derived.BigQuiet
import Derived.BigRegion
import Derived.Deep.QuietTactic
import Derived.Deep.RegionHeld3
import Derived.Deep.Slices
import Derived.OpenShut
import Derived.ShutString
import Derived.ChangeArms
import Derived.WideShapes
import Derived.Lib.LaidTab
import Derived.Deep.Draws
import Derived.Deep.LoopGhost
import Derived.WalkKit
import Derived.WalkSpells
import Derived.WalkSmall
import Derived.Lib.OthersKept
import Derived.Lib.Hide
import Derived.Lib.Strings
import Derived.Lib.Join
import Derived.Laws.BytesArg
import Derived.Deep.RegionWith
import Derived.OneCell
import Derived.Lib.SliceRun
import Derived.Lib.Overlaps
import Derived.Lib.AppendZerosOnto
import Derived.Laws.NewBlocks
import Derived.Laws.IdiomCopy
import Derived.Deep.RegionLaw
import Derived.ChangeVars
import Derived.Deep.DeepHandedRow
import Derived.LaidEql
import Derived.Stop.Asserts
import Derived.Below
import Derived.Stop.LaidErr
import Derived.Stop.LaidTwo
import Derived.WalkLawsBesides
/- The laws' marks in a slice of nodes: written, and read again. -/
namespace Go.Proofs.YtcnjiphoahoojaaDoor.Recs
set_option maxRecDepth 100000
open Go.RowKit Paths

/-- The marks of one node, from x on. -/
def mn (x : Int) : R := ⟨x, x + 1 + 1 + 1, markS (x + 1), markS (x + 1 + 1), false⟩
def markN (x : Int) (n : Nat) : List R := (List.range n).map fun i : Nat => mn (x + 4 * (i : Int))
theorem markN_len (x : Int) (n : Nat) : (markN x n).length = n := by simp [markN]
theorem markN_at {x : Int} {n j : Nat} (h : j < n) : (markN x n)[j]'(by rw [markN_len]; exact h) = mn (x + 4 * j) := by simp [markN]

set_option maxHeartbeats 3200000 in
theorem markNodeS_any (v : Value) (n base : Nat) (M : List R) (x : Int) (w : World) (hrow : RowN w base v n M) (h0 : 0 ≤ x) (hk : x + 4 * n ≤ 1099511627776) :
    Calls Tryd.prog 25 #[v, .int .i64 x] w fun e w' => e = .returned (.int .i64 (x + 4 * n)) ∧ RowN w' base v n (markN x n) ∧ w.grownBy w' v.ownBlock := by
  rcases hrow.2.1.2 with ⟨rfl, rfl⟩ | ⟨g, cap, cur, rfl, hbg, hgg, hnc, hcm, _⟩
  · go_enter Tryd.func25, Tryd.ntmps25
    go_wp2
    refine wp_loop_rounds 1 ?_
    rw [rounds_succ]
    go_wp2
    go_ret
    exact ⟨by simp, ⟨by simp [markN], World.ownsRow_nil _ _ _ _, fun r hm => by simp [markN] at hm⟩, World.grownBy.refl _ _⟩
  · unfold maxLen at hcm
    clear hgg
    go_enter Tryd.func25, Tryd.ntmps25
    go_wp2
    go_loopw [1, 5] (fun m i wr => ∃ (j : Nat) (N : List R), j ≤ n ∧ i = .int .i64 j ∧ m = .int .i64 (x + 4 * j) ∧ RowN wr base (.slice (some ⟨g, 0, none⟩) n cap) n N ∧ Hid (N.take j = (markN x n).take j) ∧ w.grownBy wr (some g)) (fun _ i _ => n - (intOf i).toNat)
    case atStart => exact ⟨0, M, by omega, rfl, by simp, hrow, rfl, World.grownBy.refl _ _⟩
    case round =>
      obtain ⟨j, N, hj, rfl, rfl, hr, HN, hgr⟩ := hrel
      by_cases hlt : j < n
      · have hi1 : (j : Int) < (n : Int) := by omega
        have hi0 : (0 : Int) ≤ (j : Int) := by omega
        have hm : j < N.length := by rw [hr.1]; exact hlt
        have HS := Lib.hid (set_take (l := markN x n) hm (by rw [markN_len]; exact hlt) HN.out)
        rw [markN_at hlt] at HS
        generalize hX : x + 4 * (j : Int) = X at *
        have hX0 : 0 ≤ X := by omega
        have hX1 : X + 4 ≤ 1099511627776 := by omega
        obtain ⟨d0, d1, d2, d3⟩ := hr.cells hm
        have hMo := hr.2.2 N[j] (List.getElem_mem hm)
        have hf := hr.frozen
        obtain ⟨a1, b1⟩ := hr.field (i := j) (c := 0) (r := { N[j] with k := X }) (u := .int .i64 X) hm (by omega) rfl hMo
        go_wp2_with fail
        refine (markText_any _ _ (by omega) (by omega)).mono ?_
        rintro e w1 ⟨rfl, hb1⟩
        have r1 := a1.below hb1
        have g1 := grown_trans hgr (grown_trans b1 (grown_below hb1 _))
        have l1 : j < (N.set j { N[j] with k := X }).length := by simpa using hm
        obtain ⟨e0, e1, e2, e3⟩ := r1.cells l1
        have hf1 := r1.frozen
        obtain ⟨a2, b2⟩ := r1.field (i := j) (c := 1) (r := { N[j] with k := X, p := markS (X + 1) }) (u := .string (markS (X + 1))) l1 (by omega) (by simp [R.ns]) hMo
        rw [List.set_set] at a2
        clear d0 d1 d2 d3 hf a1 b1
        go_wp2_with fail
        refine (markText_any _ _ (by omega) (by omega)).mono ?_
        rintro e w2 ⟨rfl, hb2⟩
        have r2 := a2.below hb2
        have g2 := grown_trans g1 (grown_trans b2 (grown_below hb2 _))
        have l2 : j < (N.set j { N[j] with k := X, p := markS (X + 1) }).length := by simpa using hm
        clear e0 e1 e2 e3 hf1 a2 b2 r1
        obtain ⟨e0, e1, e2, e3⟩ := r2.cells l2
        have hf2 := r2.frozen
        obtain ⟨a3, b3⟩ := r2.field (i := j) (c := 2) (r := { N[j] with k := X, p := markS (X + 1), b := markS (X + 1 + 1) }) (u := .string (markS (X + 1 + 1))) l2 (by omega) (by simp [R.ns]) hMo
        rw [List.set_set] at a3
        obtain ⟨a4, b4⟩ := a3.field (i := j) (c := 3) (r := mn X) (u := .int .i64 (X + 1 + 1 + 1)) (by simpa using hm) (by omega) (by simp [R.ns, mn]) rfl
        rw [List.set_set] at a4
        have HA := Lib.hid a4
        have HG := Lib.hid (grown_trans (grown_trans g2 b3) b4)
        clear a3 a4 b3 b4
        go_wp2_with fail
        exact ⟨⟨j + 1, N.set j (mn X), by omega, by go_num, by subst hX; go_num, HA.out, HS, HG.out⟩, by simp [intOf]; omega⟩
      · obtain rfl : j = n := by omega
        go_wp2
        go_ret
        refine ⟨rfl, ?_, hgr⟩
        have := HN.out
        rw [List.take_of_length_le (by rw [hr.1]; exact Nat.le_refl _), List.take_of_length_le (by rw [markN_len]; exact Nat.le_refl _)] at this
        rw [← this]
        exact hr

end Go.Proofs.YtcnjiphoahoojaaDoor.Recs

/- For laws over stacks: the laws' own sizes with their sums; blocks between two numbers; marks in a stack. -/
namespace Go.Proofs.YtcnjiphoahoojaaDoor.Recs
set_option maxRecDepth 100000
open Go.RowKit Paths

theorem Betw.nods {base top : Nat} {w w' : World} (hb : Betw base top w w') {b : Nat} {v : Value} {n : Nat} {M : List R} (h : RowN w b v n M) (hk : ∀ k, v.ownBlock = some k → k < base ∨ top ≤ k) : RowN w' b v n M := ⟨h.1, hb.own h.2.1 hk, h.2.2⟩
/-- The rows of a stack lie from base on, below top. -/
theorem StkRow.low {w : World} {base : Nat} {v : Value} {LL : List (List R)} (h : StkRow w base v LL) : ∃ (g : Nat) (us : List Value), v = .slice (some ⟨g, 0, none⟩) LL.length LL.length ∧ us.length = LL.length ∧ g < w.heap.size ∧ (∀ (i : Nat) (u : Value), us[i]? = some u → w.cell? ⟨g, i, none⟩ = some u) ∧
    ∀ (i : Nat) (u : Value) (l : List R), us[i]? = some u → LL[i]? = some l → RowOf w base u l.length l ∧ u.ownBlock ≠ some g ∧ ∀ (j : Nat) (u' : Value), us[j]? = some u' → ∀ c, u.ownBlock = some c → u'.ownBlock = some c → i = j := by
  obtain ⟨g, us, rfl, hn, ho, h1, h2⟩ := h
  refine ⟨g, us, rfl, hn, (ho.lt g rfl).2, fun i u hi => ?_, fun i u l hi hl => ?_⟩
  · have hlt : i < us.length := (List.getElem?_eq_some_iff.1 hi).1
    have := ho.cellAt i (by omega)
    rw [hi] at this
    exact this
  · have hlt : i < LL.length := (List.getElem?_eq_some_iff.1 hl).1
    refine ⟨(h1 i u l hlt hi hl).1, (h1 i u l hlt hi hl).2, fun j u' hj c hc hc' => ?_⟩
    have hjl : j < us.length := (List.getElem?_eq_some_iff.1 hj).1
    exact h2 i j u u' c hlt (by omega) hi hj hc hc'

theorem StkRow.top {w w' : World} {base : Nat} {v : Value} {LL : List (List R)} (h : StkRow w base v LL) (hb : Below w.heap.size w w') : ∀ (g : Nat) (us : List Value), v = .slice (some ⟨g, 0, none⟩) LL.length LL.length → us.length = LL.length → (∀ (i : Nat) (u : Value), us[i]? = some u → w'.cell? ⟨g, i, none⟩ = some u) → ∀ (i : Nat) (u : Value), us[i]? = some u → ∀ c, u.ownBlock = some c → c < w.heap.size := by
  obtain ⟨g, us, rfl, hn, hgl, hcs, hrs⟩ := h.low
  intro g' us' e hn' hc' i u hi c hc
  cases e
  have hlt : i < us'.length := (List.getElem?_eq_some_iff.1 hi).1
  have h1 := hcs i (us[i]'(by omega)) (List.getElem?_eq_getElem _)
  have h2 := (hb.cell (p := ⟨g, i, none⟩) hgl).symm.trans (hc' i u hi)
  rw [h1] at h2
  cases h2
  exact ((hrs i _ _ (List.getElem?_eq_getElem (by omega)) (List.getElem?_eq_getElem (by omega))).1.2.lt c hc).2

end Go.Proofs.YtcnjiphoahoojaaDoor.Recs
