/- Parts of several texts of mine in one file (each begins with its own remark). -/
import Derived.Test.YtciflchaepchiabGreatDoorUA1
import Derived.Test.YtciflchaepchiabGreatDoorUA12
import Derived.Test.YtciflchaepchiabGreatDoorUA14
import Derived.Test.YtciflchaepchiabGreatDoorUA16
import Derived.Test.YtciflchaepchiabGreatDoorUA17
import Derived.Test.YtciflchaepchiabGreatDoorUA2
import Derived.Test.YtciflchaepchiabGreatDoorUA3
import Derived.Test.YtciflchaepchiabGreatDoorUA4
import Derived.Test.YtciflchaepchiabGreatDoorUA6
import Derived.Test.YtciflchaepchiabGreatDoorUA7
import Derived.Test.YtciflchaepchiabGreatDoorUA8
import Derived.Test.YtciflchaepchiabGreatDoorUC1
import Derived.Test.YtciflchaepchiabGreatDoorChecked
import Derived.Test.YtciflchaepchiabGreatDoorRows
import Derived.Test.YtciflchaepchiabGreatDoorProg
import Derived.Test.YtciflchaepchiabGreatDoorShelf
import Derived.StillTailTactics
import Derived.Laws.OwnMore
import Derived.BigQuiet
import Derived.BigRegion
import Derived.Deep.QuietTactic
import Derived.Deep.RegionHeld3
import Derived.Deep.Slices
import Derived.OpenShut
import Derived.ShutString
import Derived.ChangeArms
import Derived.WideShapes
import Derived.Lib.LaidTab
import Derived.Deep.Draws
import Derived.Deep.LoopGhost
import Derived.WalkKit
import Derived.WalkSpells
import Derived.WalkSmall
import Derived.Lib.OthersKept
import Derived.Lib.Hide
import Derived.Lib.Strings
import Derived.Lib.Join
import Derived.Laws.BytesArg
import Derived.Deep.RegionWith
import Derived.OneCell
import Derived.Lib.SliceRun
import Derived.Lib.Overlaps
import Derived.Lib.AppendZerosOnto
import Derived.Laws.NewBlocks
import Derived.Laws.IdiomCopy
import Derived.Deep.RegionLaw
import Derived.ChangeVars
import Derived.Deep.DeepHandedRow
import Derived.LaidEql
import Derived.Stop.Asserts
import Derived.Below
import Derived.Stop.LaidErr
import Derived.Stop.LaidTwo
import Derived.WalkLawsBesides
/- Slices of nodes in memory of their own; the laws' own copy, size and comparison of slices of nodes. -/
namespace Go.Proofs.YtciflchaepchiabGreatDoor.Recs
set_option maxRecDepth 100000
open Go.RowKit Paths

theorem madeN_flat (n : Nat) : (madeCells (Value.agg #[.int .i64 0, .string ByteArray.empty, .string ByteArray.empty, .int .i64 0]).cells (n * 4)).toList = flatN (List.replicate n zR) := by
  apply List.ext_getElem?
  intro j
  rw [flatN_get]
  by_cases hj : j < n * 4
  · have h1 : j / 4 < n := by omega
    rw [List.getElem?_replicate, if_pos h1]
    have h5 : j % 4 < 4 := Nat.mod_lt _ (by omega)
    have e : j % 4 = 0 ∨ j % 4 = 1 ∨ j % 4 = 2 ∨ j % 4 = 3 := by omega
    rcases e with e | e | e | e <;> simp [madeCells, hj, Value.cells, R.ns, zR, e]
  · have h1 : ¬ j / 4 < n := by omega
    rw [List.getElem?_replicate, if_neg h1]
    simp [madeCells, hj]

theorem szNode_at (k m : Int) (p b : ByteArray) (n : Nat) (w : World) (hp : p.size ≤ maxLen) (hb : b.size ≤ maxLen) (hn : n ≤ 1048576) :
    Calls Tryz.prog 62 #[.agg #[.int .i64 k, .string p, .string b, .int .i64 m], .int .i64 n] w fun e w' => (∃ z : Int, z < 0 ∧ e = .returned (.int .i64 z) ∧ Below w.heap.size w w') ∨ ∃ z : Nat, z ≤ 1048576 ∧ e = .returned (.int .i64 z) ∧ Below w.heap.size w w' := by
  unfold maxLen at hp hb
  have hbw : Below w.heap.size w (w.alloc (.cells #[.int .i64 k, .string p, .string b, .int .i64 m] 79)) := (Below.refl _ _).alloc (Nat.le_refl _) _
  by_cases h1 : n < p.size
  · have hd : decide ((n : Int) - (p.size : Int) < 0) = true := by simp; omega
    go_enter Tryz.func62, Tryz.ntmps62
    go_wp2_with fail
    go_ret
    exact .inl ⟨_, by omega, rfl, hbw⟩
  have hd : decide ((n : Int) - (p.size : Int) < 0) = false := by simp; omega
  by_cases h2 : n < p.size + b.size
  · have hd2 : decide ((n : Int) - (p.size : Int) - (b.size : Int) < 0) = true := by simp; omega
    go_enter Tryz.func62, Tryz.ntmps62
    go_wp2_with fail
    go_ret
    exact .inl ⟨_, by omega, rfl, hbw⟩
  have hd2 : decide ((n : Int) - (p.size : Int) - (b.size : Int) < 0) = false := by simp; omega
  have he : ((n - p.size - b.size : Nat) : Int) = (n : Int) - (p.size : Int) - (b.size : Int) := by omega
  have HE := Lib.hid he
  clear he
  go_enter Tryz.func62, Tryz.ntmps62
  go_wp2_with fail
  go_ret
  exact .inr ⟨n - p.size - b.size, by omega, ret_int HE.out.symm, hbw⟩

set_option maxHeartbeats 800000 in
/-- Below zero, or all that the slice holds is at most what was left. -/
theorem szNodeS_any (v : Value) (l : List R) (n : Nat) (w : World) (h : NodSl w v l) (hlm : l.length ≤ maxLen) (hs : ∀ r ∈ l, r.p.size ≤ maxLen ∧ r.b.size ≤ maxLen) (hn : n ≤ 1048576) :
    Calls Tryz.prog 11 #[v, .int .i64 n] w fun e w' => (∃ z : Int, z < 0 ∧ e = .returned (.int .i64 z) ∧ Below w.heap.size w w') ∨ ∃ z : Nat, z ≤ 1048576 ∧ l.length ≤ 1048576 ∧ e = .returned (.int .i64 z) ∧ Below w.heap.size w w' := by
  unfold maxLen at hlm
  obtain ⟨ho, A, cap, rfl, hcap, h⟩ := h
  have H := Lib.hid h
  clear h
  by_cases h1 : n < l.length
  · have hd : decide ((n : Int) - (l.length : Int) < 0) = true := by simp; omega
    go_enter Tryz.func11, Tryz.ntmps11
    go_wp2_with fail
    go_ret
    exact .inl ⟨_, by omega, rfl, Below.refl _ _⟩
  have hd : decide ((n : Int) - (l.length : Int) < 0) = false := by simp; omega
  go_enter Tryz.func11, Tryz.ntmps11
  go_wp2
  go_loopw [1, 5] (fun m i wr => ∃ (j z : Nat), j ≤ l.length ∧ i = .int .i64 j ∧ m = .int .i64 z ∧ z ≤ 1048576 ∧ Below w.heap.size w wr) (fun _ i _ => l.length - (intOf i).toNat)
  case atStart => exact ⟨0, n - l.length, by omega, rfl, by go_num, by omega, Below.refl _ _⟩
  case round =>
    obtain ⟨j, z, hj, rfl, rfl, hz, hbw⟩ := hrel
    by_cases hlt : j < l.length
    · obtain ⟨b, off, rfl, hb, hcell⟩ := H.out (by omega)
      obtain ⟨c0, c1, c2, c3⟩ := (hcell j l[j] (by simp [hlt])).below hbw hb
      obtain ⟨s1, s2⟩ := hs l[j] (List.getElem_mem hlt)
      clear hcell
      have hi1 : (j : Int) < (l.length : Int) := by omega
      have hi0 : (0 : Int) ≤ (j : Int) := by omega
      go_wp2_with fail
      refine (szNode_at _ _ _ _ z _ s1 s2 hz).mono ?_
      rintro e w1 (⟨z1, hz1, rfl, hb1⟩ | ⟨z1, hz1, rfl, hb1⟩)
      · have hd1 : decide (z1 < 0) = true := by simpa using hz1
        go_wp2_with fail
        go_ret
        exact .inl ⟨_, by omega, rfl, hbw.trans (hb1.mono hbw.size)⟩
      · have hd1 : decide ((z1 : Int) < 0) = false := by simp
        go_wp2_with fail
        go_roundw
        case rel => exact ⟨j + 1, z1, by omega, by go_num, rfl, hz1, hbw.trans (hb1.mono hbw.size)⟩
        case measure => simp [intOf]; omega
    · obtain rfl : j = l.length := by omega
      go_wp2
      go_ret
      exact .inr ⟨z, hz, by omega, rfl, hbw⟩

set_option maxHeartbeats 800000 in
theorem eqNodeS_same (v1 v2 : Value) (l : List R) (w : World) (h1 : NodSl w v1 l) (h2 : NodSl w v2 l) (hl : l.length ≤ 1048576) :
    Calls Tryz.prog 17 #[v1, v2] w fun e w' => e = .returned (.bool true) ∧ Below w.heap.size w w' := by
  obtain ⟨_, A1, cap1, rfl, hcap1, h1⟩ := h1
  obtain ⟨_, A2, cap2, rfl, hcap2, h2⟩ := h2
  have H1 := Lib.hid h1
  have H2 := Lib.hid h2
  clear h1 h2
  go_enter Tryz.func17, Tryz.ntmps17
  go_wp2
  go_loopw [5] (fun i wr => ∃ (j : Nat), j ≤ l.length ∧ i = .int .i64 j ∧ Below w.heap.size w wr) (fun i _ => l.length - (intOf i).toNat)
  case atStart => exact ⟨0, by omega, rfl, Below.refl _ _⟩
  case round =>
    obtain ⟨j, hj, rfl, hbw⟩ := hrel
    by_cases hlt : j < l.length
    · obtain ⟨b1, off1, rfl, hb1, hcell1⟩ := H1.out (by omega)
      obtain ⟨b2, off2, rfl, hb2, hcell2⟩ := H2.out (by omega)
      obtain ⟨c0, c1, c2, c3⟩ := (hcell1 j l[j] (by simp [hlt])).below hbw hb1
      obtain ⟨d0, d1, d2, d3⟩ := (hcell2 j l[j] (by simp [hlt])).below hbw hb2
      clear hcell1 hcell2
      have hi1 : (j : Int) < (l.length : Int) := by omega
      have hi0 : (0 : Int) ≤ (j : Int) := by omega
      go_wp2_with fail
      go_still_tail 8, (by kernel_rfl)
      change wpList _ _ _ _ _ wr.drew
      have hbw' : Below w.heap.size w wr.drew := hbw.drew
      clear hbw
      generalize wr.drew = W2 at *
      go_wp2_with fail
      refine (eqNode_any _ _ _ _ _).mono ?_
      rintro e w1 ⟨rfl, hb1⟩
      go_wp2_with fail
      go_roundw
      case rel => exact ⟨j + 1, by omega, by go_num, hbw'.trans (hb1.mono hbw'.size)⟩
      case measure => simp [intOf]; omega
    · obtain rfl : j = l.length := by omega
      go_wp2
      go_ret
      exact ⟨rfl, hbw⟩
end Go.Proofs.YtciflchaepchiabGreatDoor.Recs

/- Rows of nodes: parts of a row as the source of an append; a copy of a list of nodes that is never nil. -/
namespace Go.Proofs.YtciflchaepchiabGreatDoor.Recs
set_option maxRecDepth 100000
open Go.RowKit Paths

set_option maxHeartbeats 800000 in
theorem toNodeS_some (v : Value) (l : List R) (w : World) (h : NodSl w v l) (hl : l.length ≤ 1048576) :
    Calls Tryz.prog 14 #[v] w fun e w' => ∃ x, e = .returned x ∧ Below w.heap.size w w' ∧ RowN w' w.heap.size x l.length l ∧ x ≠ .slice none 0 0 := by
  obtain ⟨i0, hi, hz0, hz1, hz2⟩ := info_parts nodInfo
  obtain ⟨ho, A, cap, rfl, hcap, h⟩ := h
  have H := Lib.hid h
  clear h
  obtain ⟨w0, hr, hown, hg⟩ := run_make_full (P := Tryz.prog) w w.heap.size 30 84 i0 _ 4 Tryz.underlying30 hi hz0 hz1 .i64 .i64 l.length (by rw [hz2]; omega) (by unfold maxLen; omega) (Nat.le_refl _)
  rw [madeN_flat] at hown
  have hrow : RowN w0 w.heap.size (.slice (some ⟨w.heap.size, 0, none⟩) l.length l.length) l.length (List.replicate l.length zR) := ⟨by simp, hown, fun r hm => by rw [(List.mem_replicate.1 hm).2]; rfl⟩
  have hb0 : Below w.heap.size w w0 := (Below.refl _ _).grown hg (Nat.le_refl _) (fun k hk => by cases hk)
  clear hown hg
  go_enter Tryz.func14, Tryz.ntmps14
  go_wp2
  go_loopw [4] (fun i wr => ∃ (j : Nat) (M : List R), j ≤ l.length ∧ i = .int .i64 j ∧ RowN wr w.heap.size (.slice (some ⟨w.heap.size, 0, none⟩) l.length l.length) l.length M ∧ Hid (M.take j = l.take j) ∧ Below w.heap.size w wr) (fun i _ => l.length - (intOf i).toNat)
  case atStart => exact ⟨0, _, by omega, rfl, hrow, rfl, hb0⟩
  case round =>
    obtain ⟨j, M, hj, rfl, hrj, HM, hbw⟩ := hrel
    by_cases hlt : j < l.length
    · obtain ⟨b, off, rfl, hb, hcell⟩ := H.out (by omega)
      obtain ⟨c0, c1, c2, c3⟩ := (hcell j l[j] (by simp [hlt])).below hbw hb
      clear hcell
      have hi1 : (j : Int) < (l.length : Int) := by omega
      have hi0 : (0 : Int) ≤ (j : Int) := by omega
      go_wp2_with fail
      refine (toNode_any _ _ _ _ _).mono ?_
      rintro e w1 ⟨rfl, hb1⟩
      have hr1 := hrj.below hb1
      have hm : j < M.length := by rw [hrj.1]; exact hlt
      obtain ⟨d0, d1, d2, d3⟩ := hr1.cells hm
      have hf := hr1.frozen
      have HS := Lib.hid (hr1.store l[j] hm (ho l[j] (List.getElem_mem hlt)))
      have HT := Lib.hid (set_take hm hlt HM.out)
      have hbw1 := hbw.trans (hb1.mono hbw.size)
      clear hr1 c0 c1 c2 c3
      go_wp2
      go_roundw
      case rel => exact ⟨j + 1, _, by omega, by go_num, HS.out.1, HT, hbw1.grown HS.out.2 hbw1.size (fun k hk => by cases hk; exact Nat.le_refl _)⟩
      case measure => simp [intOf]; omega
    · obtain rfl : j = l.length := by omega
      go_wp2
      go_ret
      refine ⟨_, rfl, hbw, ?_, by simp⟩
      have := HM.out
      rw [List.take_of_length_le (by rw [hrj.1]; exact Nat.le_refl _), List.take_of_length_le (Nat.le_refl _)] at this
      subst this
      exact hrj

end Go.Proofs.YtciflchaepchiabGreatDoor.Recs

/- The laws' marks in a slice of records: written, and read again. -/
namespace Go.Proofs.YtciflchaepchiabGreatDoor.Recs
set_option maxRecDepth 100000
open Go.RowKit Paths

/-- The marks of one record, from x on. -/
def mr (x : Int) : R := ⟨x, x + 1 + 1 + 1, markS (x + 1), markS (x + 1 + 1), (x + 1 + 1 + 1 + 1) % 3 == 0⟩
def markR (x : Int) (n : Nat) : List R := (List.range n).map fun i : Nat => mr (x + 5 * (i : Int))
theorem markR_len (x : Int) (n : Nat) : (markR x n).length = n := by simp [markR]
theorem markR_at {x : Int} {n j : Nat} (h : j < n) : (markR x n)[j]'(by rw [markR_len]; exact h) = mr (x + 5 * j) := by simp [markR]

set_option maxHeartbeats 3200000 in
theorem markRecordS_any (v : Value) (n base : Nat) (M : List R) (x : Int) (w : World) (hrow : RowOf w base v n M) (h0 : 0 ≤ x) (hk : x + 5 * n ≤ 1099511627776) :
    Calls Tryz.prog 18 #[v, .int .i64 x] w fun e w' => e = .returned (.int .i64 (x + 5 * n)) ∧ RowOf w' base v n (markR x n) ∧ w.grownBy w' v.ownBlock := by
  rcases hrow.2.2 with ⟨rfl, rfl⟩ | ⟨g, cap, cur, rfl, hbg, hgg, hnc, hcm, _⟩
  · go_enter Tryz.func18, Tryz.ntmps18
    go_wp2
    refine wp_loop_rounds 1 ?_
    rw [rounds_succ]
    go_wp2
    go_ret
    exact ⟨by simp, ⟨by simp [markR], World.ownsRow_nil _ _ _ _⟩, World.grownBy.refl _ _⟩
  · unfold maxLen at hcm
    clear hgg
    go_enter Tryz.func18, Tryz.ntmps18
    go_wp2
    go_loopw [1, 5] (fun m i wr => ∃ (j : Nat) (N : List R), j ≤ n ∧ i = .int .i64 j ∧ m = .int .i64 (x + 5 * j) ∧ RowOf wr base (.slice (some ⟨g, 0, none⟩) n cap) n N ∧ Hid (N.take j = (markR x n).take j) ∧ w.grownBy wr (some g)) (fun _ i _ => n - (intOf i).toNat)
    case atStart => exact ⟨0, M, by omega, rfl, by simp, hrow, rfl, World.grownBy.refl _ _⟩
    case round =>
      obtain ⟨j, N, hj, rfl, rfl, hr, HN, hgr⟩ := hrel
      by_cases hlt : j < n
      · have hi1 : (j : Int) < (n : Int) := by omega
        have hi0 : (0 : Int) ≤ (j : Int) := by omega
        have hm : j < N.length := by rw [hr.1]; exact hlt
        have HS := Lib.hid (set_take (l := markR x n) hm (by rw [markR_len]; exact hlt) HN.out)
        rw [markR_at hlt] at HS
        generalize hX : x + 5 * (j : Int) = X at *
        have hX0 : 0 ≤ X := by omega
        have hX1 : X + 5 ≤ 1099511627776 := by omega
        obtain ⟨d0, d1, d2, d3, d4⟩ := hr.cells hm
        have hf := hr.frozen
        obtain ⟨a1, b1⟩ := hr.field (i := j) (c := 0) (r := { N[j] with k := X }) (u := .int .i64 X) hm (by omega) rfl
        go_wp2_with fail
        refine (markText_any _ _ (by omega) (by omega)).mono ?_
        rintro e w1 ⟨rfl, hb1⟩
        have r1 := a1.below hb1
        have g1 := grown_trans hgr (grown_trans b1 (grown_below hb1 _))
        have l1 : j < (N.set j { N[j] with k := X }).length := by simpa using hm
        obtain ⟨e0, e1, e2, e3, e4⟩ := r1.cells l1
        have hf1 := r1.frozen
        obtain ⟨a2, b2⟩ := r1.field (i := j) (c := 1) (r := { N[j] with k := X, p := markS (X + 1) }) (u := .string (markS (X + 1))) l1 (by omega) (by simp [R.cs])
        rw [List.set_set] at a2
        clear d0 d1 d2 d3 d4 hf a1 b1
        go_wp2_with fail
        refine (markText_any _ _ (by omega) (by omega)).mono ?_
        rintro e w2 ⟨rfl, hb2⟩
        have r2 := a2.below hb2
        have g2 := grown_trans g1 (grown_trans b2 (grown_below hb2 _))
        have l2 : j < (N.set j { N[j] with k := X, p := markS (X + 1) }).length := by simpa using hm
        clear e0 e1 e2 e3 e4 hf1 a2 b2 r1
        obtain ⟨e0, e1, e2, e3, e4⟩ := r2.cells l2
        have hf2 := r2.frozen
        obtain ⟨a3, b3⟩ := r2.field (i := j) (c := 2) (r := { N[j] with k := X, p := markS (X + 1), b := markS (X + 1 + 1) }) (u := .string (markS (X + 1 + 1))) l2 (by omega) (by simp [R.cs])
        rw [List.set_set] at a3
        obtain ⟨a4, b4⟩ := a3.field (i := j) (c := 3) (r := { N[j] with k := X, p := markS (X + 1), b := markS (X + 1 + 1), m := X + 1 + 1 + 1 }) (u := .int .i64 (X + 1 + 1 + 1)) (by simpa using hm) (by omega) (by simp [R.cs])
        rw [List.set_set] at a4
        obtain ⟨a5, b5⟩ := a4.field (i := j) (c := 4) (r := mr X) (u := .bool ((X + 1 + 1 + 1 + 1) % 3 == 0)) (by simpa using hm) (by omega) (by simp [R.cs, mr])
        rw [List.set_set] at a5
        have HA := Lib.hid a5
        have HG := Lib.hid (grown_trans (grown_trans (grown_trans g2 b3) b4) b5)
        clear a3 a4 a5 b3 b4 b5
        go_wp2_with fail
        exact ⟨⟨j + 1, N.set j (mr X), by omega, by go_num, by subst hX; go_num, HA.out, HS, HG.out⟩, by simp [intOf]; omega⟩
      · obtain rfl : j = n := by omega
        go_wp2
        go_ret
        refine ⟨rfl, ?_, hgr⟩
        have := HN.out
        rw [List.take_of_length_le (by rw [hr.1]; exact Nat.le_refl _), List.take_of_length_le (by rw [markR_len]; exact Nat.le_refl _)] at this
        rw [← this]
        exact hr

set_option maxHeartbeats 3200000 in
theorem heldRecordS_any (v : Value) (n base : Nat) (x : Int) (w : World) (hrow : RowOf w base v n (markR x n)) (h0 : 0 ≤ x) (hk : x + 5 * n ≤ 1099511627776) :
    Calls Tryz.prog 20 #[v, .int .i64 x] w fun e w' => e = .returned (.int .i64 (x + 5 * n)) ∧ Below w.heap.size w w' := by
  rcases hrow.2.2 with ⟨rfl, rfl⟩ | ⟨g, cap, cur, rfl, hbg, hgg, hnc, hcm, _⟩
  · go_enter Tryz.func20, Tryz.ntmps20
    go_wp2
    refine wp_loop_rounds 1 ?_
    rw [rounds_succ]
    go_wp2
    go_ret
    exact ⟨by simp, Below.refl _ _⟩
  · unfold maxLen at hcm
    have hglt : g < w.heap.size := (Array.getElem?_eq_some_iff.1 hgg).1
    clear hgg
    have HC : Hid (∀ j, j < n → RecCells w g (j * 5) (mr (x + 5 * (j : Int)))) := fun j hj => by
      have := hrow.cells (i := j) (by rw [markR_len]; exact hj)
      rw [markR_at hj] at this
      exact this
    clear hrow
    go_enter Tryz.func20, Tryz.ntmps20
    go_wp2
    go_loopw [1, 5] (fun m i wr => ∃ j : Nat, j ≤ n ∧ i = .int .i64 j ∧ m = .int .i64 (x + 5 * j) ∧ Below w.heap.size w wr) (fun _ i _ => n - (intOf i).toNat)
    case atStart => exact ⟨0, by omega, rfl, by simp, Below.refl _ _⟩
    case round =>
      obtain ⟨j, hj, rfl, rfl, hbw⟩ := hrel
      by_cases hlt : j < n
      · have HR := Lib.hid (HC.out j hlt)
        generalize hX : x + 5 * (j : Int) = X at *
        have hX0 : 0 ≤ X := by omega
        have hX1 : X + 5 ≤ 1099511627776 := by omega
        obtain ⟨c0, c1, c2, c3, c4⟩ := HR.out.below hbw hglt
        unfold mr at c0 c1 c2 c3 c4
        have hi1 : (j : Int) < (n : Int) := by omega
        have hi0 : (0 : Int) ≤ (j : Int) := by omega
        have hgr : g < wr.heap.size := Nat.lt_of_lt_of_le hglt hbw.size
        go_wp2_with fail
        go_region_held3 (fun w' => w'.cell? ⟨g, j * 5 + 1, none⟩ = some (.string (markS (X + 1)))) (first | exact c1 | exact (hb1.cell (p := ⟨g, j * 5 + 1, none⟩) hgr).trans c1 | go_keep) (first | (go_at_call 71; refine (markText_any _ _ (by omega) (by omega)).mono ?_; rintro e w1 ⟨rfl, hb1⟩))
        have hbw1 := hbw.drew.trans (hb1.mono hbw.size)
        have hgr1 : g < w1.heap.size := Nat.lt_of_lt_of_le hglt hbw1.size
        clear c0 c1 c2 c3 c4
        obtain ⟨c0, c1, c2, c3, c4⟩ := HR.out.below hbw1 hglt
        unfold mr at c0 c1 c2 c3 c4
        go_wp2_with fail
        go_region_held3 (fun w' => w'.cell? ⟨g, j * 5 + 2, none⟩ = some (.string (markS (X + 1 + 1)))) (first | exact c2 | exact (hb2.cell (p := ⟨g, j * 5 + 2, none⟩) hgr1).trans c2 | go_keep) (first | (go_at_call 71; refine (markText_any _ _ (by omega) (by omega)).mono ?_; rintro e w2 ⟨rfl, hb2⟩))
        have hbw2 := hbw1.drew.trans (hb2.mono hbw1.size)
        clear c0 c1 c2 c3 c4
        obtain ⟨c0, c1, c2, c3, c4⟩ := HR.out.below hbw2 hglt
        unfold mr at c0 c1 c2 c3 c4
        go_wp2_with fail
        exact ⟨⟨j + 1, by omega, by go_num, by subst hX; go_num, hbw2⟩, by simp [intOf]; omega⟩
      · obtain rfl : j = n := by omega
        go_wp2
        go_ret
        exact ⟨rfl, hbw⟩
end Go.Proofs.YtciflchaepchiabGreatDoor.Recs

/- For laws over lists of records: the laws' own sizes with their sums; blocks between two numbers; two equal rows of strings. -/
namespace Go.Proofs.YtciflchaepchiabGreatDoor.Recs
set_option maxRecDepth 100000
open Go.RowKit Paths

theorem szRecord_sum (k m : Int) (p b : ByteArray) (o : Bool) (n : Nat) (w : World) (hp : p.size ≤ maxLen) (hb : b.size ≤ maxLen) (hn : n ≤ 1048576) :
    Calls Tryz.prog 61 #[.agg #[.int .i64 k, .string p, .string b, .int .i64 m, .bool o], .int .i64 n] w fun e w' => (∃ z : Int, z < 0 ∧ e = .returned (.int .i64 z) ∧ Below w.heap.size w w') ∨ ∃ z : Nat, z ≤ n ∧ e = .returned (.int .i64 z) ∧ Below w.heap.size w w' := by
  unfold maxLen at hp hb
  have hbw : Below w.heap.size w (w.alloc (.cells #[.int .i64 k, .string p, .string b, .int .i64 m, .bool o] 76)) := (Below.refl _ _).alloc (Nat.le_refl _) _
  by_cases h1 : n < p.size
  · have hd : decide ((n : Int) - (p.size : Int) < 0) = true := by simp; omega
    go_enter Tryz.func61, Tryz.ntmps61
    go_wp2_with fail
    go_ret
    exact .inl ⟨_, by omega, rfl, hbw⟩
  have hd : decide ((n : Int) - (p.size : Int) < 0) = false := by simp; omega
  by_cases h2 : n < p.size + b.size
  · have hd2 : decide ((n : Int) - (p.size : Int) - (b.size : Int) < 0) = true := by simp; omega
    go_enter Tryz.func61, Tryz.ntmps61
    go_wp2_with fail
    go_ret
    exact .inl ⟨_, by omega, rfl, hbw⟩
  have hd2 : decide ((n : Int) - (p.size : Int) - (b.size : Int) < 0) = false := by simp; omega
  have he : ((n - p.size - b.size : Nat) : Int) = (n : Int) - (p.size : Int) - (b.size : Int) := by omega
  have HE := Lib.hid he
  clear he
  go_enter Tryz.func61, Tryz.ntmps61
  go_wp2_with fail
  go_ret
  exact .inr ⟨n - p.size - b.size, by omega, ret_int HE.out.symm, hbw⟩

set_option maxHeartbeats 800000 in
theorem szRecordS_sum (v : Value) (l : List R) (n : Nat) (w : World) (h : RecSl w v l) (hlm : l.length ≤ maxLen) (hs : ∀ r ∈ l, r.p.size ≤ maxLen ∧ r.b.size ≤ maxLen) (hn : n ≤ 1048576) :
    Calls Tryz.prog 10 #[v, .int .i64 n] w fun e w' => (∃ z : Int, z < 0 ∧ e = .returned (.int .i64 z) ∧ Below w.heap.size w w') ∨ ∃ z : Nat, z + l.length ≤ n ∧ e = .returned (.int .i64 z) ∧ Below w.heap.size w w' := by
  unfold maxLen at hlm
  obtain ⟨A, cap, rfl, hcap, h⟩ := h
  have H := Lib.hid h
  clear h
  by_cases h1 : n < l.length
  · have hd : decide ((n : Int) - (l.length : Int) < 0) = true := by simp; omega
    go_enter Tryz.func10, Tryz.ntmps10
    go_wp2_with fail
    go_ret
    exact .inl ⟨_, by omega, rfl, Below.refl _ _⟩
  have hd : decide ((n : Int) - (l.length : Int) < 0) = false := by simp; omega
  go_enter Tryz.func10, Tryz.ntmps10
  go_wp2
  go_loopw [1, 5] (fun m i wr => ∃ (j z : Nat), j ≤ l.length ∧ i = .int .i64 j ∧ m = .int .i64 z ∧ z + l.length ≤ n ∧ Below w.heap.size w wr) (fun _ i _ => l.length - (intOf i).toNat)
  case atStart => exact ⟨0, n - l.length, by omega, rfl, by go_num, by omega, Below.refl _ _⟩
  case round =>
    obtain ⟨j, z, hj, rfl, rfl, hz, hbw⟩ := hrel
    by_cases hlt : j < l.length
    · obtain ⟨b, off, rfl, hb, hcell⟩ := H.out (by omega)
      obtain ⟨c0, c1, c2, c3, c4⟩ := (hcell j l[j] (by simp [hlt])).below hbw hb
      obtain ⟨s1, s2⟩ := hs l[j] (List.getElem_mem hlt)
      clear hcell
      have hi1 : (j : Int) < (l.length : Int) := by omega
      have hi0 : (0 : Int) ≤ (j : Int) := by omega
      go_wp2_with fail
      refine (szRecord_sum _ _ _ _ _ z _ s1 s2 (by omega)).mono ?_
      rintro e w1 (⟨z1, hz1, rfl, hb1⟩ | ⟨z1, hz1, rfl, hb1⟩)
      · have hd1 : decide (z1 < 0) = true := by simpa using hz1
        go_wp2_with fail
        go_ret
        exact .inl ⟨_, by omega, rfl, hbw.trans (hb1.mono hbw.size)⟩
      · have hd1 : decide ((z1 : Int) < 0) = false := by simp
        go_wp2_with fail
        go_roundw
        case rel => exact ⟨j + 1, z1, by omega, by go_num, rfl, by omega, hbw.trans (hb1.mono hbw.size)⟩
        case measure => simp [intOf]; omega
    · obtain rfl : j = l.length := by omega
      go_wp2
      go_ret
      exact .inr ⟨z, hz, rfl, hbw⟩

theorem betw_of {base top : Nat} {w w' : World} {row : Option Nat} (hg : w.grownBy w' row) (hr : ∀ k, row = some k → base ≤ k ∧ k < top) : Betw base top w w' :=
  ⟨hg.os, hg.tape, hg.output, hg.size, fun k hk hb => hg.block k hk (fun e => by have := hr k e.symm; omega)⟩
theorem Betw.recs {base top : Nat} {w w' : World} (hb : Betw base top w w') {b : Nat} {v : Value} {n : Nat} {M : List R} (h : RowOf w b v n M) (hk : ∀ k, v.ownBlock = some k → k < base ∨ top ≤ k) : RowOf w' b v n M := ⟨h.1, hb.own h.2 hk⟩

end Go.Proofs.YtciflchaepchiabGreatDoor.Recs

/- The laws' marks in a slice of nodes: written, and read again. -/
namespace Go.Proofs.YtciflchaepchiabGreatDoor.Recs
set_option maxRecDepth 100000
open Go.RowKit Paths

/-- The marks of one node, from x on. -/
def mn (x : Int) : R := ⟨x, x + 1 + 1 + 1, markS (x + 1), markS (x + 1 + 1), false⟩
def markN (x : Int) (n : Nat) : List R := (List.range n).map fun i : Nat => mn (x + 4 * (i : Int))
theorem markN_len (x : Int) (n : Nat) : (markN x n).length = n := by simp [markN]
theorem markN_at {x : Int} {n j : Nat} (h : j < n) : (markN x n)[j]'(by rw [markN_len]; exact h) = mn (x + 4 * j) := by simp [markN]

set_option maxHeartbeats 3200000 in
theorem markNodeS_any (v : Value) (n base : Nat) (M : List R) (x : Int) (w : World) (hrow : RowN w base v n M) (h0 : 0 ≤ x) (hk : x + 4 * n ≤ 1099511627776) :
    Calls Tryz.prog 19 #[v, .int .i64 x] w fun e w' => e = .returned (.int .i64 (x + 4 * n)) ∧ RowN w' base v n (markN x n) ∧ w.grownBy w' v.ownBlock := by
  rcases hrow.2.1.2 with ⟨rfl, rfl⟩ | ⟨g, cap, cur, rfl, hbg, hgg, hnc, hcm, _⟩
  · go_enter Tryz.func19, Tryz.ntmps19
    go_wp2
    refine wp_loop_rounds 1 ?_
    rw [rounds_succ]
    go_wp2
    go_ret
    exact ⟨by simp, ⟨by simp [markN], World.ownsRow_nil _ _ _ _, fun r hm => by simp [markN] at hm⟩, World.grownBy.refl _ _⟩
  · unfold maxLen at hcm
    clear hgg
    go_enter Tryz.func19, Tryz.ntmps19
    go_wp2
    go_loopw [1, 5] (fun m i wr => ∃ (j : Nat) (N : List R), j ≤ n ∧ i = .int .i64 j ∧ m = .int .i64 (x + 4 * j) ∧ RowN wr base (.slice (some ⟨g, 0, none⟩) n cap) n N ∧ Hid (N.take j = (markN x n).take j) ∧ w.grownBy wr (some g)) (fun _ i _ => n - (intOf i).toNat)
    case atStart => exact ⟨0, M, by omega, rfl, by simp, hrow, rfl, World.grownBy.refl _ _⟩
    case round =>
      obtain ⟨j, N, hj, rfl, rfl, hr, HN, hgr⟩ := hrel
      by_cases hlt : j < n
      · have hi1 : (j : Int) < (n : Int) := by omega
        have hi0 : (0 : Int) ≤ (j : Int) := by omega
        have hm : j < N.length := by rw [hr.1]; exact hlt
        have HS := Lib.hid (set_take (l := markN x n) hm (by rw [markN_len]; exact hlt) HN.out)
        rw [markN_at hlt] at HS
        generalize hX : x + 4 * (j : Int) = X at *
        have hX0 : 0 ≤ X := by omega
        have hX1 : X + 4 ≤ 1099511627776 := by omega
        obtain ⟨d0, d1, d2, d3⟩ := hr.cells hm
        have hMo := hr.2.2 N[j] (List.getElem_mem hm)
        have hf := hr.frozen
        obtain ⟨a1, b1⟩ := hr.field (i := j) (c := 0) (r := { N[j] with k := X }) (u := .int .i64 X) hm (by omega) rfl hMo
        go_wp2_with fail
        refine (markText_any _ _ (by omega) (by omega)).mono ?_
        rintro e w1 ⟨rfl, hb1⟩
        have r1 := a1.below hb1
        have g1 := grown_trans hgr (grown_trans b1 (grown_below hb1 _))
        have l1 : j < (N.set j { N[j] with k := X }).length := by simpa using hm
        obtain ⟨e0, e1, e2, e3⟩ := r1.cells l1
        have hf1 := r1.frozen
        obtain ⟨a2, b2⟩ := r1.field (i := j) (c := 1) (r := { N[j] with k := X, p := markS (X + 1) }) (u := .string (markS (X + 1))) l1 (by omega) (by simp [R.ns]) hMo
        rw [List.set_set] at a2
        clear d0 d1 d2 d3 hf a1 b1
        go_wp2_with fail
        refine (markText_any _ _ (by omega) (by omega)).mono ?_
        rintro e w2 ⟨rfl, hb2⟩
        have r2 := a2.below hb2
        have g2 := grown_trans g1 (grown_trans b2 (grown_below hb2 _))
        have l2 : j < (N.set j { N[j] with k := X, p := markS (X + 1) }).length := by simpa using hm
        clear e0 e1 e2 e3 hf1 a2 b2 r1
        obtain ⟨e0, e1, e2, e3⟩ := r2.cells l2
        have hf2 := r2.frozen
        obtain ⟨a3, b3⟩ := r2.field (i := j) (c := 2) (r := { N[j] with k := X, p := markS (X + 1), b := markS (X + 1 + 1) }) (u := .string (markS (X + 1 + 1))) l2 (by omega) (by simp [R.ns]) hMo
        rw [List.set_set] at a3
        obtain ⟨a4, b4⟩ := a3.field (i := j) (c := 3) (r := mn X) (u := .int .i64 (X + 1 + 1 + 1)) (by simpa using hm) (by omega) (by simp [R.ns, mn]) rfl
        rw [List.set_set] at a4
        have HA := Lib.hid a4
        have HG := Lib.hid (grown_trans (grown_trans g2 b3) b4)
        clear a3 a4 b3 b4
        go_wp2_with fail
        exact ⟨⟨j + 1, N.set j (mn X), by omega, by go_num, by subst hX; go_num, HA.out, HS, HG.out⟩, by simp [intOf]; omega⟩
      · obtain rfl : j = n := by omega
        go_wp2
        go_ret
        refine ⟨rfl, ?_, hgr⟩
        have := HN.out
        rw [List.take_of_length_le (by rw [hr.1]; exact Nat.le_refl _), List.take_of_length_le (by rw [markN_len]; exact Nat.le_refl _)] at this
        rw [← this]
        exact hr

end Go.Proofs.YtciflchaepchiabGreatDoor.Recs

/- For laws over stacks: the laws' own sizes with their sums; blocks between two numbers; marks in a stack. -/
namespace Go.Proofs.YtciflchaepchiabGreatDoor.Recs
set_option maxRecDepth 100000
open Go.RowKit Paths

theorem Betw.nods {base top : Nat} {w w' : World} (hb : Betw base top w w') {b : Nat} {v : Value} {n : Nat} {M : List R} (h : RowN w b v n M) (hk : ∀ k, v.ownBlock = some k → k < base ∨ top ≤ k) : RowN w' b v n M := ⟨h.1, hb.own h.2.1 hk, h.2.2⟩
/-- The rows of a stack lie from base on, below top. -/
theorem StkRow.low {w : World} {base : Nat} {v : Value} {LL : List (List R)} (h : StkRow w base v LL) : ∃ (g : Nat) (us : List Value), v = .slice (some ⟨g, 0, none⟩) LL.length LL.length ∧ us.length = LL.length ∧ g < w.heap.size ∧ (∀ (i : Nat) (u : Value), us[i]? = some u → w.cell? ⟨g, i, none⟩ = some u) ∧
    ∀ (i : Nat) (u : Value) (l : List R), us[i]? = some u → LL[i]? = some l → RowOf w base u l.length l ∧ u.ownBlock ≠ some g ∧ ∀ (j : Nat) (u' : Value), us[j]? = some u' → ∀ c, u.ownBlock = some c → u'.ownBlock = some c → i = j := by
  obtain ⟨g, us, rfl, hn, ho, h1, h2⟩ := h
  refine ⟨g, us, rfl, hn, (ho.lt g rfl).2, fun i u hi => ?_, fun i u l hi hl => ?_⟩
  · have hlt : i < us.length := (List.getElem?_eq_some_iff.1 hi).1
    have := ho.cellAt i (by omega)
    rw [hi] at this
    exact this
  · have hlt : i < LL.length := (List.getElem?_eq_some_iff.1 hl).1
    refine ⟨(h1 i u l hlt hi hl).1, (h1 i u l hlt hi hl).2, fun j u' hj c hc hc' => ?_⟩
    have hjl : j < us.length := (List.getElem?_eq_some_iff.1 hj).1
    exact h2 i j u u' c hlt (by omega) hi hj hc hc'

theorem StkRow.top {w w' : World} {base : Nat} {v : Value} {LL : List (List R)} (h : StkRow w base v LL) (hb : Below w.heap.size w w') : ∀ (g : Nat) (us : List Value), v = .slice (some ⟨g, 0, none⟩) LL.length LL.length → us.length = LL.length → (∀ (i : Nat) (u : Value), us[i]? = some u → w'.cell? ⟨g, i, none⟩ = some u) → ∀ (i : Nat) (u : Value), us[i]? = some u → ∀ c, u.ownBlock = some c → c < w.heap.size := by
  obtain ⟨g, us, rfl, hn, hgl, hcs, hrs⟩ := h.low
  intro g' us' e hn' hc' i u hi c hc
  cases e
  have hlt : i < us'.length := (List.getElem?_eq_some_iff.1 hi).1
  have h1 := hcs i (us[i]'(by omega)) (List.getElem?_eq_getElem _)
  have h2 := (hb.cell (p := ⟨g, i, none⟩) hgl).symm.trans (hc' i u hi)
  rw [h1] at h2
  cases h2
  exact ((hrs i _ _ (List.getElem?_eq_getElem (by omega)) (List.getElem?_eq_getElem (by omega))).1.2.lt c hc).2

end Go.Proofs.YtciflchaepchiabGreatDoor.Recs
