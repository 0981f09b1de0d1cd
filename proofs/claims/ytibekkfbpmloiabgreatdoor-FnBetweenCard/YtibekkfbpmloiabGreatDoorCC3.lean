/- Parts of several texts of mine in one file (each begins with its own remark). -/
import Derived.Test.YtibekkfbpmloiabGreatDoorCA4
import Derived.Test.YtibekkfbpmloiabGreatDoorCA9
import Derived.Test.YtibekkfbpmloiabGreatDoorCC2
import Derived.Test.YtibekkfbpmloiabGreatDoorChecked
import Derived.Lib.Overlaps
import Derived.Lib.AppendZerosOnto
import Derived.Laws.NewBlocks
import Derived.Laws.IdiomCopy
import Derived.Deep.RegionLaw
import Derived.BigRegion
import Derived.BigQuiet
import Derived.Laws.BytesArg
import Derived.Deep.QuietTactic
import Derived.Deep.RegionHeld3
import Derived.Deep.Draws
import Derived.Deep.LoopGhost
import Derived.WalkKit
import Derived.WalkSpells
import Derived.WalkSmall
import Derived.Lib.OthersKept
import Derived.Lib.Hide
import Derived.Lib.Strings
/- slices.Insert of one pointer into the middle of a row of pointers of the call's own, with room and without. -/
namespace Go.Proofs.YtibekkfbpmloiabGreatDoor.Recs
set_option maxRecDepth 100000
open Go.RowKit Paths

theorem brSize : (Tryz.prog.info? 146).map (·.size) = some 1 := by kernel_rfl
theorem shape_of {w : World} {g : Nat} {cur : Array Value} {e : TypeId} {fz : Nat × Nat} (h : w.heap[g]? = some (.cells cur e fz)) : w.shape? g = some (e, cur.size) := by unfold World.shape?; simp [h]
theorem cell_of {w : World} {g : Nat} {cur : Array Value} {e : TypeId} {fz : Nat × Nat} (h : w.heap[g]? = some (.cells cur e fz)) (j : Nat) : w.cell? ⟨g, j, none⟩ = cur[j]? := by unfold World.cell?; simp [h]
theorem frozen_of {w : World} {g : Nat} {cur : Array Value} {e : TypeId} (h : w.heap[g]? = some (.cells cur e (0, 0))) (j : Nat) : w.frozen? ⟨g, j, none⟩ = false := by unfold World.frozen?; simp [h]
/-- A row of n elements, in a row of more, that takes one more. -/
theorem mid_row {cur : List Value} {xs : List Value} {n i : Nat} {p : Value} (hx : cur.take n = xs) (hxl : xs.length = n) (hi : i ≤ n) (hc : n + 1 ≤ cur.length) :
    ((cur.take (i + 1) ++ xs.drop i ++ cur.drop (i + 1 + (xs.drop i).length)).take i ++ [p] ++ (cur.take (i + 1) ++ xs.drop i ++ cur.drop (i + 1 + (xs.drop i).length)).drop (i + 1)).take (n + 1) = xs.take i ++ p :: xs.drop i := by
  have hl : (cur.take (i + 1)).length = i + 1 := by rw [List.length_take]; omega
  have hd : (xs.drop i).length = n - i := by rw [List.length_drop]; omega
  have e1 : (cur.take (i + 1) ++ xs.drop i ++ cur.drop (i + 1 + (xs.drop i).length)).take i = xs.take i := by
    rw [List.append_assoc, List.take_append_of_le_length (by omega), List.take_take, Nat.min_eq_left (by omega), ← hx, List.take_take, Nat.min_eq_left hi]
  have e2 : (cur.take (i + 1) ++ xs.drop i ++ cur.drop (i + 1 + (xs.drop i).length)).drop (i + 1) = xs.drop i ++ cur.drop (i + 1 + (xs.drop i).length) := by
    rw [List.append_assoc, List.drop_append_of_le_length (by omega), List.drop_eq_nil_of_le (by omega)]
    rfl
  have h3 : (xs.take i).length = i := by rw [List.length_take]; omega
  rw [e1, e2, ← List.append_assoc, List.take_append_of_le_length (by simp only [List.length_append, List.length_cons, List.length_nil]; omega)]
  rw [List.take_of_length_le (by simp only [List.length_append, List.length_cons, List.length_nil]; omega)]
  simp

set_option maxHeartbeats 4000000 in
theorem insert_shift (base g cap n i : Nat) (cur : Array Value) (xs : List Value) (vb : Nat) (p : Value) (w : World) (hbg : base ≤ g) (hg : w.heap[g]? = some (.cells cur 146 (0, 0))) (hcs : cur.size = cap) (hx : cur.toList.take n = xs)
    (hxl : xs.length = n) (hi : i < n) (hroom : n + 1 ≤ cap) (hcm : cap ≤ maxLen) (hv : w.heap[vb]? = some (.cells #[p] 146 (0, 0))) (hne : vb ≠ g) (hp : p.oneCell' = true) (h1 : ∀ u ∈ xs, u.oneCell' = true) :
    Calls Tryz.prog 210 #[.slice (some ⟨g, 0, none⟩) n cap, .int .i64 i, .slice (some ⟨vb, 0, none⟩) 1 1] w (InsPost base (.slice (some ⟨g, 0, none⟩) n cap) n (xs.take i ++ p :: xs.drop i) w) := by
  have hdl : (xs.drop i).length = n - i := by rw [List.length_drop, hxl]
  have hsz : cur.toList.length = cap := by simpa using hcs
  have HP : Hid (InsPost base (.slice (some ⟨g, 0, none⟩) n cap) n (xs.take i ++ p :: xs.drop i) w (.returned (.slice (some ⟨g, 0, none⟩) (n + 1) cap)) ((w.drew.setCells g (i + 1) (xs.drop i)).setCells g i [p])) := by
    refine ⟨_, rfl, ⟨by simp; omega, .inr ⟨g, cap, _, rfl, hbg, setCells_at g [p] i _ _ (setCells_at g (xs.drop i) (i + 1) w.drew cur hg), hroom, hcm, by rw [putA_size, putA_size, hcs]; omega, ?_⟩⟩,
      grown_trans (drew_grown w _) (grown_trans (setCells_grown g _ _ _) (setCells_grown g _ _ _)), .inl rfl⟩
    rw [putA_list _ _ _ (by rw [putA_size]; simp; omega), putA_list _ _ _ (by omega), Nat.mul_one]
    exact mid_row hx hxl (by omega) (by omega)
  have hcell : ∀ j, w.cell? ⟨g, j, none⟩ = cur[j]? := cell_of hg
  have hcellx : ∀ j v, xs[j]? = some v → w.cell? ⟨g, j, none⟩ = some v := fun j v hj => by
    rw [hcell, ← hj, ← hx, List.getElem?_take, if_pos (by have := (List.getElem?_eq_some_iff.1 hj).1; omega)]
    simp
  have hsp : ∀ j, j < n + 1 → (w.cell? ⟨g, j, none⟩).isSome = true := fun j hj => by
    rw [hcell, Array.getElem?_eq_getElem (by omega)]; rfl
  have hfz : ∀ j, w.frozen? ⟨g, j, none⟩ = false := frozen_of hg
  have hov : ∀ lb cb, (callFunc 222 #[.slice (some ⟨vb, 0, none⟩) 1 1, .slice (some ⟨g, i + 1, none⟩) lb cb]).run Tryz.prog w = .ok (.value (.bool false)) w := fun lb cb => by
    rw [run_callFunc_extern Tryz.func222 (by kernel_rfl) (by kernel_rfl) (by kernel_rfl) (e := Extern.SlicesOverlaps.overlaps #[195, 195] #[4]) (by kernel_rfl),
      Lib.run_overlaps_apart w 195 4 146 Tryz.underlying195 1 (fun _ => by kernel_rfl) ⟨vb, 0, none⟩ ⟨g, i + 1, none⟩ 1 1 lb cb hne 146 146 1 cap (shape_of hv) (by rw [shape_of hg, hcs]) (by omega) (frozen_of hv _) (frozen_of hv _)]
    rfl
  have hcp1 : ∀ ty dc sc, (Builtin.copy_ #[195, 195] ty #[.slice (some ⟨g, i + 1, none⟩) (n - i) dc, .slice (some ⟨g, i, none⟩) (n + 1 - i) sc]).run Tryz.prog w.drew = .ok (goInt (xs.drop i).length) (w.drew.setCells g (i + 1) (xs.drop i)) := fun ty dc sc =>
    run_copy_cells w.drew _ _ ty 146 g (i + 1) (n - i) dc ⟨g, i, none⟩ (n + 1 - i) sc (xs.drop i) Tryz.underlying195 brSize (by rw [hdl]; simp only [Nat.min_def]; split <;> omega)
      (fun j v hj => by rw [Addr.add_lit]; exact hcellx (i + j) v (by rwa [List.getElem?_drop] at hj))
      (fun j hj => hsp _ (by omega)) (fun j hj => hfz _) (fun v hv => h1 v (List.mem_of_mem_drop hv))
  obtain ⟨W1, hW1⟩ : ∃ W1, W1 = w.drew.setCells g (i + 1) (xs.drop i) := ⟨_, rfl⟩
  have hb1 : W1.heap[g]? = some (.cells (putA cur (i + 1) (xs.drop i)) 146 (0, 0)) := by rw [hW1]; exact setCells_at g (xs.drop i) (i + 1) w.drew cur hg
  have hv1 : W1.heap[vb]? = some (.cells #[p] 146 (0, 0)) := by
    rw [hW1, (setCells_grown g (xs.drop i) (i + 1) w.drew).block vb (Array.getElem?_eq_some_iff.1 hv).1 (by simpa using hne)]
    exact hv
  have hcp2 : ∀ ty dc, (Builtin.copy_ #[195, 195] ty #[.slice (some ⟨g, i, none⟩) (n + 1 - i) dc, .slice (some ⟨vb, 0, none⟩) 1 1]).run Tryz.prog W1 = .ok (goInt [p].length) (W1.setCells g i [p]) := fun ty dc =>
    run_copy_cells W1 _ _ ty 146 g i (n + 1 - i) dc ⟨vb, 0, none⟩ 1 1 [p] Tryz.underlying195 brSize (by simp only [Nat.min_def, List.length_cons, List.length_nil]; split <;> omega)
      (fun j v hj => by
        rw [Addr.add_lit, cell_of hv1]
        match j, hj with
        | 0, hj => cases hj; rfl
        | j + 1, hj => simp at hj)
      (fun j hj => by rw [cell_of hb1, Array.getElem?_eq_getElem (by rw [putA_size]; simp at hj; omega)]; rfl) (fun j _ => frozen_of hb1 _) (by simpa using hp)
  rw [← hW1] at hcp1 HP
  unfold maxLen at hcm
  have hw1 : IntKind.i64.wrap ((i : Int) + 1) = (i : Int) + 1 := by rw [IntKind.wrap_i64]; omega
  have hw2 : IntKind.i64.wrap ((n : Int) + 1) = (n : Int) + 1 := by rw [IntKind.wrap_i64]; omega
  have hz2 : ¬ ((i : Int) = (n : Int)) := by omega
  have hq1 : (0 : Int) ≤ (i : Int) + 1 := by omega
  have hin : i ≤ n := by omega
  have htn : ((i : Int) + 1).toNat = i + 1 := by omega
  have hb2 : ¬ (cap = i + 1) := by omega
  have hb3 : (i : Int) ≤ (n : Int) + 1 := by omega
  have hb4 : ¬ (cap = i) := by omega
  clear hW1 hcell hcellx hsp hfz hdl hsz hx hxl hcs hg hv hb1 hv1 h1
  go_enter Tryz.func210, Tryz.ntmps210
  go_wp2_with (simp only [hov])
  go_region_law (refine step_copy_known rfl _ _ 195 195 rfl _ _ (by simp [Act.eval, Act.put]) (by simp [Act.eval, Act.put]) (hcp1 _ _ _) ?_)
  go_wp2_with (at_builtin; refine wpList_copy_known _ rfl _ _ 195 195 rfl _ _ rfl rfl (hcp2 _ _) ?_)
  go_ret
  exact HP.out
end Go.Proofs.YtibekkfbpmloiabGreatDoor.Recs

/- slices.Insert of one pointer into a row of pointers of the call's own: without room in the middle; all ways together. -/
namespace Go.Proofs.YtibekkfbpmloiabGreatDoor.Recs
set_option maxRecDepth 100000
open Go.RowKit Paths

theorem zeros_len (z : Value) (hz : z.cells = #[z]) (k : Nat) : (Builtin.zeroCells z.cells k).size = k := by rw [size_zeroCells, hz]; simp
theorem grow_row {xs row : List Value} {n i k : Nat} {p : Value} (hxl : xs.length = n) (hi : i ≤ n) (hr : row.take i = xs.take i) (hl : row.length = n + 1 + k) :
    (((row.take i ++ [p] ++ row.drop (i + [p].length)).take (i + 1) ++ xs.drop i ++ (row.take i ++ [p] ++ row.drop (i + [p].length)).drop (i + 1 + (xs.drop i).length))).take (n + 1) = xs.take i ++ p :: xs.drop i := by
  have h3 : (xs.take i).length = i := by rw [List.length_take]; omega
  have hd : (xs.drop i).length = n - i := by rw [List.length_drop]; omega
  rw [hr]
  have e1 : (xs.take i ++ [p] ++ row.drop (i + [p].length)).take (i + 1) = xs.take i ++ [p] := by
    rw [List.take_append_of_le_length (by simp only [List.length_append, List.length_cons, List.length_nil]; omega)]
    exact List.take_of_length_le (by simp only [List.length_append, List.length_cons, List.length_nil]; omega)
  rw [e1, List.take_append_of_le_length (by simp only [List.length_append, List.length_cons, List.length_nil]; omega)]
  rw [List.take_of_length_le (by simp only [List.length_append, List.length_cons, List.length_nil]; omega)]
  simp

set_option maxHeartbeats 4000000 in
theorem insert_grow (base g cap n i : Nat) (cur : Array Value) (xs : List Value) (vb : Nat) (p : Value) (w : World) (hb : base ≤ w.heap.size) (hg : w.heap[g]? = some (.cells cur 146 (0, 0))) (hx : cur.toList.take n = xs)
    (hxl : xs.length = n) (hi : i < n) (hn : n ≤ 1000) (hnc : n ≤ cap) (hroom : cap < n + 1) (hv : w.heap[vb]? = some (.cells #[p] 146 (0, 0))) (hp : p.oneCell' = true) (h1 : ∀ u ∈ xs, u.oneCell' = true) :
    Calls Tryz.prog 210 #[.slice (some ⟨g, 0, none⟩) n cap, .int .i64 i, .slice (some ⟨vb, 0, none⟩) 1 1] w (InsPost base (.slice (some ⟨g, 0, none⟩) n cap) n (xs.take i ++ p :: xs.drop i) w) := by
  obtain ⟨i0, hi0, hz0, hzs, hzb⟩ := info_parts brInfo
  have hdl : (xs.drop i).length = n - i := by rw [List.length_drop, hxl]
  have hgw : g < w.heap.size := (Array.getElem?_eq_some_iff.1 hg).1
  have hvw : vb < w.heap.size := (Array.getElem?_eq_some_iff.1 hv).1
  have hcell : ∀ j, w.cell? ⟨g, j, none⟩ = cur[j]? := cell_of hg
  have hcellx : ∀ j v, xs[j]? = some v → w.cell? ⟨g, j, none⟩ = some v := fun j v hj => by
    rw [hcell, ← hj, ← hx, List.getElem?_take, if_pos (by have := (List.getElem?_eq_some_iff.1 hj).1; omega)]
    simp
  have hkk : (n : Int) + 1 - (i : Int) = ((n + 1 - i : Nat) : Int) := by omega
  have hik : i + (n + 1 - i) = n + 1 := by omega
  have hold : (Builtin.firstCells i0.size i (.slice (some ⟨g, 0, none⟩) i cap)).run Tryz.prog w.drew = .ok (xs.take i).toArray w.drew := by
    rw [hzs]
    exact run_firstCells_some w.drew 1 i ⟨g, 0, none⟩ i cap (xs.take i) (by rw [List.length_take]; omega) (fun j v hj => by
      rw [Addr.add_lit]
      rw [List.getElem?_take] at hj
      split at hj
      · rw [Nat.zero_add]; exact hcellx j v hj
      · cases hj)
  obtain ⟨G, hG⟩ : ∃ G, G = grownCap w (n + 1) cap 146 := ⟨_, rfl⟩
  obtain ⟨ROW, hROW⟩ : ∃ ROW : Array Value, ROW = (xs.take i).toArray ++ Builtin.zeroCells (Value.pointer none).cells (n + 1 - i) ++ Builtin.zeroCells (Value.pointer none).cells (G - (n + 1)) := ⟨_, rfl⟩
  have hrz : ∀ ty, (Builtin.append_ #[195, 3] ty #[.slice (some ⟨g, 0, none⟩) i cap, .int .i64 ((n : Int) + 1 - (i : Int))]).run Tryz.prog w =
      .ok (.slice (some ⟨w.heap.size, 0, none⟩) (n + 1) G) (w.drew.alloc (.cells ROW 146)) := fun ty => by
    have h := Lib.run_append_grow_zeros w 195 3 ty 146 i0 _ .i64 .i64 Tryz.underlying195 Tryz.underlying3 hi0 hz0 (some ⟨g, 0, none⟩) i cap (xs.take i) hold (n + 1 - i) (by omega) (by omega) (by omega) (by omega) (by rw [hzb]; omega) (by rw [hzb, hik]; exact growslice_fits hroom (by omega))
    rw [hik, ← hG, ← hROW] at h
    rw [hkk]
    exact h
  have hGn : n + 1 ≤ G := by rw [hG]; exact grownCap_ge w _ _ _
  have hGm : G ≤ maxLen := by rw [hG]; exact grownCap_le_maxLen w (n + 1) cap _ (by unfold maxLen; omega)
  have hRs : ROW.size = G := by
    rw [hROW]
    simp only [Array.size_append, List.size_toArray, List.length_take, zeros_len (Value.pointer none) rfl]
    omega
  have hRt : ROW.toList.take i = xs.take i := by
    have h3 : (xs.take i).length = i := by rw [List.length_take]; omega
    rw [hROW]
    simp only [Array.toList_append]
    rw [List.append_assoc, List.take_append_of_le_length (by omega), List.take_of_length_le (by omega)]
  have HP : Hid (InsPost base (.slice (some ⟨g, 0, none⟩) n cap) n (xs.take i ++ p :: xs.drop i) w (.returned (.slice (some ⟨w.heap.size, 0, none⟩) (n + 1) G)) (((w.alloc (.cells ROW 146)).drew.setCells w.heap.size i [p]).drew.setCells w.heap.size (i + 1) (xs.drop i))) := by
    have b0 : (w.alloc (.cells ROW 146)).drew.heap[w.heap.size]? = some (.cells ROW 146 (0, 0)) := alloc_at w _
    have b1 := setCells_at w.heap.size [p] i _ _ b0
    have b2 : ((w.alloc (.cells ROW 146)).drew.setCells w.heap.size i [p]).drew.heap[w.heap.size]? = _ := b1
    have b3 := setCells_at w.heap.size (xs.drop i) (i + 1) _ _ b2
    have other : ∀ k, k < w.heap.size → (((w.alloc (.cells ROW 146)).drew.setCells w.heap.size i [p]).drew.setCells w.heap.size (i + 1) (xs.drop i)).heap[k]? = w.heap[k]? := fun k hk => by
      have s1 := setCells_grown w.heap.size (xs.drop i) (i + 1) ((w.alloc (.cells ROW 146)).drew.setCells w.heap.size i [p]).drew
      have s2 := setCells_grown w.heap.size [p] i (w.alloc (.cells ROW 146)).drew
      have z2 : k < (w.alloc (.cells ROW 146)).drew.heap.size := by simp; omega
      have ne : some k ≠ some w.heap.size := by simp; omega
      rw [s1.block k (Nat.lt_of_lt_of_le z2 s2.size) ne]
      refine (s2.block k z2 ne).trans ?_
      exact Below.heap_alloc w _ k hk
    have zz : w.heap.size ≤ (((w.alloc (.cells ROW 146)).drew.setCells w.heap.size i [p]).drew.setCells w.heap.size (i + 1) (xs.drop i)).heap.size := by
      have s1 := (setCells_grown w.heap.size (xs.drop i) (i + 1) ((w.alloc (.cells ROW 146)).drew.setCells w.heap.size i [p]).drew).size
      have s2 := (setCells_grown w.heap.size [p] i (w.alloc (.cells ROW 146)).drew).size
      simp at s1 s2 ⊢
      omega
    have os : ∀ (v : World) (o : Nat) (vs : List Value), (v.setCells w.heap.size o vs).os = v.os ∧ (v.setCells w.heap.size o vs).tape = v.tape ∧ (v.setCells w.heap.size o vs).output = v.output := fun v o vs => ⟨(setCells_grown _ vs o v).os, (setCells_grown _ vs o v).tape, (setCells_grown _ vs o v).output⟩
    refine ⟨_, rfl, ⟨by simp; omega, .inr ⟨w.heap.size, G, _, rfl, hb, b3, hGn, hGm, by rw [putA_size, putA_size, hRs]; omega, ?_⟩⟩,
      ⟨(os _ _ _).1.trans ((os _ _ _).1), (os _ _ _).2.1.trans ((os _ _ _).2.1), (os _ _ _).2.2.trans ((os _ _ _).2.2), zz, fun k hk _ => other k hk⟩, .inr rfl⟩
    rw [putA_list _ _ _ (by rw [putA_size, hRs]; omega), putA_list _ _ _ (by rw [hRs]; simp; omega), Nat.mul_one]
    exact grow_row (k := G - (n + 1)) hxl (by omega) hRt (by simp [hRs]; omega)
  obtain ⟨W1, hW1⟩ : ∃ W1, W1 = (w.alloc (.cells ROW 146)).drew := ⟨_, rfl⟩
  have hr1 : W1.heap[w.heap.size]? = some (.cells ROW 146 (0, 0)) := by rw [hW1]; exact alloc_at w _
  have hv1 : W1.heap[vb]? = some (.cells #[p] 146 (0, 0)) := by rw [hW1]; exact (Below.heap_alloc w _ vb hvw).trans hv
  have hg1 : W1.heap[g]? = some (.cells cur 146 (0, 0)) := by rw [hW1]; exact (Below.heap_alloc w _ g hgw).trans hg
  have hcpA : ∀ (ty : TypeId) (dc : Nat), (Builtin.copy_ #[195, 195] ty #[.slice (some ⟨w.heap.size, i, none⟩) (n + 1 - i) dc, .slice (some ⟨vb, 0, none⟩) 1 1]).run Tryz.prog W1 = .ok (goInt [p].length) (W1.setCells w.heap.size i [p]) := fun ty dc =>
    run_copy_cells W1 _ _ ty 146 w.heap.size i (n + 1 - i) dc ⟨vb, 0, none⟩ 1 1 [p] Tryz.underlying195 brSize (by simp only [Nat.min_def, List.length_cons, List.length_nil]; split <;> omega)
      (fun j v hj => by
        rw [Addr.add_lit, cell_of hv1]
        match j, hj with
        | 0, hj => cases hj; rfl
        | j + 1, hj => simp at hj)
      (fun j hj => by rw [cell_of hr1, Array.getElem?_eq_getElem (by rw [hRs]; simp at hj; omega)]; rfl) (fun j _ => frozen_of hr1 _) (by simpa using hp)
  obtain ⟨W2, hW2⟩ : ∃ W2, W2 = (W1.setCells w.heap.size i [p]).drew := ⟨_, rfl⟩
  have hr2 : W2.heap[w.heap.size]? = some (.cells (putA ROW i [p]) 146 (0, 0)) := by rw [hW2]; exact setCells_at w.heap.size [p] i _ _ hr1
  have hg2 : W2.heap[g]? = some (.cells cur 146 (0, 0)) := by
    rw [hW2]
    exact ((setCells_grown w.heap.size [p] i W1).block g (Array.getElem?_eq_some_iff.1 hg1).1 (by simp; omega)).trans hg1
  have hcellx2 : ∀ j v, xs[j]? = some v → W2.cell? ⟨g, j, none⟩ = some v := fun j v hj => by
    rw [cell_of hg2, ← hj, ← hx, List.getElem?_take, if_pos (by have := (List.getElem?_eq_some_iff.1 hj).1; omega)]
    simp
  have hcpB : ∀ (ty : TypeId) (dc sc : Nat), (Builtin.copy_ #[195, 195] ty #[.slice (some ⟨w.heap.size, i + 1, none⟩) (n - i) dc, .slice (some ⟨g, i, none⟩) (n - i) sc]).run Tryz.prog W2 = .ok (goInt (xs.drop i).length) (W2.setCells w.heap.size (i + 1) (xs.drop i)) := fun ty dc sc =>
    run_copy_cells W2 _ _ ty 146 w.heap.size (i + 1) (n - i) dc ⟨g, i, none⟩ (n - i) sc (xs.drop i) Tryz.underlying195 brSize (by rw [hdl]; simp only [Nat.min_def]; split <;> omega)
      (fun j v hj => by rw [Addr.add_lit]; exact hcellx2 (i + j) v (by rwa [List.getElem?_drop] at hj))
      (fun j hj => by rw [cell_of hr2, Array.getElem?_eq_getElem (by rw [putA_size, hRs]; omega)]; rfl) (fun j _ => frozen_of hr2 _) (fun v hv => h1 v (List.mem_of_mem_drop hv))
  have hz2 : ¬ ((i : Int) = (n : Int)) := by omega
  have hz3 : (cap : Int) < (n : Int) + 1 := by omega
  have hG63 : G ≤ 9223372036854775807 := by unfold maxLen at hGm; omega
  have hGi : ¬ (G = i) := by omega
  have hGim : ¬ (G = i + 1) := by omega
  have hci : ¬ (cap = i) := by omega
  have hw1 : IntKind.i64.wrap ((i : Int) + 1) = (i : Int) + 1 := by rw [IntKind.wrap_i64]; omega
  have hq1 : (0 : Int) ≤ (i : Int) + 1 := by omega
  have hin : i ≤ n := by omega
  have htn : ((i : Int) + 1).toNat = i + 1 := by omega
  have hb3 : (i : Int) ≤ (n : Int) := by omega
  have hcapi : i ≤ cap := by omega
  have hrz' : ∀ ty, (Builtin.append_ #[195, 3] ty #[.slice (some ⟨g, 0, none⟩) i cap, .int .i64 ((n : Int) + 1 - (i : Int))]).run Tryz.prog w = .ok (.slice (some ⟨w.heap.size, 0, none⟩) (n + 1) G) (w.drew.alloc (.cells ROW 146)) := hrz
  have hE : w.drew.alloc (.cells ROW 146) = (w.alloc (.cells ROW 146)).drew := rfl
  rw [hE, ← hW1] at hrz'
  rw [← hW1] at HP
  rw [← hW2] at HP
  clear hkk hik hold hROW hG hcell hcellx hcellx2 hrz hE hW1 hr1 hv1 hg1 hr2 hg2 hx hxl hg hv hRs hRt hdl h1
  go_enter Tryz.func210, Tryz.ntmps210
  go_wp2_with (first
    | (at_builtin; refine Lib.wpList_append_run _ rfl _ _ _ _ rfl _ _ rfl rfl _ _ (hrz' _) ?_)
    | (at_builtin; refine wpList_copy_known _ rfl _ _ 195 195 rfl _ _ rfl rfl (hcpA _ _) ?_))
  subst hW2
  go_region_law (refine step_copy_known rfl _ _ 195 195 rfl (.slice (some ⟨w.heap.size, i + 1, none⟩) (n - i) (G - (i + 1))) (.slice (some ⟨g, i, none⟩) (n - i) (cap - i)) (by simp [Act.eval, Act.put]) (by simp [Act.eval, Act.put]) (hcpB 3 (G - (i + 1)) (cap - i)) ?_)
  go_wp2
  go_ret
  exact HP.out

/-- All ways. -/
theorem insert_any (base : Nat) (v : Value) (n i : Nat) (xs : List Value) (vb : Nat) (p : Value) (w : World) (hown : w.ownsRow base 146 1 v n xs) (hi : i ≤ n) (hn : n ≤ 1000) (hv : w.heap[vb]? = some (.cells #[p] 146 (0, 0))) (hne : v.ownBlock ≠ some vb) (hp : p.oneCell' = true) (h1 : ∀ u ∈ xs, u.oneCell' = true) (hb : base ≤ w.heap.size) :
    Calls Tryz.prog 210 #[v, .int .i64 i, .slice (some ⟨vb, 0, none⟩) 1 1] w (InsPost base v n (xs.take i ++ p :: xs.drop i) w) := by
  have hxl : xs.length = n := by have := hown.1; omega
  rcases Nat.eq_or_lt_of_le hi with rfl | hlt
  · rw [List.take_of_length_le (by omega), List.drop_eq_nil_of_le (by omega)]
    exact insert_end base v i xs vb p w hown hn hv hp hb
  · rcases hown.2 with ⟨_, h0⟩ | ⟨g, cap, cur, rfl, hbg, hg, hnc, hcm, hcs, hx⟩
    · omega
    · rw [Nat.mul_one] at hx
      by_cases hroom : n + 1 ≤ cap
      · exact insert_shift base g cap n i cur xs vb p w hbg hg (by omega) hx hxl hlt hroom hcm hv (fun e => hne (by rw [e]; rfl)) hp h1
      · exact insert_grow base g cap n i cur xs vb p w hb hg hx hxl hlt hn hnc (by omega) hv hp h1
end Go.Proofs.YtibekkfbpmloiabGreatDoor.Recs
