/- Several texts of mine in one file (each begins with its own remark). -/
import Derived.Test.YtcbmnihepeefaaaDoorBun4
import Derived.Test.YtcbmnihepeefaaaDoorBun1
import Derived.Test.YtcbmnihepeefaaaDoorBun2
import Derived.BigQuiet
import Derived.BigRegion
import Derived.Deep.QuietTactic
import Derived.Deep.RegionHeld3
import Derived.Laws.OwnMore
import Derived.StillTailTactics
import Derived.Stop.LaidErr
/- Layers: the place of a path, the first fault: the model's side. -/

namespace Go.Proofs.YtcbmnihepeefaaaDoor.Recs
set_option maxRecDepth 100000
open Go.RowKit Paths

theorem str_eq_of {a b : ByteArray} (h : (a.toList == b.toList) = true) : a = b := by
  have := eq_of_beq h
  rw [Lib.toList_data, Lib.toList_data] at this
  exact ByteArray.ext (Array.toList_inj.1 this)

set_option maxHeartbeats 400000 in
theorem l03At_any (v : Value) (l : List R) (q : ByteArray) (w : World) (h : RecSl w v l) (hl : l.length ≤ 1048576) :
    Calls Tryd.prog 52 #[v, .string q] w fun e w' => e = .returned (.int .i64 (atL l q)) ∧ w = w' := by
  obtain ⟨A, cap, rfl, hcap, h⟩ := h
  have H := Lib.hid h
  clear h
  go_enter Tryd.func52, Tryd.ntmps52
  go_wp2
  go_loop [5] (fun i => ∃ k : Nat, k ≤ l.length ∧ i = .int .i64 k ∧ Hid (atL l q = atFrom (l.drop k) k q)) (fun i => l.length - (intOf i).toNat)
  case atStart => exact ⟨0, by omega, rfl, rfl⟩
  case round =>
    obtain ⟨k, hk, rfl, HK⟩ := hrel
    by_cases hlt : k < l.length
    · obtain ⟨b, off, rfl, hb, hcell⟩ := H.out (by omega)
      obtain ⟨_, hc1, _⟩ := hcell k l[k] (by simp [hlt])
      have HS := Lib.hid (HK.out.trans (atFrom_step hlt q))
      clear hcell HK
      have hi1 : (k : Int) < (l.length : Int) := by omega
      have hi0 : (0 : Int) ≤ (k : Int) := by omega
      rcases Bool.eq_false_or_eq_true (l[k].p.toList == q.toList) with he | he
      · have HE : Hid (atL l q = k) := by show _ = _; rw [HS.out, if_pos (str_eq_of he)]
        go_wp2
        go_ret
        exact ⟨ret_int HE.out.symm, rfl⟩
      · have HE : Hid (atL l q = atFrom (l.drop (k + 1)) (k + 1) q) := by show _ = _; rw [HS.out, if_neg (fun e => by rw [e] at he; simp at he)]
        go_wp2
        exact ⟨⟨k + 1, by omega, by go_num, HE⟩, by simp [intOf]; omega⟩
    · have HE := Lib.hid (HK.out.trans (atFrom_end (by omega) q))
      go_wp2
      go_ret
      exact ⟨ret_int HE.out.symm, rfl⟩
end Go.Proofs.YtcbmnihepeefaaaDoor.Recs

/- Slices of records in memory of their own: what is written into one; the laws' own size, copy and comparison of such slices. -/

namespace Go.Proofs.YtcbmnihepeefaaaDoor.Recs
set_option maxRecDepth 100000
open Go.RowKit Paths

/-- A record's five cells. -/
def R.cs (r : R) : List Value := [.int .i64 r.k, .string r.p, .string r.b, .int .i64 r.m, .bool r.o]
def flat (l : List R) : List Value := l.flatMap R.cs
theorem flat_len (l : List R) : (flat l).length = l.length * 5 := by
  induction l with
  | nil => rfl
  | cons r t ih => simp only [flat, List.flatMap_cons, List.length_append, List.length_cons] at ih ⊢; rw [ih]; simp [R.cs]; omega
theorem flat_get : ∀ (l : List R) (j : Nat), (flat l)[j]? = (l[j / 5]?).bind fun r => r.cs[j % 5]?
  | [], j => by simp [flat]
  | r :: t, j => by
    have ih := flat_get t (j - 5)
    by_cases hj : j < 5
    · have e1 : j / 5 = 0 := by omega
      have e2 : j % 5 = j := by omega
      rw [e1, e2]
      simp only [flat, List.flatMap_cons]
      rw [List.getElem?_append_left (by simp [R.cs]; omega)]
      simp
    · have e1 : j / 5 = (j - 5) / 5 + 1 := by omega
      have e2 : j % 5 = (j - 5) % 5 := by omega
      rw [e1, e2]
      simp only [flat, List.flatMap_cons]
      rw [List.getElem?_append_right (by simp [R.cs]; omega)]
      simp only [R.cs, List.length_cons, List.length_nil]
      exact ih
theorem flat_field {M : List R} {i c : Nat} {r : R} {u : Value} (hi : i < M.length) (hc : c < 5) (h : r.cs = M[i].cs.set c u) : flat (M.set i r) = (flat M).set (i * 5 + c) u := by
  apply List.ext_getElem?
  intro j
  rw [flat_get, List.getElem?_set, List.getElem?_set, flat_len, flat_get]
  by_cases hj : i = j / 5
  · rw [if_pos hj, if_pos (by omega)]
    simp only [Option.bind_some]
    rw [h, List.getElem?_set]
    by_cases hk : c = j % 5
    · rw [if_pos hk, if_pos (by simp [R.cs]; omega), if_pos (by omega), if_pos (by omega)]
    · rw [if_neg hk, if_neg (by omega), ← hj, List.getElem?_eq_getElem hi]
      rfl
  · rw [if_neg hj, if_neg (by omega)]

/-- A slice in memory of its own that holds the records M. -/
def RowOf (w : World) (base : Nat) (v : Value) (n : Nat) (M : List R) : Prop := M.length = n ∧ w.ownsRow base 45 5 v n (flat M)
theorem RowOf.below {w w' : World} {base : Nat} {v : Value} {n : Nat} {M : List R} (h : RowOf w base v n M) (hb : Below w.heap.size w w') : RowOf w' base v n M := ⟨h.1, own_below h.2 hb⟩
theorem RowOf.sl {w : World} {base : Nat} {v : Value} {n : Nat} {M : List R} (h : RowOf w base v n M) : RecSl w v M := by
  obtain ⟨rfl, h⟩ := h
  rcases h.2 with ⟨rfl, hn⟩ | ⟨g, cap, cur, rfl, hb, hg, hc, _⟩
  · exact ⟨none, 0, by rw [hn], by omega, fun h => by omega⟩
  · refine ⟨_, cap, rfl, hc, fun _ => ⟨g, 0, rfl, (Array.getElem?_eq_some_iff.1 hg).1, fun i r hi => ?_⟩⟩
    have hlt : i < M.length := (List.getElem?_eq_some_iff.1 hi).1
    have one : ∀ c, c < 5 → w.cell? ⟨g, i * 5 + c, none⟩ = r.cs[c]? := fun c hc => by
      rw [h.cellAt (i * 5 + c) (by omega), flat_get]
      have e1 : (i * 5 + c) / 5 = i := by omega
      have e2 : (i * 5 + c) % 5 = c := by omega
      rw [e1, e2, hi]
      rfl
    rw [Nat.zero_add]
    exact ⟨one 0 (by omega), one 1 (by omega), one 2 (by omega), one 3 (by omega), one 4 (by omega)⟩
theorem RowOf.field {w : World} {base g cap n : Nat} {M : List R} {i c : Nat} {r : R} {u : Value} (h : RowOf w base (.slice (some ⟨g, 0, none⟩) n cap) n M) (hi : i < M.length) (hc : c < 5) (hr : r.cs = M[i].cs.set c u) :
    RowOf (w.setCell ⟨g, i * 5 + c, none⟩ u) base (.slice (some ⟨g, 0, none⟩) n cap) n (M.set i r) ∧ w.grownBy (w.setCell ⟨g, i * 5 + c, none⟩ u) (some g) := by
  obtain ⟨h1, h2⟩ := h.2.stored (i * 5 + c) u
  exact ⟨⟨by rw [List.length_set]; exact h.1, by rw [flat_field hi hc hr]; exact h1⟩, h2⟩
theorem RowOf.frozen {w : World} {base g cap n : Nat} {M : List R} (h : RowOf w base (.slice (some ⟨g, 0, none⟩) n cap) n M) (j : Nat) : w.frozen? ⟨g, j, none⟩ = false := h.2.frozenAt j
theorem RowOf.cells {w : World} {base g cap n : Nat} {M : List R} (h : RowOf w base (.slice (some ⟨g, 0, none⟩) n cap) n M) {i : Nat} (hi : i < M.length) : RecCells w g (i * 5) M[i] := by
  have one : ∀ c, c < 5 → w.cell? ⟨g, i * 5 + c, none⟩ = M[i].cs[c]? := fun c hc => by
    rw [h.2.cellAt (i * 5 + c) (by rw [← h.1]; omega), flat_get]
    have e1 : (i * 5 + c) / 5 = i := by omega
    have e2 : (i * 5 + c) % 5 = c := by omega
    rw [e1, e2, List.getElem?_eq_getElem hi]
    rfl
  exact ⟨one 0 (by omega), one 1 (by omega), one 2 (by omega), one 3 (by omega), one 4 (by omega)⟩
/-- A whole record written. -/
theorem RowOf.store {w : World} {base g cap n : Nat} {M : List R} {i : Nat} (r : R) (h : RowOf w base (.slice (some ⟨g, 0, none⟩) n cap) n M) (hi : i < M.length) :
    RowOf (((((w.setCell ⟨g, i * 5, none⟩ (.int .i64 r.k)).setCell ⟨g, i * 5 + 1, none⟩ (.string r.p)).setCell ⟨g, i * 5 + 2, none⟩ (.string r.b)).setCell ⟨g, i * 5 + 3, none⟩ (.int .i64 r.m)).setCell ⟨g, i * 5 + 4, none⟩ (.bool r.o)) base (.slice (some ⟨g, 0, none⟩) n cap) n (M.set i r) ∧
    w.grownBy (((((w.setCell ⟨g, i * 5, none⟩ (.int .i64 r.k)).setCell ⟨g, i * 5 + 1, none⟩ (.string r.p)).setCell ⟨g, i * 5 + 2, none⟩ (.string r.b)).setCell ⟨g, i * 5 + 3, none⟩ (.int .i64 r.m)).setCell ⟨g, i * 5 + 4, none⟩ (.bool r.o)) (some g) := by
  obtain ⟨a1, b1⟩ := h.field (i := i) (c := 0) (r := { M[i] with k := r.k }) (u := .int .i64 r.k) hi (by omega) rfl
  obtain ⟨a2, b2⟩ := a1.field (i := i) (c := 1) (r := { M[i] with k := r.k, p := r.p }) (u := .string r.p) (by simpa using hi) (by omega) (by simp [R.cs])
  obtain ⟨a3, b3⟩ := a2.field (i := i) (c := 2) (r := { M[i] with k := r.k, p := r.p, b := r.b }) (u := .string r.b) (by simpa using hi) (by omega) (by simp [R.cs])
  obtain ⟨a4, b4⟩ := a3.field (i := i) (c := 3) (r := { M[i] with k := r.k, p := r.p, b := r.b, m := r.m }) (u := .int .i64 r.m) (by simpa using hi) (by omega) (by simp [R.cs])
  obtain ⟨a5, b5⟩ := a4.field (i := i) (c := 4) (r := r) (u := .bool r.o) (by simpa using hi) (by omega) (by simp [R.cs])
  refine ⟨?_, grown_trans (grown_trans (grown_trans (grown_trans b1 b2) b3) b4) b5⟩
  simp only [List.set_set] at a5
  exact a5

theorem flat_snoc (M : List R) (r : R) : flat (M ++ [r]) = flat M ++ r.cs := by unfold flat; rw [List.flatMap_append]; simp
theorem rec_cells_new (w : World) (r : R) (t : TypeId) (j : Nat) (u : Value) (h : r.cs[j]? = some u) : (w.alloc (.cells #[.int .i64 r.k, .string r.p, .string r.b, .int .i64 r.m, .bool r.o] t)).cell? ((⟨w.heap.size, 0, none⟩ : Addr).add j) = some u := by
  rw [Addr.add_lit]
  match j, h with
  | 0, h => cases h; go_simp
  | 1, h => cases h; go_simp
  | 2, h => cases h; go_simp
  | 3, h => cases h; go_simp
  | 4, h => cases h; go_simp
  | j + 5, h => simp [R.cs] at h
theorem rec_one (r : R) : ∀ u ∈ r.cs, u.oneCell' = true := by
  intro u hu
  simp only [R.cs, List.mem_cons, List.not_mem_nil, or_false] at hu
  rcases hu with rfl | rfl | rfl | rfl | rfl <;> rfl
theorem RowOf.ne {w : World} {base : Nat} {v : Value} {n : Nat} {M : List R} (h : RowOf w base v n M) : v.ownBlock ≠ some w.heap.size := fun e => by
  have := (h.2.lt _ e).2
  omega
theorem RowOf.form {w : World} {base : Nat} {v : Value} {n : Nat} {M : List R} (h : RowOf w base v n M) : ∃ A cap, v = .slice A n cap := own_form h.2

theorem row_snoc {w : World} {base : Nat} {v : Value} {M : List R} {r : R} (h : w.ownsRow base 45 5 v (M.length + 1) (flat M ++ r.cs)) : RowOf w base v (M ++ [r]).length (M ++ [r]) :=
  ⟨rfl, by rw [flat_snoc, List.length_append]; exact h⟩
end Go.Proofs.YtcbmnihepeefaaaDoor.Recs

/- The laws' own copy of a slice of records, its size, its comparison. -/

namespace Go.Proofs.YtcbmnihepeefaaaDoor.Recs
set_option maxRecDepth 100000
open Go.RowKit Paths

theorem recInfo : (Tryd.prog.info? 45).map (fun i => (i.zero, i.size, i.bytes)) = some (some (.agg #[.int .i64 0, .string ByteArray.empty, .string ByteArray.empty, .int .i64 0, .bool false]), 5, 56) := by kernel_rfl
def zR : R := ⟨0, 0, ByteArray.empty, ByteArray.empty, false⟩
theorem made_flat (n : Nat) : (madeCells (Value.agg #[.int .i64 0, .string ByteArray.empty, .string ByteArray.empty, .int .i64 0, .bool false]).cells (n * 5)).toList = flat (List.replicate n zR) := by
  apply List.ext_getElem?
  intro j
  rw [flat_get]
  by_cases hj : j < n * 5
  · have h1 : j / 5 < n := by omega
    rw [List.getElem?_replicate, if_pos h1]
    have h5 : j % 5 < 5 := Nat.mod_lt _ (by omega)
    have e : j % 5 = 0 ∨ j % 5 = 1 ∨ j % 5 = 2 ∨ j % 5 = 3 ∨ j % 5 = 4 := by omega
    rcases e with e | e | e | e | e <;> simp [madeCells, hj, Value.cells, R.cs, zR, e]
  · have h1 : ¬ j / 5 < n := by omega
    rw [List.getElem?_replicate, if_neg h1]
    simp [madeCells, hj]

theorem set_take {M l : List R} {j : Nat} (hm : j < M.length) (hl : j < l.length) (h : M.take j = l.take j) : (M.set j l[j]).take (j + 1) = l.take (j + 1) := by
  rw [List.take_succ_eq_append_getElem (by simpa using hm), List.take_succ_eq_append_getElem hl, List.take_set, List.set_eq_of_length_le (by rw [List.length_take]; omega), h]
  simp

set_option maxHeartbeats 800000 in
theorem toRecordS_any (v : Value) (l : List R) (w : World) (h : RecSl w v l) (hl : l.length ≤ 1048576) :
    Calls Tryd.prog 9 #[v] w fun e w' => ∃ x, e = .returned x ∧ Below w.heap.size w w' ∧ RowOf w' w.heap.size x l.length l := by
  obtain ⟨i0, hi, hz0, hz1, hz2⟩ := info_parts recInfo
  obtain ⟨A, cap, rfl, hcap, h⟩ := h
  have H := Lib.hid h
  clear h
  obtain ⟨w0, hr, hown, hg⟩ := run_make_full (P := Tryd.prog) w w.heap.size 24 45 i0 _ 5 Tryd.underlying24 hi hz0 hz1 .i64 .i64 l.length (by rw [hz2]; omega) (by unfold maxLen; omega) (Nat.le_refl _)
  rw [made_flat] at hown
  have hrow : RowOf w0 w.heap.size (.slice (some ⟨w.heap.size, 0, none⟩) l.length l.length) l.length (List.replicate l.length zR) := ⟨by simp, hown⟩
  have hb0 : Below w.heap.size w w0 := (Below.refl _ _).grown hg (Nat.le_refl _) (fun k hk => by cases hk)
  clear hown hg
  go_enter Tryd.func9, Tryd.ntmps9
  go_wp2
  go_loopw [4] (fun i wr => ∃ (j : Nat) (M : List R), j ≤ l.length ∧ i = .int .i64 j ∧ RowOf wr w.heap.size (.slice (some ⟨w.heap.size, 0, none⟩) l.length l.length) l.length M ∧ Hid (M.take j = l.take j) ∧ Below w.heap.size w wr) (fun i _ => l.length - (intOf i).toNat)
  case atStart => exact ⟨0, _, by omega, rfl, hrow, rfl, hb0⟩
  case round =>
    obtain ⟨j, M, hj, rfl, hrj, HM, hbw⟩ := hrel
    by_cases hlt : j < l.length
    · obtain ⟨b, off, rfl, hb, hcell⟩ := H.out (by omega)
      obtain ⟨c0, c1, c2, c3, c4⟩ := (hcell j l[j] (by simp [hlt])).below hbw hb
      clear hcell
      have hi1 : (j : Int) < (l.length : Int) := by omega
      have hi0 : (0 : Int) ≤ (j : Int) := by omega
      go_wp2_with fail
      refine (toRecord_any _ _ _ _ _ _).mono ?_
      rintro e w1 ⟨rfl, hb1⟩
      have hr1 := hrj.below hb1
      have hm : j < M.length := by rw [hrj.1]; exact hlt
      obtain ⟨d0, d1, d2, d3, d4⟩ := hr1.cells hm
      have hf := hr1.frozen
      have HS := Lib.hid (hr1.store l[j] hm)
      have HT := Lib.hid (set_take hm hlt HM.out)
      have hbw1 := hbw.trans (hb1.mono hbw.size)
      clear hr1 c0 c1 c2 c3 c4
      go_wp2
      go_roundw
      case rel => exact ⟨j + 1, _, by omega, by go_num, HS.out.1, HT, hbw1.grown HS.out.2 hbw1.size (fun k hk => by cases hk; exact Nat.le_refl _)⟩
      case measure => simp [intOf]; omega
    · obtain rfl : j = l.length := by omega
      go_wp2
      go_ret
      refine ⟨_, rfl, hbw, ?_⟩
      have := HM.out
      rw [List.take_of_length_le (by rw [hrj.1]; exact Nat.le_refl _), List.take_of_length_le (Nat.le_refl _)] at this
      subst this
      exact hrj

theorem szRecord_at (k m : Int) (p b : ByteArray) (o : Bool) (n : Nat) (w : World) (hp : p.size ≤ maxLen) (hb : b.size ≤ maxLen) (hn : n ≤ 1048576) :
    Calls Tryd.prog 23 #[.agg #[.int .i64 k, .string p, .string b, .int .i64 m, .bool o], .int .i64 n] w fun e w' => (∃ z : Int, z < 0 ∧ e = .returned (.int .i64 z) ∧ Below w.heap.size w w') ∨ ∃ z : Nat, z ≤ 1048576 ∧ e = .returned (.int .i64 z) ∧ Below w.heap.size w w' := by
  unfold maxLen at hp hb
  have hbw : Below w.heap.size w (w.alloc (.cells #[.int .i64 k, .string p, .string b, .int .i64 m, .bool o] 42)) := (Below.refl _ _).alloc (Nat.le_refl _) _
  by_cases h1 : n < p.size
  · have hd : decide ((n : Int) - (p.size : Int) < 0) = true := by simp; omega
    go_enter Tryd.func23, Tryd.ntmps23
    go_wp2_with fail
    go_ret
    exact .inl ⟨_, by omega, rfl, hbw⟩
  have hd : decide ((n : Int) - (p.size : Int) < 0) = false := by simp; omega
  by_cases h2 : n < p.size + b.size
  · have hd2 : decide ((n : Int) - (p.size : Int) - (b.size : Int) < 0) = true := by simp; omega
    go_enter Tryd.func23, Tryd.ntmps23
    go_wp2_with fail
    go_ret
    exact .inl ⟨_, by omega, rfl, hbw⟩
  have hd2 : decide ((n : Int) - (p.size : Int) - (b.size : Int) < 0) = false := by simp; omega
  have he : ((n - p.size - b.size : Nat) : Int) = (n : Int) - (p.size : Int) - (b.size : Int) := by omega
  have HE := Lib.hid he
  clear he
  go_enter Tryd.func23, Tryd.ntmps23
  go_wp2_with fail
  go_ret
  exact .inr ⟨n - p.size - b.size, by omega, ret_int HE.out.symm, hbw⟩

set_option maxHeartbeats 800000 in
/-- Below zero, or all that the slice holds is at most what was left. -/
theorem szRecordS_any (v : Value) (l : List R) (n : Nat) (w : World) (h : RecSl w v l) (hlm : l.length ≤ maxLen) (hs : ∀ r ∈ l, r.p.size ≤ maxLen ∧ r.b.size ≤ maxLen) (hn : n ≤ 1048576) :
    Calls Tryd.prog 7 #[v, .int .i64 n] w fun e w' => (∃ z : Int, z < 0 ∧ e = .returned (.int .i64 z) ∧ Below w.heap.size w w') ∨ ∃ z : Nat, z ≤ 1048576 ∧ l.length ≤ 1048576 ∧ e = .returned (.int .i64 z) ∧ Below w.heap.size w w' := by
  unfold maxLen at hlm
  obtain ⟨A, cap, rfl, hcap, h⟩ := h
  have H := Lib.hid h
  clear h
  by_cases h1 : n < l.length
  · have hd : decide ((n : Int) - (l.length : Int) < 0) = true := by simp; omega
    go_enter Tryd.func7, Tryd.ntmps7
    go_wp2_with fail
    go_ret
    exact .inl ⟨_, by omega, rfl, Below.refl _ _⟩
  have hd : decide ((n : Int) - (l.length : Int) < 0) = false := by simp; omega
  go_enter Tryd.func7, Tryd.ntmps7
  go_wp2
  go_loopw [1, 5] (fun m i wr => ∃ (j z : Nat), j ≤ l.length ∧ i = .int .i64 j ∧ m = .int .i64 z ∧ z ≤ 1048576 ∧ Below w.heap.size w wr) (fun _ i _ => l.length - (intOf i).toNat)
  case atStart => exact ⟨0, n - l.length, by omega, rfl, by go_num, by omega, Below.refl _ _⟩
  case round =>
    obtain ⟨j, z, hj, rfl, rfl, hz, hbw⟩ := hrel
    by_cases hlt : j < l.length
    · obtain ⟨b, off, rfl, hb, hcell⟩ := H.out (by omega)
      obtain ⟨c0, c1, c2, c3, c4⟩ := (hcell j l[j] (by simp [hlt])).below hbw hb
      obtain ⟨s1, s2⟩ := hs l[j] (List.getElem_mem hlt)
      clear hcell
      have hi1 : (j : Int) < (l.length : Int) := by omega
      have hi0 : (0 : Int) ≤ (j : Int) := by omega
      go_wp2_with fail
      refine (szRecord_at _ _ _ _ _ z _ s1 s2 hz).mono ?_
      rintro e w1 (⟨z1, hz1, rfl, hb1⟩ | ⟨z1, hz1, rfl, hb1⟩)
      · have hd1 : decide (z1 < 0) = true := by simpa using hz1
        go_wp2_with fail
        go_ret
        exact .inl ⟨_, by omega, rfl, hbw.trans (hb1.mono hbw.size)⟩
      · have hd1 : decide ((z1 : Int) < 0) = false := by simp
        go_wp2_with fail
        go_roundw
        case rel => exact ⟨j + 1, z1, by omega, by go_num, rfl, hz1, hbw.trans (hb1.mono hbw.size)⟩
        case measure => simp [intOf]; omega
    · obtain rfl : j = l.length := by omega
      go_wp2
      go_ret
      exact .inr ⟨z, hz, by omega, rfl, hbw⟩

set_option maxHeartbeats 800000 in
theorem eqRecordS_same (v1 v2 : Value) (l : List R) (w : World) (h1 : RecSl w v1 l) (h2 : RecSl w v2 l) (hl : l.length ≤ 1048576) :
    Calls Tryd.prog 11 #[v1, v2] w fun e w' => e = .returned (.bool true) ∧ Below w.heap.size w w' := by
  obtain ⟨A1, cap1, rfl, hcap1, h1⟩ := h1
  obtain ⟨A2, cap2, rfl, hcap2, h2⟩ := h2
  have H1 := Lib.hid h1
  have H2 := Lib.hid h2
  clear h1 h2
  go_enter Tryd.func11, Tryd.ntmps11
  go_wp2
  go_loopw [5] (fun i wr => ∃ (j : Nat), j ≤ l.length ∧ i = .int .i64 j ∧ Below w.heap.size w wr) (fun i _ => l.length - (intOf i).toNat)
  case atStart => exact ⟨0, by omega, rfl, Below.refl _ _⟩
  case round =>
    obtain ⟨j, hj, rfl, hbw⟩ := hrel
    by_cases hlt : j < l.length
    · obtain ⟨b1, off1, rfl, hb1, hcell1⟩ := H1.out (by omega)
      obtain ⟨b2, off2, rfl, hb2, hcell2⟩ := H2.out (by omega)
      obtain ⟨c0, c1, c2, c3, c4⟩ := (hcell1 j l[j] (by simp [hlt])).below hbw hb1
      obtain ⟨d0, d1, d2, d3, d4⟩ := (hcell2 j l[j] (by simp [hlt])).below hbw hb2
      clear hcell1 hcell2
      have hi1 : (j : Int) < (l.length : Int) := by omega
      have hi0 : (0 : Int) ≤ (j : Int) := by omega
      go_wp2_with fail
      go_still_tail 8, (by kernel_rfl)
      change wpList _ _ _ _ _ wr.drew
      have hbw' : Below w.heap.size w wr.drew := hbw.drew
      clear hbw
      generalize wr.drew = W2 at *
      go_wp2_with fail
      refine (eqRecord_any _ _ _ _ _ _).mono ?_
      rintro e w1 ⟨rfl, hb1⟩
      go_wp2_with fail
      go_roundw
      case rel => exact ⟨j + 1, by omega, by go_num, hbw'.trans (hb1.mono hbw'.size)⟩
      case measure => simp [intOf]; omega
    · obtain rfl : j = l.length := by omega
      go_wp2
      go_ret
      exact ⟨rfl, hbw⟩
end Go.Proofs.YtcbmnihepeefaaaDoor.Recs

/- Layers: the first fault of one, of the model. -/

namespace Go.Proofs.YtcbmnihepeefaaaDoor.Recs
set_option maxRecDepth 100000
open Go.RowKit Paths

theorem beforeL_zero (l : List R) : beforeL l 0 = none := rfl
theorem beforeL_pos {l : List R} {k : Nat} (h : k + 1 < l.length) : beforeL l (k + 1) = some (l[k]'(by omega)) := by
  unfold beforeL
  rw [if_neg (by omega), Nat.add_sub_cancel, List.getElem?_eq_getElem]
theorem code_many {l : List R} {r : R} : codeAt l 16 r = 6 := rfl
theorem code_rec {l : List R} {i : Nat} {r : R} (h : i ≠ 16) (hf : r.fault ≠ 0) : codeAt l i r = r.fault := by
  unfold codeAt; rw [if_neg h, if_pos hf]
theorem code_same {l : List R} {i : Nat} {r : R} (h : i ≠ 16) (hf : r.fault = 0) (hs : (beforeL l i).any (fun x => x.p = r.p) = true) : codeAt l i r = 18 := by
  unfold codeAt; rw [if_neg h, if_neg (by simp [hf]), if_pos hs]
theorem code_order {l : List R} {i : Nat} {r : R} (h : i ≠ 16) (hf : r.fault = 0) (hs : (beforeL l i).any (fun x => x.p = r.p) = false)
    (ho : (beforeL l i).any (fun x => !lessP (cutAt 47 x.p.data.toList) (cutAt 47 r.p.data.toList)) = true) : codeAt l i r = 11 := by
  unfold codeAt; rw [if_neg h, if_neg (by simp [hf]), if_neg (by simp [hs]), if_pos ho]
/-- What is left once the record's order is fine. -/
def codeUp (l : List R) (i : Nat) (r : R) : Int :=
  if parentL r.p.data.toList = [] then 0 else if atL (l.take i) (parO r.p) < 0 then 12
  else if (l[(atL (l.take i) (parO r.p)).toNat]?).any (fun x => x.k ≠ 3) then 13 else 0
theorem code_up {l : List R} {i : Nat} {r : R} (h : i ≠ 16) (hf : r.fault = 0) (hs : (beforeL l i).any (fun x => x.p = r.p) = false)
    (ho : (beforeL l i).any (fun x => !lessP (cutAt 47 x.p.data.toList) (cutAt 47 r.p.data.toList)) = false) : codeAt l i r = codeUp l i r := by
  unfold codeAt; rw [if_neg h, if_neg (by simp [hf]), if_neg (by simp [hs]), if_neg (by simp [ho])]; rfl
theorem codeUp_root {l : List R} {i : Nat} {r : R} (h : parentL r.p.data.toList = []) : codeUp l i r = 0 := if_pos h
theorem codeUp_orphan {l : List R} {i : Nat} {r : R} (h : parentL r.p.data.toList ≠ []) (ha : atL (l.take i) (parO r.p) < 0) : codeUp l i r = 12 := by
  unfold codeUp; rw [if_neg h, if_pos ha]
theorem codeUp_in {l : List R} {i j : Nat} {r : R} (h : parentL r.p.data.toList ≠ []) (hj : j < l.length) (ha : atL (l.take i) (parO r.p) = (j : Int)) : codeUp l i r = if l[j].k ≠ 3 then 13 else 0 := by
  unfold codeUp; rw [if_neg h, if_neg (by omega), ha, Int.toNat_natCast, List.getElem?_eq_getElem hj]; simp
theorem RecSl.take {w : World} {A : Option Addr} {cap : Nat} {l : List R} {k : Nat} (h : RecSl w (.slice A l.length cap) l) (hk : k ≤ l.length) : RecSl w (.slice A k cap) (l.take k) := by
  obtain ⟨A', cap', e, hc, h⟩ := h
  cases e
  refine ⟨A, cap, by rw [List.length_take, Nat.min_eq_left hk], by rw [List.length_take]; omega, fun hn => ?_⟩
  rw [List.length_take] at hn
  obtain ⟨b, off, e, hb, hcell⟩ := h (by omega)
  refine ⟨b, off, e, hb, fun j p hj => hcell j p ?_⟩
  rw [List.getElem?_take] at hj
  split at hj
  · exact hj
  · cases hj
theorem path_short {p : ByteArray} (h : pathB p.data.toList = true) : p.size ≤ 65536 := by
  rcases Nat.lt_or_ge 65536 p.size with h1 | h1
  · rw [pathB_long (by omega)] at h; cases h
  · exact h1

theorem below_drewN {B : Nat} {a w : World} (h : Below B a w) (q : Nat) : Below B a (w.drewN q) := ⟨h.os, h.tape, h.output, h.size, h.block⟩
theorem all_next {l : List R} {k : Nat} (h : ∀ j (h : j < l.length), j < k → codeAt l j l[j] = 0) (hk : k < l.length) (hc : codeAt l k l[k] = 0) : Hid (∀ j (h : j < l.length), j < k + 1 → codeAt l j l[j] = 0) := by
  intro j hj hlt
  rcases Nat.lt_or_ge j k with h1 | h1
  · exact h j hj h1
  · obtain rfl : j = k := by omega
    exact hc
theorem ret_pair {x : Int × Int} {a b : Int} (h : x = (a, b)) : Ending.returned (.tuple #[.int .i64 a, .int .i64 b]) = .returned (.tuple #[.int .i64 x.1, .int .i64 x.2]) := by rw [h]

set_option maxHeartbeats 1600000 in
theorem l03Fault_any (v : Value) (l : List R) (w : World) (h : RecSl w v l) (hl : l.length ≤ 1048576) :
    Calls Tryd.prog 43 #[v] w fun e w' => e = .returned (.tuple #[.int .i64 (layerFaultL l).1, .int .i64 (layerFaultL l).2]) ∧ Below w.heap.size w w' := by
  have hsl := h
  obtain ⟨A, cap, rfl, hcap, h⟩ := h
  have HSl := Lib.hid hsl
  have H := Lib.hid h
  clear h hsl
  go_enter Tryd.func43, Tryd.ntmps43
  go_wp2
  go_loopw [4] (fun i wr => ∃ k : Nat, k ≤ l.length ∧ i = .int .i64 k ∧ Hid (layerFaultL l = faultFrom l k) ∧ Hid (∀ j (h : j < l.length), j < k → codeAt l j l[j] = 0) ∧ Below w.heap.size w wr) (fun i _ => l.length - (intOf i).toNat)
  case atStart => exact ⟨0, by omega, rfl, rfl, fun j h hj => by omega, Below.refl _ _⟩
  case round =>
    obtain ⟨k, hk, rfl, HK, HC, hbw⟩ := hrel
    by_cases hlt : k < l.length
    · obtain ⟨b, off, rfl, hb, hcell⟩ := H.out (by omega)
      obtain ⟨c0, c1, c2, c3, c4⟩ := (hcell k l[k] (by simp [hlt])).below hbw hb
      have hi1 : (k : Int) < (l.length : Int) := by omega
      have hi0 : (0 : Int) ≤ (k : Int) := by omega
      by_cases h16 : k = 16
      · subst h16
        have HE : Hid (layerFaultL l = (16, 6)) := by show _ = _; rw [HK.out, faultFrom_bad hlt (by rw [code_many]; decide), code_many]; rfl
        go_wp2
        go_ret2
        exact ⟨ret_pair HE.out, hbw⟩
      have hd16 : ((k : Int) == 16) = false := by simp; omega
      have hlbw := Nat.lt_of_lt_of_le hb hbw.size
      by_cases hf : l[k].fault = 0
      · have hd : (faultI l[k].k l[k].p.data.toList l[k].b.size l[k].m l[k].o != 0) = false := by have h := hf; unfold R.fault at h; simpa using h
        go_wp2_with fail
        refine (l02Fault_any _ _ _ _ _ _).mono ?_
        rintro e w1 ⟨rfl, hb1⟩
        have HR := Lib.hid (hcell k l[k] (by simp [hlt]))
        have hbw1 := hbw.trans (hb1.mono hbw.size)
        clear c0 c1 c2 c3 c4
        obtain ⟨c0, c1, c2, c3, c4⟩ := HR.out.below hbw1 hb
        have hP := (fault_path hf).1
        cases k with
        | zero =>
          go_wp2_with fail
          go_quiet (fail)
          have hbw2 := below_drewN hbw1 nq
          generalize w1.drewN nq = W2 at *
          go_wp2_with fail
          go_quiet (fail)
          have hbw3 := below_drewN hbw2 nq
          clear c0 c1 c2 c3 c4
          obtain ⟨c0, c1, c2, c3, c4⟩ := HR.out.below hbw3 hb
          generalize W2.drewN nq = W3 at *
          go_wp2_with fail
          have HU : Hid (codeAt l 0 l[0] = codeUp l 0 l[0]) := code_up h16 hf rfl rfl
          refine (l01Parent_any _ _ (by have := path_short hP; unfold maxLen; omega)).mono ?_
          rintro e w5 ⟨rfl, rfl⟩
          by_cases hpar : parentL l[0].p.data.toList = []
          · have HN : Hid (codeAt l (0) l[0] = 0) := by show _ = _; rw [HU.out, codeUp_root hpar]
            have HF := Lib.hid (HK.out.trans (faultFrom_good hlt HN.out))
            have hemp : (parentL l[0].p.data.toList).isEmpty = true := by rw [hpar]; rfl
            unfold strV
            go_wp2_with fail
            exact ⟨⟨0 + 1, by omega, by go_num, HF, all_next HC.out hlt HN.out, hbw3⟩, by simp [intOf]; omega⟩
          · have hemp : (parentL l[0].p.data.toList).isEmpty = false := by simpa using hpar
            have hslr := (HSl.out.below hbw3).take (k := 0) (by omega)
            unfold strV
            go_wp2_with fail
            refine (l03At_any _ (l.take (0)) _ _ (by exact hslr) (by rw [List.length_take]; omega)).mono ?_
            rintro e w6 ⟨rfl, rfl⟩
            rcases atL_cases (l.take (0)) (parO l[0].p) with ⟨ha, _⟩ | ⟨j, hj, ha, _⟩
            · have HE : Hid (layerFaultL l = (((0 : Nat) : Int), 12)) := by
                have hc := HU.out.trans (codeUp_orphan hpar (by rw [ha]; decide))
                show _ = _
                rw [HK.out, faultFrom_bad hlt (by rw [hc]; decide), hc]
              have ha' : atL (l.take (0)) ⟨(parentL l[0].p.data.toList).toArray⟩ = -1 := ha
              rw [ha']
              go_wp2_with fail
              go_ret2
              exact ⟨ret_pair HE.out, hbw3⟩
            · rw [List.length_take] at hj
              omega
        | succ k =>
          obtain ⟨d0, d1, d2, d3, d4⟩ := (hcell k (l[k]'(by omega)) (by simp)).below hbw1 hb
          have hd0 : decide ((0 : Int) < ((k + 1 : Nat) : Int)) = true := by simp
          have e1 : ((k + 1 : Nat) : Int) - 1 = (k : Int) := by omega
          rcases Bool.eq_false_or_eq_true (l[k + 1].p.toList == l[k].p.toList) with he | he
          · have HE : Hid (layerFaultL l = (((k + 1 : Nat) : Int), 18)) := by
              have hc := code_same (l := l) h16 hf (by rw [beforeL_pos hlt]; simpa using (str_eq_of he).symm)
              show _ = _
              rw [HK.out, faultFrom_bad hlt (by rw [hc]; decide), hc]
            go_wp2_with fail
            go_quiet (fail)
            go_wp2_with fail
            go_ret2
            exact ⟨ret_pair HE.out, below_drewN hbw1 _⟩
          · go_wp2_with fail
            go_quiet (fail)
            go_wp2_with fail
            have hbw2 := below_drewN hbw1 nq
            clear c0 c1 c2 c3 c4 d0 d1 d2 d3 d4
            obtain ⟨c0, c1, c2, c3, c4⟩ := HR.out.below hbw2 hb
            obtain ⟨d0, d1, d2, d3, d4⟩ := (hcell k (l[k]'(by omega)) (by simp)).below hbw2 hb
            generalize w1.drewN nq = W2 at *
            have hsame : (beforeL l (k + 1)).any (fun x => x.p = l[k + 1].p) = false := by
              rw [beforeL_pos hlt]
              simp only [Option.any_some, decide_eq_false_iff_not]
              intro e
              rw [e] at he
              simp at he
            have hlt2 := Nat.lt_of_lt_of_le hb hbw2.size
            have hs1 := path_short hP
            have hs2 := path_short (fault_path (codeAt_zero (HC.out k (by omega) (by omega))).2).1
            have i1 : (0 : Int) ≤ (k : Int) + 1 := by omega
            have i2 : (k : Int) + 1 < (l.length : Int) := by omega
            have i3 : (0 : Int) ≤ (k : Int) := by omega
            have i4 : (k : Int) < (l.length : Int) := by omega
            have hw : IntKind.i64.wrap (k : Int) = (k : Int) := by simp [IntKind.wrap, IntKind.bits, IntKind.signed]; omega
            rcases Bool.eq_false_or_eq_true (lessP (cutAt 47 l[k].p.data.toList) (cutAt 47 l[k + 1].p.data.toList)) with hless | hless
            · go_region_held3 (fun w' => w'.cell? ⟨b, off + k * 5 + 1, none⟩ = some (.string l[k].p) ∧ w'.cell? ⟨b, off + (k + 1) * 5 + 1, none⟩ = some (.string l[k + 1].p)) (first | exact ⟨d1, c1⟩ | exact ⟨(hb3.cell (p := ⟨b, off + k * 5 + 1, none⟩) hlt2).trans d1, (hb3.cell (p := ⟨b, off + (k + 1) * 5 + 1, none⟩) hlt2).trans c1⟩ | go_keep) (first | (go_at_call 44; refine (l01Less_any _ _ _ hs2 hs1).mono ?_; rintro e w3 ⟨rfl, hb3⟩))
              have hbw4 := hbw2.drew.trans (hb3.mono hbw2.size)
              clear c0 c1 c2 c3 c4 d0 d1 d2 d3 d4
              obtain ⟨c0, c1, c2, c3, c4⟩ := HR.out.below hbw4 hb
              have HU : Hid (codeAt l (k + 1) l[k + 1] = codeUp l (k + 1) l[k + 1]) := code_up h16 hf hsame (by rw [beforeL_pos hlt]; simp [hless])
              go_wp2_with fail
              refine (l01Parent_any _ _ (by have := path_short hP; unfold maxLen; omega)).mono ?_
              rintro e w5 ⟨rfl, rfl⟩
              by_cases hpar : parentL l[k + 1].p.data.toList = []
              · have HN : Hid (codeAt l (k + 1) l[k + 1] = 0) := by show _ = _; rw [HU.out, codeUp_root hpar]
                have HF := Lib.hid (HK.out.trans (faultFrom_good hlt HN.out))
                have hemp : (parentL l[k + 1].p.data.toList).isEmpty = true := by rw [hpar]; rfl
                unfold strV
                go_wp2_with fail
                exact ⟨⟨k + 1 + 1, by omega, by go_num, HF, all_next HC.out hlt HN.out, hbw4⟩, by simp [intOf]; omega⟩
              · have hemp : (parentL l[k + 1].p.data.toList).isEmpty = false := by simpa using hpar
                have hslr := (HSl.out.below hbw4).take (k := k + 1) (by omega)
                unfold strV
                go_wp2_with fail
                refine (l03At_any _ (l.take (k + 1)) _ _ (by exact hslr) (by rw [List.length_take]; omega)).mono ?_
                rintro e w6 ⟨rfl, rfl⟩
                rcases atL_cases (l.take (k + 1)) (parO l[k + 1].p) with ⟨ha, _⟩ | ⟨j, hj, ha, _⟩
                · have HE : Hid (layerFaultL l = (((k + 1 : Nat) : Int), 12)) := by
                    have hc := HU.out.trans (codeUp_orphan hpar (by rw [ha]; decide))
                    show _ = _
                    rw [HK.out, faultFrom_bad hlt (by rw [hc]; decide), hc]
                  have ha' : atL (l.take (k + 1)) ⟨(parentL l[k + 1].p.data.toList).toArray⟩ = -1 := ha
                  rw [ha']
                  go_wp2_with fail
                  go_ret2
                  exact ⟨ret_pair HE.out, hbw4⟩
                · rw [List.length_take] at hj
                  have hjl : j < l.length := by omega
                  have ha' : atL (l.take (k + 1)) ⟨(parentL l[k + 1].p.data.toList).toArray⟩ = (j : Int) := ha
                  have HV := Lib.hid (HU.out.trans (codeUp_in hpar hjl ha))
                  rw [ha']
                  clear ha ha'
                  obtain ⟨f0, _⟩ := (hcell j l[j] (by simp [hjl])).below hbw4 hb
                  have j1 : (0 : Int) ≤ (j : Int) := by omega
                  have j2 : (j : Int) < (l.length : Int) := by omega
                  have j3 : decide ((j : Int) < 0) = false := by simp
                  by_cases h3 : l[j].k = 3
                  · have HN : Hid (codeAt l (k + 1) l[k + 1] = 0) := by show _ = _; rw [HV.out, if_neg (by simpa using h3)]
                    have HF := Lib.hid (HK.out.trans (faultFrom_good hlt HN.out))
                    have j4 : (l[j].k != 3) = false := by simpa using h3
                    clear h3
                    go_wp2_with fail
                    exact ⟨⟨k + 1 + 1, by omega, by go_num, HF, all_next HC.out hlt HN.out, hbw4⟩, by simp [intOf]; omega⟩
                  · have HE : Hid (layerFaultL l = (((k + 1 : Nat) : Int), 13)) := by
                      have hc := HV.out.trans (if_pos h3)
                      show _ = _
                      rw [HK.out, faultFrom_bad hlt (by rw [hc]; decide), hc]
                    have j4 : (l[j].k != 3) = true := by simpa using h3
                    clear h3
                    go_wp2_with fail
                    go_ret2
                    exact ⟨ret_pair HE.out, hbw4⟩
            · go_region_held3 (fun w' => w'.cell? ⟨b, off + k * 5 + 1, none⟩ = some (.string l[k].p) ∧ w'.cell? ⟨b, off + (k + 1) * 5 + 1, none⟩ = some (.string l[k + 1].p)) (first | exact ⟨d1, c1⟩ | exact ⟨(hb3.cell (p := ⟨b, off + k * 5 + 1, none⟩) hlt2).trans d1, (hb3.cell (p := ⟨b, off + (k + 1) * 5 + 1, none⟩) hlt2).trans c1⟩ | go_keep) (first | (go_at_call 44; refine (l01Less_any _ _ _ hs2 hs1).mono ?_; rintro e w3 ⟨rfl, hb3⟩))
              have hbw4 := hbw2.drew.trans (hb3.mono hbw2.size)
              clear c0 c1 c2 c3 c4 d0 d1 d2 d3 d4
              obtain ⟨c0, c1, c2, c3, c4⟩ := HR.out.below hbw4 hb
              have HE : Hid (layerFaultL l = (((k + 1 : Nat) : Int), 11)) := by
                have hc := code_order (l := l) h16 hf hsame (by rw [beforeL_pos hlt]; simp [hless])
                show _ = _
                rw [HK.out, faultFrom_bad hlt (by rw [hc]; decide), hc]
              go_wp2_with fail
              go_ret2
              exact ⟨ret_pair HE.out, hbw4⟩
      · have HE : Hid (layerFaultL l = ((k : Int), faultI l[k].k l[k].p.data.toList l[k].b.size l[k].m l[k].o)) := by show _ = _; rw [HK.out, faultFrom_bad hlt (by rw [code_rec h16 hf]; exact hf), code_rec h16 hf]; rfl
        have hd : (faultI l[k].k l[k].p.data.toList l[k].b.size l[k].m l[k].o != 0) = true := by have h := hf; unfold R.fault at h; simpa using h
        clear hf
        go_wp2_with fail
        refine (l02Fault_any _ _ _ _ _ _).mono ?_
        rintro e w1 ⟨rfl, hb1⟩
        go_wp2_with fail
        go_ret2
        exact ⟨ret_pair HE.out, hbw.trans (hb1.mono hbw.size)⟩
    · obtain rfl : k = l.length := by omega
      have HE : Hid (layerFaultL l = (0, 0)) := by show _ = _; rw [HK.out, faultFrom_end (Nat.le_refl _)]
      go_wp2
      go_ret2
      exact ⟨ret_pair HE.out, hbw⟩
end Go.Proofs.YtcbmnihepeefaaaDoor.Recs

/- Layers: the program's searches (slices.IndexFunc, slices.ContainsFunc, with what it hands them). -/

namespace Go.Proofs.YtcbmnihepeefaaaDoor.Recs
set_option maxRecDepth 100000
open Go.RowKit Paths

/-- The place of the first record that a test takes, counted from n on; -1 of none. -/
def idxFrom (P : R → Bool) : List R → Nat → Int
  | [], _ => -1
  | r :: t, n => if P r then (n : Int) else idxFrom P t (n + 1)
theorem idx_step {P : R → Bool} {l : List R} {k : Nat} (h : k < l.length) : idxFrom P (l.drop k) k = if P l[k] then (k : Int) else idxFrom P (l.drop (k + 1)) (k + 1) := by
  rw [List.drop_eq_getElem_cons h]
  rfl
theorem idx_end {P : R → Bool} {l : List R} {k : Nat} (h : l.length ≤ k) : idxFrom P (l.drop k) k = -1 := by
  rw [List.drop_eq_nil_of_le h]
  rfl
theorem idx_at (q : ByteArray) : ∀ (l : List R) (n : Nat), idxFrom (fun r => r.p.toList == q.toList) l n = atFrom l n q
  | [], _ => rfl
  | r :: t, n => by
    simp only [idxFrom, atFrom]
    rw [idx_at q t (n + 1)]
    by_cases h : r.p = q
    · rw [if_pos h, if_pos (by rw [h]; simp)]
    · rw [if_neg h, if_neg (fun e => h (str_eq_of e))]
theorem idx_any (P : R → Bool) : ∀ (l : List R) (n : Nat), decide (0 ≤ idxFrom P l n) = l.any P
  | [], _ => rfl
  | r :: t, n => by
    rcases Bool.eq_false_or_eq_true (P r) with h | h
    · simp [idxFrom, h]
    · have := idx_any P t (n + 1)
      simp only [idxFrom, List.any_cons, h]
      simpa using this

set_option maxHeartbeats 800000 in
theorem indexFunc_path (v : Value) (l : List R) (c : Addr) (P : R → Bool) (w : World) (h : RecSl w v l) (hl : l.length ≤ 1048576)
    (HF : ∀ r ∈ l, ∀ w', Below w.heap.size w w' → Calls Tryd.prog 86 #[r.val, .pointer (some c)] w' fun e w'' => e = .returned (.bool (P r)) ∧ Below w'.heap.size w' w'') :
    Calls Tryd.prog 80 #[v, .func (.func 86) #[] #[.pointer (some c)]] w fun e w' => e = .returned (.int .i64 (idxFrom P l 0)) ∧ Below w.heap.size w w' := by
  obtain ⟨A, cap, rfl, hcap, h⟩ := h
  have H := Lib.hid h
  have HFh := Lib.hid HF
  clear h HF
  go_enter Tryd.func80, Tryd.ntmps80
  go_wp2
  go_loopw [8] (fun i wr => ∃ k : Nat, k ≤ l.length ∧ i = .int .i64 k ∧ Hid (idxFrom P l 0 = idxFrom P (l.drop k) k) ∧ Below w.heap.size w wr) (fun i _ => l.length - (intOf i).toNat)
  case atStart => exact ⟨0, by omega, rfl, rfl, Below.refl _ _⟩
  case round =>
    obtain ⟨k, hk, rfl, HK, hbw⟩ := hrel
    by_cases hlt : k < l.length
    · obtain ⟨b, off, rfl, hb, hcell⟩ := H.out (by omega)
      obtain ⟨c0, c1, c2, c3, c4⟩ := (hcell k l[k] (by simp [hlt])).below hbw hb
      have HS := Lib.hid (HK.out.trans (idx_step hlt))
      clear hcell HK
      have hi1 : (k : Int) < (l.length : Int) := by omega
      have hi0 : (0 : Int) ≤ (k : Int) := by omega
      have HC := HFh.out l[k] (List.getElem_mem hlt) _ hbw
      unfold R.val at HC
      rcases Bool.eq_false_or_eq_true (P l[k]) with he | he
      · have HE : Hid (idxFrom P l 0 = k) := by show _ = _; rw [HS.out, if_pos he]
        go_wp2_with (go_at_call 86; refine HC.mono ?_; rintro e w1 ⟨rfl, hb1⟩)
        go_ret
        exact ⟨ret_int HE.out.symm, hbw.trans (hb1.mono hbw.size)⟩
      · have HE : Hid (idxFrom P l 0 = idxFrom P (l.drop (k + 1)) (k + 1)) := by show _ = _; rw [HS.out, if_neg (by rw [he]; decide)]
        go_wp2_with (go_at_call 86; refine HC.mono ?_; rintro e w1 ⟨rfl, hb1⟩)
        exact ⟨⟨k + 1, by omega, by go_num, HE, hbw.trans (hb1.mono hbw.size)⟩, by simp [intOf]; omega⟩
    · have HE := Lib.hid (HK.out.trans (idx_end (by omega)))
      go_wp2
      go_ret
      exact ⟨ret_int HE.out.symm, hbw⟩

set_option maxHeartbeats 800000 in
theorem indexFunc_under (v : Value) (l : List R) (c : Addr) (P : R → Bool) (w : World) (h : RecSl w v l) (hl : l.length ≤ 1048576)
    (HF : ∀ r ∈ l, ∀ w', Below w.heap.size w w' → Calls Tryd.prog 75 #[r.val, .pointer (some c)] w' fun e w'' => e = .returned (.bool (P r)) ∧ Below w'.heap.size w' w'') :
    Calls Tryd.prog 80 #[v, .func (.func 75) #[] #[.pointer (some c)]] w fun e w' => e = .returned (.int .i64 (idxFrom P l 0)) ∧ Below w.heap.size w w' := by
  obtain ⟨A, cap, rfl, hcap, h⟩ := h
  have H := Lib.hid h
  have HFh := Lib.hid HF
  clear h HF
  go_enter Tryd.func80, Tryd.ntmps80
  go_wp2
  go_loopw [8] (fun i wr => ∃ k : Nat, k ≤ l.length ∧ i = .int .i64 k ∧ Hid (idxFrom P l 0 = idxFrom P (l.drop k) k) ∧ Below w.heap.size w wr) (fun i _ => l.length - (intOf i).toNat)
  case atStart => exact ⟨0, by omega, rfl, rfl, Below.refl _ _⟩
  case round =>
    obtain ⟨k, hk, rfl, HK, hbw⟩ := hrel
    by_cases hlt : k < l.length
    · obtain ⟨b, off, rfl, hb, hcell⟩ := H.out (by omega)
      obtain ⟨c0, c1, c2, c3, c4⟩ := (hcell k l[k] (by simp [hlt])).below hbw hb
      have HS := Lib.hid (HK.out.trans (idx_step hlt))
      clear hcell HK
      have hi1 : (k : Int) < (l.length : Int) := by omega
      have hi0 : (0 : Int) ≤ (k : Int) := by omega
      have HC := HFh.out l[k] (List.getElem_mem hlt) _ hbw
      unfold R.val at HC
      rcases Bool.eq_false_or_eq_true (P l[k]) with he | he
      · have HE : Hid (idxFrom P l 0 = k) := by show _ = _; rw [HS.out, if_pos he]
        go_wp2_with (go_at_call 75; refine HC.mono ?_; rintro e w1 ⟨rfl, hb1⟩)
        go_ret
        exact ⟨ret_int HE.out.symm, hbw.trans (hb1.mono hbw.size)⟩
      · have HE : Hid (idxFrom P l 0 = idxFrom P (l.drop (k + 1)) (k + 1)) := by show _ = _; rw [HS.out, if_neg (by rw [he]; decide)]
        go_wp2_with (go_at_call 75; refine HC.mono ?_; rintro e w1 ⟨rfl, hb1⟩)
        exact ⟨⟨k + 1, by omega, by go_num, HE, hbw.trans (hb1.mono hbw.size)⟩, by simp [intOf]; omega⟩
    · have HE := Lib.hid (HK.out.trans (idx_end (by omega)))
      go_wp2
      go_ret
      exact ⟨ret_int HE.out.symm, hbw⟩

theorem path_test (r : R) (c : Nat) (q : ByteArray) (w : World) (h : w.cell? ⟨c, 0, none⟩ = some (.string q)) :
    Calls Tryd.prog 86 #[r.val, .pointer (some ⟨c, 0, none⟩)] w fun e w' => e = .returned (.bool (r.p.toList == q.toList)) ∧ Below w.heap.size w w' := by
  unfold R.val
  have h1 : (w.alloc (.cells #[.int .i64 r.k, .string r.p, .string r.b, .int .i64 r.m, .bool r.o] 45)).cell? ⟨c, 0, none⟩ = some (.string q) := cell?_alloc_old _ h
  go_enter Tryd.func86, Tryd.ntmps86
  go_wp2
  go_ret
  exact ⟨rfl, (Below.refl _ _).alloc (Nat.le_refl _) _⟩

theorem indexOfPath_any (v : Value) (l : List R) (q : ByteArray) (w : World) (h : RecSl w v l) (hl : l.length ≤ 1048576) :
    Calls Tryd.prog 78 #[v, .string q] w fun e w' => e = .returned (.int .i64 (atL l q)) ∧ Below w.heap.size w w' := by
  have hb0 : Below w.heap.size w (w.alloc (.cells #[.string q] 9)) := (Below.refl _ _).alloc (Nat.le_refl _) _
  have hc0 : (w.alloc (.cells #[.string q] 9)).cell? ⟨w.heap.size, 0, none⟩ = some (.string q) := by go_simp
  have h0 := h.below hb0
  have HC := indexFunc_path v l ⟨w.heap.size, 0, none⟩ (fun r => r.p.toList == q.toList) (w.alloc (.cells #[.string q] 9)) h0 hl
    (fun r _ w' hb => path_test r w.heap.size q w' ((hb.cell (p := ⟨w.heap.size, 0, none⟩) (by simp)).trans hc0))
  rw [idx_at] at HC
  obtain ⟨A, cap, rfl, _⟩ := h
  go_enter Tryd.func78, Tryd.ntmps78
  go_wp2_with fail
  refine HC.mono ?_
  rintro e w1 ⟨rfl, hb1⟩
  go_wp2_with fail
  go_ret
  exact ⟨rfl, hb0.trans (hb1.mono hb0.size)⟩

theorem under_test (r : R) (c : Nat) (q : ByteArray) (w : World) (h : w.cell? ⟨c, 0, none⟩ = some (.string q)) (hq : q.size ≤ maxLen) (hr : r.p.size ≤ maxLen) :
    Calls Tryd.prog 75 #[r.val, .pointer (some ⟨c, 0, none⟩)] w fun e w' => e = .returned (.bool (r.o && isBelowB q r.p)) ∧ Below w.heap.size w w' := by
  unfold R.val
  have h1 : (w.alloc (.cells #[.int .i64 r.k, .string r.p, .string r.b, .int .i64 r.m, .bool r.o] 45)).cell? ⟨c, 0, none⟩ = some (.string q) := cell?_alloc_old _ h
  have hb0 : Below w.heap.size w (w.alloc (.cells #[.int .i64 r.k, .string r.p, .string r.b, .int .i64 r.m, .bool r.o] 45)) := (Below.refl _ _).alloc (Nat.le_refl _) _
  rcases Bool.eq_false_or_eq_true r.o with ho | ho
  · rw [ho] at h1 hb0 ⊢
    go_enter Tryd.func75, Tryd.ntmps75
    go_wp2_with fail
    refine (isBelow_impl _ _ _ hq hr).mono ?_
    rintro e w1 ⟨rfl, hb1⟩
    go_wp2_with fail
    go_ret
    exact ⟨rfl, hb0.trans (hb1.mono hb0.size)⟩
  · rw [ho] at h1 hb0 ⊢
    go_enter Tryd.func75, Tryd.ntmps75
    go_wp2_with fail
    go_ret
    exact ⟨rfl, hb0⟩

theorem containsFunc_any (v f : Value) (n : Int) (w : World)
    (HC : Calls Tryd.prog 80 #[v, f] w fun e w' => e = .returned (.int .i64 n) ∧ Below w.heap.size w w') :
    Calls Tryd.prog 74 #[v, f] w fun e w' => e = .returned (.bool (decide (0 ≤ n))) ∧ Below w.heap.size w w' := by
  go_enter Tryd.func74, Tryd.ntmps74
  go_wp2_with fail
  refine HC.mono ?_
  rintro e w1 ⟨rfl, hb1⟩
  go_wp2_with fail
  go_ret
  exact ⟨rfl, hb1⟩

/-- A record that is Opaque lies above the path. -/
def underI (l : List R) (q : ByteArray) : Bool := l.any fun r => r.o && isBelowB q r.p
theorem underOpaque_any (v : Value) (l : List R) (q : ByteArray) (w : World) (h : RecSl w v l) (hl : l.length ≤ 1048576) (hq : q.size ≤ maxLen) (hr : ∀ r ∈ l, r.p.size ≤ maxLen) :
    Calls Tryd.prog 62 #[v, .string q] w fun e w' => e = .returned (.bool (underI l q)) ∧ Below w.heap.size w w' := by
  have hb0 : Below w.heap.size w (w.alloc (.cells #[.string q] 9)) := (Below.refl _ _).alloc (Nat.le_refl _) _
  have hc0 : (w.alloc (.cells #[.string q] 9)).cell? ⟨w.heap.size, 0, none⟩ = some (.string q) := by go_simp
  have h0 := h.below hb0
  have HC := indexFunc_under v l ⟨w.heap.size, 0, none⟩ (fun r => r.o && isBelowB q r.p) (w.alloc (.cells #[.string q] 9)) h0 hl
    (fun r hm w' hb => under_test r w.heap.size q w' ((hb.cell (p := ⟨w.heap.size, 0, none⟩) (by simp)).trans hc0) hq (hr r hm))
  have HD := containsFunc_any _ _ _ _ HC
  rw [idx_any] at HD
  obtain ⟨A, cap, rfl, _⟩ := h
  go_enter Tryd.func62, Tryd.ntmps62
  go_wp2_with fail
  refine HD.mono ?_
  rintro e w1 ⟨rfl, hb1⟩
  go_wp2_with fail
  go_ret
  exact ⟨rfl, hb0.trans (hb1.mono hb0.size)⟩
end Go.Proofs.YtcbmnihepeefaaaDoor.Recs
