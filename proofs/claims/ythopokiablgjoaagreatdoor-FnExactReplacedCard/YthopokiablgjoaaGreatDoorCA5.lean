/- Parts of several texts of mine in one file (each begins with its own remark). -/
import Derived.Test.YthopokiablgjoaaGreatDoorCA1
import Derived.Test.YthopokiablgjoaaGreatDoorCA2
import Derived.Test.YthopokiablgjoaaGreatDoorCA3
import Derived.Test.YthopokiablgjoaaGreatDoorCA4
import Derived.Test.YthopokiablgjoaaGreatDoorChecked
import Derived.Laws.OwnMore
import Derived.BigQuiet
import Derived.BigRegion
import Derived.Deep.QuietTactic
import Derived.Deep.RegionHeld3
import Derived.Deep.Slices
import Derived.OpenShut
import Derived.ShutString
import Derived.ChangeArms
import Derived.WideShapes
import Derived.Lib.LaidTab
import Derived.StillTailTactics
import Derived.Deep.Draws
import Derived.Deep.LoopGhost
import Derived.WalkKit
import Derived.WalkSpells
import Derived.WalkSmall
import Derived.Lib.OthersKept
import Derived.Lib.Hide
import Derived.Lib.Strings
import Derived.Lib.Join
import Derived.Laws.BytesArg
/- Slices of records in memory of their own: what is written into one; the laws' own size, copy and comparison of such slices. -/
namespace Go.Proofs.YthopokiablgjoaaGreatDoor.Recs
set_option maxRecDepth 100000
open Go.RowKit Paths

/-- A record's five cells. -/
def R.cs (r : R) : List Value := [.int .i64 r.k, .string r.p, .string r.b, .int .i64 r.m, .bool r.o]
def flat (l : List R) : List Value := l.flatMap R.cs
theorem flat_len (l : List R) : (flat l).length = l.length * 5 := by
  induction l with
  | nil => rfl
  | cons r t ih => simp only [flat, List.flatMap_cons, List.length_append, List.length_cons] at ih ⊢; rw [ih]; simp [R.cs]; omega
theorem flat_get : ∀ (l : List R) (j : Nat), (flat l)[j]? = (l[j / 5]?).bind fun r => r.cs[j % 5]?
  | [], j => by simp [flat]
  | r :: t, j => by
    have ih := flat_get t (j - 5)
    by_cases hj : j < 5
    · have e1 : j / 5 = 0 := by omega
      have e2 : j % 5 = j := by omega
      rw [e1, e2]
      simp only [flat, List.flatMap_cons]
      rw [List.getElem?_append_left (by simp [R.cs]; omega)]
      simp
    · have e1 : j / 5 = (j - 5) / 5 + 1 := by omega
      have e2 : j % 5 = (j - 5) % 5 := by omega
      rw [e1, e2]
      simp only [flat, List.flatMap_cons]
      rw [List.getElem?_append_right (by simp [R.cs]; omega)]
      simp only [R.cs, List.length_cons, List.length_nil]
      exact ih
theorem flat_field {M : List R} {i c : Nat} {r : R} {u : Value} (hi : i < M.length) (hc : c < 5) (h : r.cs = M[i].cs.set c u) : flat (M.set i r) = (flat M).set (i * 5 + c) u := by
  apply List.ext_getElem?
  intro j
  rw [flat_get, List.getElem?_set, List.getElem?_set, flat_len, flat_get]
  by_cases hj : i = j / 5
  · rw [if_pos hj, if_pos (by omega)]
    simp only [Option.bind_some]
    rw [h, List.getElem?_set]
    by_cases hk : c = j % 5
    · rw [if_pos hk, if_pos (by simp [R.cs]; omega), if_pos (by omega), if_pos (by omega)]
    · rw [if_neg hk, if_neg (by omega), ← hj, List.getElem?_eq_getElem hi]
      rfl
  · rw [if_neg hj, if_neg (by omega)]

/-- A slice in memory of its own that holds the records M. -/
def RowOf (w : World) (base : Nat) (v : Value) (n : Nat) (M : List R) : Prop := M.length = n ∧ w.ownsRow base 52 5 v n (flat M)
theorem RowOf.below {w w' : World} {base : Nat} {v : Value} {n : Nat} {M : List R} (h : RowOf w base v n M) (hb : Below w.heap.size w w') : RowOf w' base v n M := ⟨h.1, own_below h.2 hb⟩
theorem RowOf.sl {w : World} {base : Nat} {v : Value} {n : Nat} {M : List R} (h : RowOf w base v n M) : RecSl w v M := by
  obtain ⟨rfl, h⟩ := h
  rcases h.2 with ⟨rfl, hn⟩ | ⟨g, cap, cur, rfl, hb, hg, hc, _⟩
  · exact ⟨none, 0, by rw [hn], by omega, fun h => by omega⟩
  · refine ⟨_, cap, rfl, hc, fun _ => ⟨g, 0, rfl, (Array.getElem?_eq_some_iff.1 hg).1, fun i r hi => ?_⟩⟩
    have hlt : i < M.length := (List.getElem?_eq_some_iff.1 hi).1
    have one : ∀ c, c < 5 → w.cell? ⟨g, i * 5 + c, none⟩ = r.cs[c]? := fun c hc => by
      rw [h.cellAt (i * 5 + c) (by omega), flat_get]
      have e1 : (i * 5 + c) / 5 = i := by omega
      have e2 : (i * 5 + c) % 5 = c := by omega
      rw [e1, e2, hi]
      rfl
    rw [Nat.zero_add]
    exact ⟨one 0 (by omega), one 1 (by omega), one 2 (by omega), one 3 (by omega), one 4 (by omega)⟩
theorem RowOf.field {w : World} {base g cap n : Nat} {M : List R} {i c : Nat} {r : R} {u : Value} (h : RowOf w base (.slice (some ⟨g, 0, none⟩) n cap) n M) (hi : i < M.length) (hc : c < 5) (hr : r.cs = M[i].cs.set c u) :
    RowOf (w.setCell ⟨g, i * 5 + c, none⟩ u) base (.slice (some ⟨g, 0, none⟩) n cap) n (M.set i r) ∧ w.grownBy (w.setCell ⟨g, i * 5 + c, none⟩ u) (some g) := by
  obtain ⟨h1, h2⟩ := h.2.stored (i * 5 + c) u
  exact ⟨⟨by rw [List.length_set]; exact h.1, by rw [flat_field hi hc hr]; exact h1⟩, h2⟩
theorem RowOf.frozen {w : World} {base g cap n : Nat} {M : List R} (h : RowOf w base (.slice (some ⟨g, 0, none⟩) n cap) n M) (j : Nat) : w.frozen? ⟨g, j, none⟩ = false := h.2.frozenAt j
theorem RowOf.cells {w : World} {base g cap n : Nat} {M : List R} (h : RowOf w base (.slice (some ⟨g, 0, none⟩) n cap) n M) {i : Nat} (hi : i < M.length) : RecCells w g (i * 5) M[i] := by
  have one : ∀ c, c < 5 → w.cell? ⟨g, i * 5 + c, none⟩ = M[i].cs[c]? := fun c hc => by
    rw [h.2.cellAt (i * 5 + c) (by rw [← h.1]; omega), flat_get]
    have e1 : (i * 5 + c) / 5 = i := by omega
    have e2 : (i * 5 + c) % 5 = c := by omega
    rw [e1, e2, List.getElem?_eq_getElem hi]
    rfl
  exact ⟨one 0 (by omega), one 1 (by omega), one 2 (by omega), one 3 (by omega), one 4 (by omega)⟩
/-- A whole record written. -/
theorem RowOf.store {w : World} {base g cap n : Nat} {M : List R} {i : Nat} (r : R) (h : RowOf w base (.slice (some ⟨g, 0, none⟩) n cap) n M) (hi : i < M.length) :
    RowOf (((((w.setCell ⟨g, i * 5, none⟩ (.int .i64 r.k)).setCell ⟨g, i * 5 + 1, none⟩ (.string r.p)).setCell ⟨g, i * 5 + 2, none⟩ (.string r.b)).setCell ⟨g, i * 5 + 3, none⟩ (.int .i64 r.m)).setCell ⟨g, i * 5 + 4, none⟩ (.bool r.o)) base (.slice (some ⟨g, 0, none⟩) n cap) n (M.set i r) ∧
    w.grownBy (((((w.setCell ⟨g, i * 5, none⟩ (.int .i64 r.k)).setCell ⟨g, i * 5 + 1, none⟩ (.string r.p)).setCell ⟨g, i * 5 + 2, none⟩ (.string r.b)).setCell ⟨g, i * 5 + 3, none⟩ (.int .i64 r.m)).setCell ⟨g, i * 5 + 4, none⟩ (.bool r.o)) (some g) := by
  obtain ⟨a1, b1⟩ := h.field (i := i) (c := 0) (r := { M[i] with k := r.k }) (u := .int .i64 r.k) hi (by omega) rfl
  obtain ⟨a2, b2⟩ := a1.field (i := i) (c := 1) (r := { M[i] with k := r.k, p := r.p }) (u := .string r.p) (by simpa using hi) (by omega) (by simp [R.cs])
  obtain ⟨a3, b3⟩ := a2.field (i := i) (c := 2) (r := { M[i] with k := r.k, p := r.p, b := r.b }) (u := .string r.b) (by simpa using hi) (by omega) (by simp [R.cs])
  obtain ⟨a4, b4⟩ := a3.field (i := i) (c := 3) (r := { M[i] with k := r.k, p := r.p, b := r.b, m := r.m }) (u := .int .i64 r.m) (by simpa using hi) (by omega) (by simp [R.cs])
  obtain ⟨a5, b5⟩ := a4.field (i := i) (c := 4) (r := r) (u := .bool r.o) (by simpa using hi) (by omega) (by simp [R.cs])
  refine ⟨?_, grown_trans (grown_trans (grown_trans (grown_trans b1 b2) b3) b4) b5⟩
  simp only [List.set_set] at a5
  exact a5

theorem flat_snoc (M : List R) (r : R) : flat (M ++ [r]) = flat M ++ r.cs := by unfold flat; rw [List.flatMap_append]; simp
theorem rec_cells_new (w : World) (r : R) (t : TypeId) (j : Nat) (u : Value) (h : r.cs[j]? = some u) : (w.alloc (.cells #[.int .i64 r.k, .string r.p, .string r.b, .int .i64 r.m, .bool r.o] t)).cell? ((⟨w.heap.size, 0, none⟩ : Addr).add j) = some u := by
  rw [Addr.add_lit]
  match j, h with
  | 0, h => cases h; go_simp
  | 1, h => cases h; go_simp
  | 2, h => cases h; go_simp
  | 3, h => cases h; go_simp
  | 4, h => cases h; go_simp
  | j + 5, h => simp [R.cs] at h
theorem rec_one (r : R) : ∀ u ∈ r.cs, u.oneCell' = true := by
  intro u hu
  simp only [R.cs, List.mem_cons, List.not_mem_nil, or_false] at hu
  rcases hu with rfl | rfl | rfl | rfl | rfl <;> rfl
theorem RowOf.ne {w : World} {base : Nat} {v : Value} {n : Nat} {M : List R} (h : RowOf w base v n M) : v.ownBlock ≠ some w.heap.size := fun e => by
  have := (h.2.lt _ e).2
  omega
theorem RowOf.form {w : World} {base : Nat} {v : Value} {n : Nat} {M : List R} (h : RowOf w base v n M) : ∃ A cap, v = .slice A n cap := own_form h.2

theorem row_snoc {w : World} {base : Nat} {v : Value} {M : List R} {r : R} (h : w.ownsRow base 52 5 v (M.length + 1) (flat M ++ r.cs)) : RowOf w base v (M ++ [r]).length (M ++ [r]) :=
  ⟨rfl, by rw [flat_snoc, List.length_append]; exact h⟩
end Go.Proofs.YthopokiablgjoaaGreatDoor.Recs

/- The laws' own copy of a slice of records, its size, its comparison. -/
namespace Go.Proofs.YthopokiablgjoaaGreatDoor.Recs
set_option maxRecDepth 100000
open Go.RowKit Paths

theorem recInfo : (Tryz.prog.info? 52).map (fun i => (i.zero, i.size, i.bytes)) = some (some (.agg #[.int .i64 0, .string ByteArray.empty, .string ByteArray.empty, .int .i64 0, .bool false]), 5, 56) := by kernel_rfl
def zR : R := ⟨0, 0, ByteArray.empty, ByteArray.empty, false⟩
theorem made_flat (n : Nat) : (madeCells (Value.agg #[.int .i64 0, .string ByteArray.empty, .string ByteArray.empty, .int .i64 0, .bool false]).cells (n * 5)).toList = flat (List.replicate n zR) := by
  apply List.ext_getElem?
  intro j
  rw [flat_get]
  by_cases hj : j < n * 5
  · have h1 : j / 5 < n := by omega
    rw [List.getElem?_replicate, if_pos h1]
    have h5 : j % 5 < 5 := Nat.mod_lt _ (by omega)
    have e : j % 5 = 0 ∨ j % 5 = 1 ∨ j % 5 = 2 ∨ j % 5 = 3 ∨ j % 5 = 4 := by omega
    rcases e with e | e | e | e | e <;> simp [madeCells, hj, Value.cells, R.cs, zR, e]
  · have h1 : ¬ j / 5 < n := by omega
    rw [List.getElem?_replicate, if_neg h1]
    simp [madeCells, hj]

theorem set_take {M l : List R} {j : Nat} (hm : j < M.length) (hl : j < l.length) (h : M.take j = l.take j) : (M.set j l[j]).take (j + 1) = l.take (j + 1) := by
  rw [List.take_succ_eq_append_getElem (by simpa using hm), List.take_succ_eq_append_getElem hl, List.take_set, List.set_eq_of_length_le (by rw [List.length_take]; omega), h]
  simp

set_option maxHeartbeats 800000 in
theorem toRecordS_any (v : Value) (l : List R) (w : World) (h : RecSl w v l) (hl : l.length ≤ 1048576) :
    Calls Tryz.prog 46 #[v] w fun e w' => ∃ x, e = .returned x ∧ Below w.heap.size w w' ∧ RowOf w' w.heap.size x l.length l := by
  obtain ⟨i0, hi, hz0, hz1, hz2⟩ := info_parts recInfo
  obtain ⟨A, cap, rfl, hcap, h⟩ := h
  have H := Lib.hid h
  clear h
  obtain ⟨w0, hr, hown, hg⟩ := run_make_full (P := Tryz.prog) w w.heap.size 23 52 i0 _ 5 Tryz.underlying23 hi hz0 hz1 .i64 .i64 l.length (by rw [hz2]; omega) (by unfold maxLen; omega) (Nat.le_refl _)
  rw [made_flat] at hown
  have hrow : RowOf w0 w.heap.size (.slice (some ⟨w.heap.size, 0, none⟩) l.length l.length) l.length (List.replicate l.length zR) := ⟨by simp, hown⟩
  have hb0 : Below w.heap.size w w0 := (Below.refl _ _).grown hg (Nat.le_refl _) (fun k hk => by cases hk)
  clear hown hg
  go_enter Tryz.func46, Tryz.ntmps46
  go_wp2
  go_loopw [4] (fun i wr => ∃ (j : Nat) (M : List R), j ≤ l.length ∧ i = .int .i64 j ∧ RowOf wr w.heap.size (.slice (some ⟨w.heap.size, 0, none⟩) l.length l.length) l.length M ∧ Hid (M.take j = l.take j) ∧ Below w.heap.size w wr) (fun i _ => l.length - (intOf i).toNat)
  case atStart => exact ⟨0, _, by omega, rfl, hrow, rfl, hb0⟩
  case round =>
    obtain ⟨j, M, hj, rfl, hrj, HM, hbw⟩ := hrel
    by_cases hlt : j < l.length
    · obtain ⟨b, off, rfl, hb, hcell⟩ := H.out (by omega)
      obtain ⟨c0, c1, c2, c3, c4⟩ := (hcell j l[j] (by simp [hlt])).below hbw hb
      clear hcell
      have hi1 : (j : Int) < (l.length : Int) := by omega
      have hi0 : (0 : Int) ≤ (j : Int) := by omega
      go_wp2_with fail
      refine (toRecord_any _ _ _ _ _ _).mono ?_
      rintro e w1 ⟨rfl, hb1⟩
      have hr1 := hrj.below hb1
      have hm : j < M.length := by rw [hrj.1]; exact hlt
      obtain ⟨d0, d1, d2, d3, d4⟩ := hr1.cells hm
      have hf := hr1.frozen
      have HS := Lib.hid (hr1.store l[j] hm)
      have HT := Lib.hid (set_take hm hlt HM.out)
      have hbw1 := hbw.trans (hb1.mono hbw.size)
      clear hr1 c0 c1 c2 c3 c4
      go_wp2
      go_roundw
      case rel => exact ⟨j + 1, _, by omega, by go_num, HS.out.1, HT, hbw1.grown HS.out.2 hbw1.size (fun k hk => by cases hk; exact Nat.le_refl _)⟩
      case measure => simp [intOf]; omega
    · obtain rfl : j = l.length := by omega
      go_wp2
      go_ret
      refine ⟨_, rfl, hbw, ?_⟩
      have := HM.out
      rw [List.take_of_length_le (by rw [hrj.1]; exact Nat.le_refl _), List.take_of_length_le (Nat.le_refl _)] at this
      subst this
      exact hrj

set_option maxHeartbeats 800000 in
theorem eqRecordS_same (v1 v2 : Value) (l : List R) (w : World) (h1 : RecSl w v1 l) (h2 : RecSl w v2 l) (hl : l.length ≤ 1048576) :
    Calls Tryz.prog 48 #[v1, v2] w fun e w' => e = .returned (.bool true) ∧ Below w.heap.size w w' := by
  obtain ⟨A1, cap1, rfl, hcap1, h1⟩ := h1
  obtain ⟨A2, cap2, rfl, hcap2, h2⟩ := h2
  have H1 := Lib.hid h1
  have H2 := Lib.hid h2
  clear h1 h2
  go_enter Tryz.func48, Tryz.ntmps48
  go_wp2
  go_loopw [5] (fun i wr => ∃ (j : Nat), j ≤ l.length ∧ i = .int .i64 j ∧ Below w.heap.size w wr) (fun i _ => l.length - (intOf i).toNat)
  case atStart => exact ⟨0, by omega, rfl, Below.refl _ _⟩
  case round =>
    obtain ⟨j, hj, rfl, hbw⟩ := hrel
    by_cases hlt : j < l.length
    · obtain ⟨b1, off1, rfl, hb1, hcell1⟩ := H1.out (by omega)
      obtain ⟨b2, off2, rfl, hb2, hcell2⟩ := H2.out (by omega)
      obtain ⟨c0, c1, c2, c3, c4⟩ := (hcell1 j l[j] (by simp [hlt])).below hbw hb1
      obtain ⟨d0, d1, d2, d3, d4⟩ := (hcell2 j l[j] (by simp [hlt])).below hbw hb2
      clear hcell1 hcell2
      have hi1 : (j : Int) < (l.length : Int) := by omega
      have hi0 : (0 : Int) ≤ (j : Int) := by omega
      go_wp2_with fail
      go_still_tail 8, (by kernel_rfl)
      change wpList _ _ _ _ _ wr.drew
      have hbw' : Below w.heap.size w wr.drew := hbw.drew
      clear hbw
      generalize wr.drew = W2 at *
      go_wp2_with fail
      refine (eqRecord_any _ _ _ _ _ _).mono ?_
      rintro e w1 ⟨rfl, hb1⟩
      go_wp2_with fail
      go_roundw
      case rel => exact ⟨j + 1, by omega, by go_num, hbw'.trans (hb1.mono hbw'.size)⟩
      case measure => simp [intOf]; omega
    · obtain rfl : j = l.length := by omega
      go_wp2
      go_ret
      exact ⟨rfl, hbw⟩
end Go.Proofs.YthopokiablgjoaaGreatDoor.Recs

/- Plain facts on paths: a path is its parent and one part; the order of paths is strict and total; what is below a path follows it at once. -/
namespace Go.Proofs.YthopokiablgjoaaGreatDoor

theorem bytesLess_cons (c d : UInt8) (a b : List UInt8) : Op.bytesLess (c :: a) (d :: b) = if c = d then Op.bytesLess a b else decide (c < d) := by
  simp only [Op.bytesLess]
  by_cases h : c = d
  · subst h; simp
  · simp [h]
theorem bytesLess_asymm : ∀ a b : List UInt8, Op.bytesLess a b = true → Op.bytesLess b a = false
  | [], [], h => by simp [Op.bytesLess] at h
  | [], _ :: _, _ => by simp [Op.bytesLess]
  | _ :: _, [], h => by simp [Op.bytesLess] at h
  | c :: a, d :: b, h => by
    rw [bytesLess_cons] at h ⊢
    by_cases e : c = d
    · subst e
      simp only [if_true] at h ⊢
      exact bytesLess_asymm a b h
    · rw [if_neg e] at h
      rw [if_neg (fun x => e x.symm)]
      simp at h ⊢
      exact UInt8.le_of_lt h
theorem bytesLess_total : ∀ a b : List UInt8, Op.bytesLess a b = false → Op.bytesLess b a = false → a = b
  | [], [], _, _ => rfl
  | [], _ :: _, h, _ => by simp [Op.bytesLess] at h
  | _ :: _, [], _, h => by simp [Op.bytesLess] at h
  | c :: a, d :: b, h, k => by
    rw [bytesLess_cons] at h k
    by_cases e : c = d
    · subst e
      simp only [if_true] at h k
      rw [bytesLess_total a b h k]
    · rw [if_neg e] at h
      rw [if_neg (fun x => e x.symm)] at k
      simp at h k
      exact absurd (UInt8.le_antisymm k h) e

theorem lessP_asymm : ∀ A B : List (List UInt8), lessP A B = true → lessP B A = false
  | [], [], h => by simp [lessP] at h
  | [], _ :: _, _ => rfl
  | _ :: _, [], h => by simp [lessP] at h
  | a :: A, b :: B, h => by
    simp only [lessP] at h ⊢
    by_cases e : a = b
    · subst e
      simp only [if_true] at h ⊢
      exact lessP_asymm A B h
    · rw [if_neg e] at h
      rw [if_neg (fun x => e x.symm)]
      exact bytesLess_asymm a b h
theorem lessP_total : ∀ A B : List (List UInt8), lessP A B = false → lessP B A = false → A = B
  | [], [], _, _ => rfl
  | [], _ :: _, h, _ => by simp [lessP] at h
  | _ :: _, [], _, h => by simp [lessP] at h
  | a :: A, b :: B, h, k => by
    simp only [lessP] at h k
    by_cases e : a = b
    · subst e
      simp only [if_true] at h k
      rw [lessP_total A B h k]
    · rw [if_neg e] at h
      rw [if_neg (fun x => e x.symm)] at k
      exact absurd (bytesLess_total a b h k) e
theorem lessP_prefix : ∀ (A : List (List UInt8)) (c : List UInt8) (C : List (List UInt8)), lessP A (A ++ c :: C) = true
  | [], _, _ => rfl
  | a :: A, c, C => by
    simp only [List.cons_append, lessP, if_true]
    exact lessP_prefix A c C
/-! ### A path is its parent and one part -/
theorem cut_parent (l : List UInt8) : cutAt 47 l = (cutAt 47 l).dropLast ++ [(cutAt 47 l).getLast (cutAt_ne 47 l)] := (List.dropLast_concat_getLast (cutAt_ne 47 l)).symm
theorem last_part {l : List UInt8} (h : pathB l = true) : partB ((cutAt 47 l).getLast (cutAt_ne 47 l)) = true :=
  List.all_eq_true.1 (pathB_parts h).2 _ (List.getLast_mem _)
theorem clean_of_all {L : List (List UInt8)} (h : L.all partB = true) (hn : L ≠ []) : cutAt 47 (Lib.join L [47]) = L := by
  induction L with
  | nil => exact absurd rfl hn
  | cons a r ih =>
    simp only [List.all_cons, Bool.and_eq_true] at h
    cases r with
    | nil => rw [Lib.join_one, cut_last h.1]
    | cons b t =>
      rw [join_two, cutAt_append, cut_last h.1, ih h.2 (by simp)]
      rfl
/-- What the parent of a path is: the root, or a path of one part less. -/
theorem parent_cases {l : List UInt8} (h : pathB l = true) :
    (parentL l = [] ∧ cutAt 47 l = [l] ∧ partB l = true) ∨
    (pathB (parentL l) = true ∧ cutAt 47 (parentL l) = (cutAt 47 l).dropLast ∧ parentL l ≠ [] ∧ l = parentL l ++ 47 :: (cutAt 47 l).getLast (cutAt_ne 47 l) ∧ (cutAt 47 l).dropLast ≠ []) := by
  obtain ⟨h4, ha⟩ := pathB_parts h
  have e := cut_parent l
  by_cases hd : (cutAt 47 l).dropLast = []
  · left
    rw [hd] at e
    have e2 := join_cut l
    rw [e, List.nil_append, Lib.join_one] at e2
    have hl := last_part h
    refine ⟨by unfold parentL; rw [hd]; rfl, ?_, by rw [e2] at hl; exact hl⟩
    rw [e, List.nil_append, e2]
  · right
    have hall : (cutAt 47 l).dropLast.all partB = true := by
      rw [List.all_eq_true] at ha ⊢
      exact fun x hx => ha x ((List.dropLast_sublist _).subset hx)
    have hc := clean_of_all hall hd
    have hp : pathB (parentL l) = true := by
      unfold pathB parentL
      rw [hc, hall, decide_eq_true (by rw [List.length_dropLast]; omega)]
      rfl
    refine ⟨hp, hc, pathB_ne hp, ?_, hd⟩
    have e2 := join_cut l
    rw [e, join_snoc _ hd] at e2
    exact e2.symm

end Go.Proofs.YthopokiablgjoaaGreatDoor

/- Layers as plain lists of records: in a layer the paths increase, so each path is there once; a parent that is no root stands before its record, and is a directory; how far up one can go. -/
namespace Go.Proofs.YthopokiablgjoaaGreatDoor.Recs
open Go.RowKit Paths

theorem bytesLess_trans : ∀ a b c : List UInt8, Op.bytesLess a b = true → Op.bytesLess b c = true → Op.bytesLess a c = true
  | [], [], _, h, _ => by simp [Op.bytesLess] at h
  | [], _ :: _, [], _, k => by simp [Op.bytesLess] at k
  | [], _ :: _, _ :: _, _, _ => by simp [Op.bytesLess]
  | _ :: _, [], _, h, _ => by simp [Op.bytesLess] at h
  | _ :: _, _ :: _, [], _, k => by simp [Op.bytesLess] at k
  | x :: a, y :: b, z :: c, h, k => by
    rw [bytesLess_cons] at h k ⊢
    by_cases e1 : x = y
    · subst e1
      by_cases e2 : x = z
      · subst e2
        simp only [if_true] at h k ⊢
        exact bytesLess_trans a b c h k
      · rw [if_neg e2] at k ⊢
        exact k
    · rw [if_neg e1] at h
      by_cases e2 : y = z
      · subst e2
        rw [if_neg e1]
        exact h
      · rw [if_neg e2] at k
        simp only [decide_eq_true_eq] at h k
        have h3 := UInt8.lt_trans h k
        rw [if_neg (fun e => by rw [e] at h3; exact absurd h3 (UInt8.lt_irrefl _))]
        simpa using h3
theorem lessP_trans : ∀ A B C : List (List UInt8), lessP A B = true → lessP B C = true → lessP A C = true
  | [], [], _, h, _ => by simp [lessP] at h
  | [], _ :: _, [], _, k => by simp [lessP] at k
  | [], _ :: _, _ :: _, _, _ => rfl
  | _ :: _, [], _, h, _ => by simp [lessP] at h
  | _ :: _, _ :: _, [], _, k => by simp [lessP] at k
  | a :: A, b :: B, c :: C, h, k => by
    simp only [lessP] at h k ⊢
    by_cases e1 : a = b
    · subst e1
      by_cases e2 : a = c
      · subst e2
        simp only [if_true] at h k ⊢
        exact lessP_trans A B C h k
      · rw [if_neg e2] at k ⊢
        simp only [if_true] at h
        exact k
    · rw [if_neg e1] at h
      by_cases e2 : b = c
      · subst e2
        rw [if_neg e1]
        exact h
      · rw [if_neg e2] at k
        have h3 := bytesLess_trans a b c h k
        rw [if_neg (fun e => by rw [e] at h3; rw [bytesLess_irrefl] at h3; cases h3)]
        exact h3
theorem lessP_irrefl (A : List (List UInt8)) : lessP A A = false := by
  rcases Bool.eq_false_or_eq_true (lessP A A) with h | h
  · have := lessP_asymm A A h; rw [h] at this; cases this
  · exact h

def lessR (x r : R) : Bool := lessP (cutAt 47 x.p.data.toList) (cutAt 47 r.p.data.toList)

/-- What a record that is fine says: the one before is less; the parent, where there is one, stands before, and is a directory. -/
theorem codeAt_parts {l : List R} {i : Nat} {r : R} (h : codeAt l i r = 0) :
    (∀ x, beforeL l i = some x → lessR x r = true) ∧ (parentL r.p.data.toList ≠ [] → 0 ≤ atL (l.take i) (parO r.p) ∧ ∀ x, l[(atL (l.take i) (parO r.p)).toNat]? = some x → x.k = 3) := by
  unfold codeAt at h
  split at h
  · cases h
  split at h
  · rename_i h1 h2; exact absurd h h2
  split at h
  · cases h
  split at h
  · cases h
  rename_i h4
  refine ⟨fun x hx => ?_, fun hp => ?_⟩
  · rw [hx] at h4
    simpa [lessR] using h4
  · rw [if_neg hp] at h
    split at h
    · cases h
    split at h
    · cases h
    rename_i h5 h6
    refine ⟨by omega, fun x hx => ?_⟩
    rw [hx] at h6
    simpa using h6

theorem layer_next {l : List R} (h : layerOK l = true) {i : Nat} (hi : i + 1 < l.length) : lessR (l[i]'(by omega)) l[i + 1] = true := by
  refine (codeAt_parts (layer_all h hi)).1 _ ?_
  unfold beforeL
  rw [if_neg (by omega)]
  simp [show i < l.length by omega]
theorem layer_less {l : List R} (h : layerOK l = true) : ∀ (n i j : Nat) (hj : j < l.length) (hij : j = i + 1 + n), lessR (l[i]'(by omega)) l[j] = true := by
  intro n
  induction n with
  | zero => intro i j hj hij; subst hij; exact layer_next h hj
  | succ n ih =>
    intro i j hj hij
    subst hij
    have h1 := ih i (i + 1 + n) (by omega) rfl
    have h2 := layer_next h (i := i + 1 + n) (by omega)
    exact lessP_trans _ _ _ h1 h2
theorem layer_lt {l : List R} (h : layerOK l = true) {i j : Nat} (hj : j < l.length) (hij : i < j) : lessR (l[i]'(by omega)) l[j] = true :=
  layer_less h (j - i - 1) i j hj (by omega)
/-- The parent of a record of a layer, where it is no root, stands before it and is a directory. -/
theorem layer_parent {l : List R} (h : layerOK l = true) {i : Nat} (hi : i < l.length) (hp : parentL l[i].p.data.toList ≠ []) :
    ∃ k, ∃ hk : k < i, (l[k]'(by omega)).p = parO l[i].p ∧ (l[k]'(by omega)).k = 3 := by
  obtain ⟨h1, h2⟩ := (codeAt_parts (layer_all h hi)).2 hp
  rcases atL_cases (l.take i) (parO l[i].p) with ⟨h3, _⟩ | ⟨k, hk, h3, h4, _⟩
  · omega
  · have hki : k < i := by rw [List.length_take] at hk; omega
    refine ⟨k, hki, by simpa using h4, h2 _ ?_⟩
    rw [h3]
    simp [show k < l.length by omega]

/-- How many parts a path has: one less for its parent. -/
theorem parts_parent {q : ByteArray} (h : pathB q.data.toList = true) (hp : parentL q.data.toList ≠ []) :
    pathB (parO q).data.toList = true ∧ (cutAt 47 (parO q).data.toList).length + 1 = (cutAt 47 q.data.toList).length := by
  rcases parent_cases h with ⟨h1, _⟩ | ⟨h1, h2, _, _, h5⟩
  · exact absurd h1 hp
  · rw [parO_data, h2]
    refine ⟨h1, ?_⟩
    rw [List.length_dropLast]
    have : (cutAt 47 q.data.toList).length ≠ 0 := fun e => cutAt_ne 47 _ (List.eq_nil_of_length_eq_zero e)
    omega
/-- Any bound that reaches the parts serves. -/
theorem underF_more (l : List R) : ∀ (n : Nat) (q : ByteArray), pathB q.data.toList = true → (cutAt 47 q.data.toList).length ≤ n → ∀ m, n ≤ m → underF m l q = underF n l q := by
  intro n
  induction n with
  | zero =>
    intro q _ hl
    exact absurd (List.eq_nil_of_length_eq_zero (show (cutAt 47 q.data.toList).length = 0 by omega)) (cutAt_ne 47 _)
  | succ n ih =>
    intro q hq hl m hm
    obtain ⟨m', rfl⟩ : ∃ m', m = m' + 1 := ⟨m - 1, by omega⟩
    simp only [underF]
    by_cases hp : parentL q.data.toList = []
    · rw [if_pos hp, if_pos hp]
    · obtain ⟨h1, h2⟩ := parts_parent hq hp
      rw [if_neg hp, if_neg hp, ih (parO q) h1 (by omega) m' (by omega)]
theorem underL_step (l : List R) {q : ByteArray} (h : pathB q.data.toList = true) : underL l q = if parentL q.data.toList = [] then false else opaqueAt l (parO q) || underL l (parO q) := by
  have e : underL l q = if parentL q.data.toList = [] then false else opaqueAt l (parO q) || underF 3 l (parO q) := rfl
  by_cases hp : parentL q.data.toList = []
  · rw [e, if_pos hp, if_pos hp]
  · obtain ⟨h1, h2⟩ := parts_parent h hp
    have h3 := (pathB_parts h).1
    have h4 : underL l (parO q) = underF 3 l (parO q) := underF_more l 3 (parO q) h1 (by omega) 4 (by omega)
    rw [e, if_neg hp, if_neg hp, h4]
end Go.Proofs.YthopokiablgjoaaGreatDoor.Recs

/- Layers as plain lists of records: when a list is a layer; the records of a canonical form; it is a layer. -/
namespace Go.Proofs.YthopokiablgjoaaGreatDoor.Recs
open Go.RowKit Paths

/-- Increasing paths. -/
def Sorted (l : List R) : Prop := l.Pairwise fun x r => lessR x r = true
theorem layer_sorted {l : List R} (h : layerOK l = true) : Sorted l := by
  unfold Sorted
  rw [List.pairwise_iff_getElem]
  exact fun i j _ hj hij => layer_lt h hj hij

/-- The parent of each record, where it is no root, is a directory of the list. -/
def Housed (l : List R) : Prop := ∀ r ∈ l, parentL r.p.data.toList ≠ [] → ∃ x ∈ l, x.p = parO r.p ∧ x.k = 3
theorem layer_housed {l : List R} (h : layerOK l = true) : Housed l := by
  intro r hr hp
  obtain ⟨i, hi, rfl⟩ := List.getElem_of_mem hr
  obtain ⟨k, hk, h1, h2⟩ := layer_parent h hi hp
  exact ⟨_, List.getElem_mem _, h1, h2⟩

theorem lessR_irrefl (r : R) : lessR r r = false := lessP_irrefl _
theorem parent_less {q : ByteArray} (h : pathB q.data.toList = true) (hp : parentL q.data.toList ≠ []) : lessP (cutAt 47 (parO q).data.toList) (cutAt 47 q.data.toList) = true := by
  rcases parent_cases h with ⟨h1, _⟩ | ⟨_, h2, _, _, _⟩
  · exact absurd h1 hp
  · have e := cut_parent q.data.toList
    rw [parO_data, h2]
    rw [e]
    simp only [List.dropLast_concat]
    exact lessP_prefix _ _ _

theorem sorted_get {l : List R} (h : Sorted l) {i j : Nat} (hj : j < l.length) (hij : i < j) : lessR (l[i]'(by omega)) l[j] = true :=
  (List.pairwise_iff_getElem.1 h) i j (by omega) hj hij
theorem sorted_once {l : List R} (h : Sorted l) {i j : Nat} (hi : i < l.length) (hj : j < l.length) (he : l[i].p = l[j].p) : i = j := by
  rcases Nat.lt_trichotomy i j with h1 | h1 | h1
  · have := sorted_get h hj h1
    unfold lessR at this; rw [he, lessP_irrefl] at this; cases this
  · exact h1
  · have := sorted_get h hi h1
    unfold lessR at this; rw [he, lessP_irrefl] at this; cases this

/-! ### The canonical form -/
theorem canonR_path {l : List R} {r x : R} (h : canonR l r = some x) : x.p = r.p ∧ x.k = r.k ∧ x.b = r.b ∧ x.m = r.m ∧ (x.o = true → r.o = true) := by
  unfold canonR at h
  split at h
  · split at h
    · cases h
    · cases h; exact ⟨rfl, rfl, rfl, rfl, fun h => by cases h⟩
  · cases h; exact ⟨rfl, rfl, rfl, rfl, fun h => by simp at h; exact h.1⟩
theorem canonR_dir {l : List R} {r : R} (h : r.k = 3) : ∃ x, canonR l r = some x := by
  unfold canonR
  split
  · rw [if_neg (by omega)]; exact ⟨_, rfl⟩
  · exact ⟨_, rfl⟩
theorem canonR_fault {l : List R} {r x : R} (h : canonR l r = some x) (hr : r.fault = 0) : x.fault = 0 := by
  obtain ⟨h1, h2, h3, h4, h5⟩ := canonR_path h
  unfold R.fault at hr ⊢
  rw [h1, h2, h3, h4]
  cases hx : x.o with
  | true => rw [h5 hx] at hr; exact hr
  | false =>
    cases ho : r.o with
    | false => rw [ho] at hr; exact hr
    | true =>
      rw [ho] at hr
      unfold faultI at hr ⊢
      split at hr
      · cases hr
      split at hr
      · cases hr
      split at hr
      · cases hr
      split at hr
      · cases hr
      split at hr
      · cases hr
      rename_i a1 a2 a3 a4 a5
      rw [if_neg a1, if_neg a2, if_neg a3, if_neg (by simp only [Bool.false_eq_true, false_and, or_false]; omega), if_neg a5]
theorem mem_canon {l : List R} {x : R} : x ∈ canonL l ↔ ∃ r ∈ l, canonR l r = some x := by
  unfold canonL
  rw [List.mem_filterMap]
theorem canon_sorted {l : List R} (h : Sorted l) : Sorted (canonL l) := by
  unfold Sorted canonL
  rw [List.pairwise_filterMap]
  refine List.Pairwise.imp (fun {a b} hab x hx y hy => ?_) h
  unfold lessR at hab ⊢
  rw [(canonR_path hx).1, (canonR_path hy).1]
  exact hab
end Go.Proofs.YthopokiablgjoaaGreatDoor.Recs
